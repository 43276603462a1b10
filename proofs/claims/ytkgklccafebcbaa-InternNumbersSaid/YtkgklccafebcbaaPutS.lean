/- Walk of layer 15: Put, of texts. -/
import Derived.Test.YtkgklccafebcbaaAskS
namespace Go.Proofs.Ytkgklccafebcbaa.IntW
set_option linter.unusedVariables false
open Go.RowKit Go.Maps

theorem infoS : (Try.prog.info? 9).map (fun i => (i.zero, i.size, i.bytes)) = some (some (.string ⟨#[]⟩), 1, 16) := by kernel_rfl
/-- What a Put of x answers, and leaves behind. -/
def PutR (k T : TypeId) (s : Nat) (w : World) (p m : Nat) (v : Value) (l : List Value) (N : Nat) (x : Value) (e : Ending) (w' : World) : Prop :=
  ∃ v' l' i b, e = .returned (.tuple #[.int .i64 i, .bool b]) ∧ Tbl Try.prog k T 3 s w' p m v' l' (N + 1) ∧ But w.heap.size (Bl p m v) w w' ∧ (∀ c, v'.ownBlock = some c → v.ownBlock = some c ∨ w.heap.size ≤ c) ∧
    ((x ∈ l ∧ l' = l ∧ b = false ∧ Ix l x i) ∨ (x ∉ l ∧ l' = l ++ [x] ∧ b = true ∧ i = (l.length : Nat)))
theorem owns_succ {w : World} {base : Nat} {e : TypeId} {s : Nat} {v : Value} {n : Nat} {xs : List Value} (h : w.ownsRow base e s v (n + 1) xs) : ∃ g cap : Nat, v = .slice (some ⟨g, 0, none⟩) (n + 1) cap := by
  rcases h.2 with ⟨_, h⟩ | ⟨g, cap, _, h, _⟩
  · omega
  · exact ⟨g, cap, h⟩
theorem owns_map_heap {P : Program} {k : TypeId} {H : Type} {R : Value → Option (DataW H × List MemPlace)} {w w' : World} {b n : Nat} {D : DataW H} (h : w.ownsMap P k R b n D) (hh : w'.heap[b]? = w.heap[b]?) : w'.ownsMap P k R b n D := by
  obtain ⟨es, clock, hb, r⟩ := h
  exact ⟨es, clock, by rw [hh]; exact hb, r⟩
theorem Tbl.apart {P : Program} {k T tI : TypeId} {s : Nat} {w : World} {p m : Nat} {v : Value} {l : List Value} {N : Nat} (hTk : T ≠ k) (h : Tbl P k T tI s w p m v l N) : p ≠ m ∧ v.ownBlock ≠ some p ∧ v.ownBlock ≠ some m := by
  obtain ⟨xs0, h1, _⟩ := h.row
  obtain ⟨D0, ⟨es, clock, hm, _⟩, _⟩ := h.map
  refine ⟨?_, fun e => ?_, fun e => ?_⟩
  · rintro rfl; rw [h.blk] at hm; cases hm
  · obtain ⟨_, cur, hc⟩ := owns_cells h1 e
    rw [h.blk] at hc
    injection hc with hc
    injection hc with _ hc
    exact hTk hc
  · obtain ⟨_, cur, hc⟩ := owns_cells h1 e
    rw [hm] at hc; cases hc
/-- What stands behind a Put's append. -/
structure Pushed (k T tI : TypeId) (s : Nat) (w1 w2 : World) (p m : Nat) (v v' : Value) (l : List Value) (x : Value) (N : Nat) : Prop where
  row : ∃ xs, w2.ownsRow 0 k s v' (l.length + 1) xs ∧ (s = 1 → xs = l ++ [x])
  at' : v'.ownBlock = v.ownBlock ∨ ∃ b, v'.ownBlock = some b ∧ w1.heap.size ≤ b
  but : But w1.heap.size (fun b => v.ownBlock = some b) w1 w2
  c0 : w2.cell? ⟨p, 0, none⟩ = some (.map (some m))
  c1 : w2.cell? ⟨p, 1, none⟩ = some v
  f1 : w2.frozen? ⟨p, 1, none⟩ = false
  map : ∃ D : DataW Unit, (w2.setCell ⟨p, 1, none⟩ v').ownsMap Try.prog k (plainElem Try.prog tI) m N D ∧ Rd Try.prog k D l (fun _ => True)
theorem pushed_of {k T tI : TypeId} {s : Nat} {w1 w2 : World} {p m : Nat} {v v' : Value} {l : List Value} {x : Value} {N : Nat} (hTk : T ≠ k) (h : Tbl Try.prog k T tI s w1 p m v l N) {xs news : List Value} (hn : s = 1 → news = [x]) (hxs : s = 1 → xs = l) {tmp : Obj}
    (hown : w2.ownsRow 0 k s v' (l.length + 1) (xs ++ news)) (hg : (w1.alloc tmp).grownBy w2 v.ownBlock) (hat : v'.ownBlock = v.ownBlock ∨ v'.ownBlock = some (w1.alloc tmp).heap.size) : Pushed k T tI s w1 w2 p m v v' l x N := by
  obtain ⟨h1, h2, h3⟩ := h.apart hTk
  have hpl := h.lt (b := p) (.inl rfl)
  have hml := h.lt (b := m) (.inr (.inl rfl))
  have hb : But w1.heap.size (fun b => v.ownBlock = some b) w1 w2 := ((But.refl _ _ w1).alloc (Nat.le_refl _) tmp).grown hg (by simp) (fun b e => .inr e)
  obtain ⟨D, hD, hrd⟩ := h.map
  have e1 : w2.heap[p]? = w1.heap[p]? := hb.block p hpl h2
  have e2 : w2.heap[m]? = w1.heap[m]? := hb.block m hml h3
  have hblk : w2.heap[p]? = some (.cells #[.map (some m), v] T (0, 0)) := by rw [e1]; exact h.blk
  refine ⟨⟨_, hown, fun hs => by rw [hxs hs, hn hs]⟩, ?_, hb, by simp [World.cell?, hblk], by simp [World.cell?, hblk], by simp [World.frozen?, hblk], ⟨D, (owns_map_heap hD e2).setCell (fun e => h1 e.symm) _, hrd⟩⟩
  rcases hat with e | e
  · exact .inl e
  · exact .inr ⟨_, e, by simp⟩
theorem put_done {k T : TypeId} {s : Nat} {w w1 w2 w4 : World} {p m : Nat} {v v' : Value} {l : List Value} {x : Value} {lx : Lit} {N : Nat} {D : DataW Unit} (hTk : T ≠ k) (K : Keyed Try.prog k) (hT : Tbl Try.prog k T 3 s w1 p m v l N) (hb : Below w.heap.size w w1) (hx : x ∉ l) (hk : keyOf Try.prog k x = some lx)
    (hP : Pushed k T 3 s w1 w2 p m v v' l x N) (hD : (w2.setCell ⟨p, 1, none⟩ v').ownsMap Try.prog k (plainElem Try.prog 3) m N D) (hrd : Rd Try.prog k D l (fun _ => True))
    (hD4 : w4.ownsMap Try.prog k (plainElem Try.prog 3) m (N + 1) (D.put lx (.lit (.int .i64 (l.length : Nat))))) (hg4 : (w2.setCell ⟨p, 1, none⟩ v').grownBy w4 (some m)) :
    PutR k T s w p m v l N x (.returned (.tuple #[.int .i64 (l.length : Nat), .bool true])) w4 := by
  obtain ⟨xs, hrow, hxs⟩ := hP.row
  obtain ⟨h1, h2, h3⟩ := Tbl.pushed hTk hT hx hk hrow hxs hP.at' hP.but hD4 (hrd.put K hD.isMap hk hx) hg4
  exact ⟨v', l ++ [x], _, true, rfl, h1, (But.of _ hb).trans (h2.mono hb.size (fun _ _ h => h)), fun c hc => (h3 c hc).imp id (fun h => Nat.le_trans hb.size h), .inr ⟨hx, rfl, rfl, rfl⟩⟩
theorem ba_eq (s : ByteArray) : (s.toList == s.toList) = true := by simp
set_option maxHeartbeats 1000000 in
theorem PutS (s : ByteArray) (hs : s.size ≤ maxLen) {w : World} {p m : Nat} {v : Value} {l : List Value} {N : Nat} (h : TblS w p m v l N) (hN : N ≤ 1000000) :
    Calls Try.prog 8 #[.pointer (some ⟨p, 0, none⟩), .string s] w (PutR 9 56 1 w p m v l N (.string s)) := by
  have HL := Lib.hid (lookS s hs h)
  have HT := Lib.hid h
  clear h
  by_cases hx : (Value.string s) ∈ l
  · have HX := Lib.hid hx
    clear hx
    go_enter Try.func8, Try.ntmps8
    go_wp2_with fail
    refine HL.out.mono ?_
    rintro e w1 ⟨i, hi, rfl, hb⟩
    have hge : (0 : Int) ≤ i := by
      rcases hi with ⟨j, rfl, _⟩ | ⟨_, h⟩
      · omega
      · exact absurd HX.out h
    have HI := Lib.hid hi; have HB := Lib.hid hb
    clear hi hb HL
    go_wp2_with fail
    go_ret2
    exact ⟨v, l, i, false, rfl, (HT.out.below HB.out).mono (by omega), But.of _ HB.out, fun c h => .inl h, .inl ⟨HX.out, rfl, rfl, HI.out⟩⟩
  · have HX := Lib.hid hx
    clear hx
    go_enter Try.func8, Try.ntmps8
    go_wp2_with fail
    refine HL.out.mono ?_
    rintro e w1 ⟨i, hi, rfl, hb⟩
    obtain rfl : i = -1 := by
      rcases hi with ⟨j, rfl, h⟩ | ⟨h, _⟩
      · exact absurd (List.mem_of_getElem? h) HX.out
      · exact h
    have hT := HT.out.below hb
    have HB := Lib.hid hb
    clear hi hb HL
    have c0 := hT.c0
    have c1 := hT.c1
    have f1 := hT.f1 1
    obtain ⟨a, c, rfl, _, _⟩ := hT.shape
    obtain ⟨xs, hrow, hxs⟩ := hT.row
    have HXS := Lib.hid (hxs rfl)
    have hlen := hT.len
    have HT1 := Lib.hid hT
    clear hT hxs
    obtain ⟨L, hL⟩ : ∃ L, L = l.length := ⟨_, rfl⟩
    rw [← hL] at HT1 HT c1 hrow hlen
    have HLN := Lib.hid hL
    have HW := Lib.hid (show L + 1 ≤ maxLen ∧ (L + 1) * 16 ≤ 140737488355328 ∧ (Lit.int .i64 (L : Int)).wf = true ∧ N < maxLen from ⟨by unfold maxLen; omega, by omega, WalkArith.wf_i64 (by omega), by unfold maxLen; omega⟩)
    clear hL hlen hN
    obtain ⟨i0, hi, hz0, hz1, hz2⟩ := info_parts infoS
    have hkey := WideMaps.keyOf_string_mk (P := Try.prog) Try.underlying9 hs
    have hse := ba_eq s
    go_wp2_with (first | (at_builtin; refine wpList_append_own_at _ rfl (.tmp 30) (.tmp 32) 26 rfl 0 9 i0 (.string ⟨#[]⟩) 1 16 Try.underlying26 hi hz0 hz1 hz2 rfl (by decide) _ _ _ rfl (hrow.alloc _) ⟨w1.heap.size, 0, none⟩ 1 1 [.string s] rfl rfl (cell_one_new _ _ _) (by simp [Value.oneCell']) HW.out.1 HW.out.2.1 (Nat.zero_le _) ?_; intro v2 w2 hown hg _ hat; obtain ⟨g2, cap2, rfl⟩ := owns_succ hown; have HP := Lib.hid (pushed_of (k := 9) (T := 56) (tI := 3) (s := 1) (l := l) (x := .string s) (N := N) (by decide) HT1.out (fun _ => rfl) (fun _ => HXS.out) (by rw [← HLN.out]; exact hown) hg hat); clear hown hg hat; have d0 := HP.out.c0; have d1 := HP.out.c1; have g1 := HP.out.f1; obtain ⟨D, hD, hrd⟩ := HP.out.map; have HRD := Lib.hid hrd; clear hrd) | (at_mapUpdate; refine wpList_mapUpdate_own _ rfl _ _ _ 54 rfl 9 3 lawS Try.underlying54 _ m N D rfl hD HW.out.2.2.2 _ _ _ rfl rfl hkey _ [] (plainElem_int Try.underlying3 HW.out.2.2.1) ?_; intro w4 hD4 hg4))
    go_ret2
    have hlen := HLN.out
    subst hlen
    exact put_done (by decide) lawS HT1.out HB.out HX.out hkey HP.out hD HRD.out hD4 hg4
end Go.Proofs.Ytkgklccafebcbaa.IntW
