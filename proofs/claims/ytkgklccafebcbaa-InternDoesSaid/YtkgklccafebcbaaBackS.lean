/- Walk of layer 15: Back, of texts. -/
import Derived.Test.YtkgklccafebcbaaRefS
import Derived.Deep.RegionWith
import Derived.Deep.RegionHeld3
namespace Go.Proofs.Ytkgklccafebcbaa.IntW
set_option linter.unusedVariables false
open Go.RowKit Go.Maps

theorem setCells_block (g : Nat) (e : TypeId) : ∀ (vs : List Value) (o : Nat) (w : World) (cur : Array Value), w.heap[g]? = some (.cells cur e (0, 0)) → ∃ cur', (w.setCells g o vs).heap[g]? = some (.cells cur' e (0, 0)) ∧ cur'.size = cur.size
  | [], _, _, cur, h => ⟨cur, h, rfl⟩
  | v :: vs, o, w, cur, h => by
    have h1 : (w.setCell ⟨g, o, none⟩ v).heap[g]? = some (.cells (cur.setIfInBounds o v) e (0, 0)) := by
      rw [World.setCell]; simp [Array.getElem?_modify, h]
    obtain ⟨cur', h2, h3⟩ := setCells_block g e vs (o + 1) _ _ h1
    exact ⟨cur', h2, by rw [h3]; simp⟩
theorem setCells_but (g : Nat) : ∀ (vs : List Value) (o : Nat) (w : World), But w.heap.size (fun b => b = g) w (w.setCells g o vs)
  | [], _, w => But.refl _ _ w
  | v :: vs, o, w => by
    have h := setCells_but g vs (o + 1) (w.setCell ⟨g, o, none⟩ v)
    have h1 : But w.heap.size (fun b => b = g) w (w.setCell ⟨g, o, none⟩ v) := (But.refl w.heap.size (fun b => b = g) w).set (p := ⟨g, o, none⟩) (.inr rfl) v
    exact h1.trans (h.mono (by simp [World.setCell]) (fun _ _ h => h))
theorem drewN_heap (w : World) (q : Nat) : (w.drewN q).heap = w.heap := by induction q generalizing w <;> rfl
theorem DelS {w : World} {g cap n : Nat} {ss : List ByteArray} (h : StrRow w (.slice (some ⟨g, 0, none⟩) ss.length cap) ss) (hn : n ≤ ss.length) :
    Calls Try.prog 28 #[.slice (some ⟨g, 0, none⟩) ss.length cap, .int .i64 n, .int .i64 ss.length] w fun e w' =>
      e = .returned (.slice (some ⟨g, 0, none⟩) n cap) ∧ StrRow w' (.slice (some ⟨g, 0, none⟩) n cap) (ss.take n) ∧ But w.heap.size (fun b => b = g) w w' := by
  rcases h.2 with ⟨h0, _⟩ | ⟨g', cap', cur, h0, _, hg, hl, hc, hs, ht⟩
  · simp at h0
  simp at h0
  obtain ⟨rfl, rfl⟩ := h0
  have hcell : ∀ i, i < ss.length → w.cell? ⟨g, 0 + i, none⟩ = some (.string (ss.getD i ByteArray.empty)) := fun i hi => by
    rw [Nat.zero_add, World.ownsRow.cellAt h i (by omega)]; simp [List.getD, hi]
  refine (Try.slices_Delete_string_cells g 0 ss.length cap n ss.length (fun i => ss.getD i ByteArray.empty) w hl (by unfold maxLen at hc; omega) hn (Nat.le_refl _) hcell (fun j hj => World.ownsRow.frozenAt h _)).mono ?_
  rintro e w' ⟨rfl, q, rfl⟩
  have hq : (w.drewN q).heap[g]? = some (.cells cur 9 (0, 0)) := by rw [drewN_heap]; exact hg
  generalize hvs : (((Lib.strsOf (fun i => ss.getD i ByteArray.empty) ss.length).take n ++ (Lib.strsOf (fun i => ss.getD i ByteArray.empty) ss.length).drop ss.length ++ List.replicate (ss.length - n) []).map encStr) = vs
  have hvl : vs.length = ss.length := by
    rw [← hvs]; simp [Lib.strsOf_length]; omega
  have hva : ∀ j, j < n → vs[j]? = some (.string (ss.getD j ByteArray.empty)) := fun j hj => by
    rw [← hvs, List.getElem?_map, List.append_assoc, List.getElem?_append_left (by simp [Lib.strsOf_length]; omega), List.getElem?_take, if_pos hj]
    simp [Lib.strsOf, show j < ss.length by omega, encStr]
  obtain ⟨cur', h1, h2⟩ := setCells_block g 9 vs 0 _ _ hq
  refine ⟨by rw [show ss.length - (ss.length - n) = n by omega], ⟨by simp, .inr ⟨g, cap, cur', ?_, Nat.zero_le _, h1, ?_, hc, by omega, ?_⟩⟩, ?_⟩
  · rw [List.length_take, Nat.min_eq_left hn]
  · rw [List.length_take]; omega
  · rw [List.length_take, Nat.min_eq_left hn, Nat.mul_one]
    apply List.ext_getElem?
    intro j
    by_cases hj : j < n
    · rw [List.getElem?_take, if_pos hj]
      have hin := World.cell?_setCells_in g vs 0 (w.drewN q) (fun j hj => by
        have := cell_of_row (w.drewN q) g (0 + j) cur 9 (0, 0) hq
        rw [this, Array.getElem?_eq_getElem (by omega)]; rfl) j (by omega)
      rw [cell_of_row _ g (0 + j) cur' 9 (0, 0) h1, Nat.zero_add] at hin
      rw [Array.getElem?_toList, hin]
      have := hva j hj
      rw [List.getElem?_eq_getElem (by omega)] at this
      rw [this, List.getElem?_map, List.getElem?_take, if_pos hj, List.getElem?_eq_getElem (by omega)]
      simp [List.getD, show j < ss.length by omega]
    · rw [List.getElem?_eq_none (by simp; omega), List.getElem?_eq_none (by simp; omega)]
  · have h3 := setCells_but g vs 0 (w.drewN q)
    have h4 : But w.heap.size (fun b => b = g) w (w.drewN q) := ⟨rfl, rfl, rfl, Nat.le_refl _, fun _ _ _ => rfl⟩
    exact h4.trans h3
/-- What a Back leaves behind. -/
def BackR (w : World) (p m : Nat) (v : Value) (l : List Value) (n : Int) (N : Nat) (e : Ending) (w' : World) : Prop :=
  e = .returned (.tuple #[]) ∧ ∃ v', TblS w' p m v' (l.take (max n 0).toNat) N ∧ But w.heap.size (Bl p m v) w w' ∧ ∀ c, v'.ownBlock = some c → v.ownBlock = some c ∨ w.heap.size ≤ c
theorem BackS_none (n : Int) {w : World} {p m : Nat} {v : Value} {l : List Value} {N : Nat} (h : TblS w p m v l N) (hn : (l.length : Int) ≤ max n 0) :
    Calls Try.prog 12 #[.pointer (some ⟨p, 0, none⟩), .int .i64 n] w (BackR w p m v l n N) := by
  have HT := Lib.hid h
  clear h
  go_enter Try.func12, Try.ntmps12
  go_wp2_with fail
  refine (LenS HT.out).mono ?_
  rintro e w1 ⟨rfl, rfl⟩
  go_wp2_with fail
  refine bodyPost_ret (results_none rfl _ _ _) rfl ⟨rfl, v, ?_, But.refl _ _ _, fun c h => .inl h⟩
  rw [List.take_of_length_le (by omega)]
  exact HT.out
theorem back_done {w1 wr w3 : World} {p m g c k L N : Nat} {ss : List ByteArray} {n : Int} {D : DataW Unit} (hkt : (max n 0).toNat = k) (hL : ss.length = L) (hkL : k ≤ L) (hT : TblS w1 p m (.slice (some ⟨g, 0, none⟩) L c) (ss.map .string) N) (hb : But w1.heap.size (fun b => b = m) w1 wr)
    (hD : wr.ownsMap Try.prog 9 (plainElem Try.prog 3) m N D) (hrd : Rd Try.prog 9 D (ss.map .string) (fun i => i < k ∨ (k + (L - k) ≤ i ∧ i < L))) (hrow : StrRow w3 (.slice (some ⟨g, 0, none⟩) k c) (ss.take k)) (hb3 : But wr.heap.size (fun b => b = g) wr w3) :
    BackR w1 p m (.slice (some ⟨g, 0, none⟩) L c) (ss.map .string) n N (.returned (.tuple #[])) (w3.setCell ⟨p, 1, none⟩ (.slice (some ⟨g, 0, none⟩) k c)) := by
  obtain ⟨h1, h2, h3⟩ := hT.apart (by decide)
  have hgp : g ≠ p := by simpa [Value.ownBlock] using h2
  have hgm : g ≠ m := by simpa [Value.ownBlock] using h3
  have hpw : p < w1.heap.size := hT.lt (.inl rfl)
  have hmw : m < w1.heap.size := hT.lt (.inr (.inl rfl))
  have hpr : w3.heap[p]? = some (.cells #[.map (some m), .slice (some ⟨g, 0, none⟩) L c] 56 (0, 0)) := by
    rw [hb3.block p (Nat.lt_of_lt_of_le hpw hb.size) (fun e => hgp e.symm), hb.block p hpw h1]; exact hT.blk
  have hmr : w3.heap[m]? = wr.heap[m]? := hb3.block m (Nat.lt_of_lt_of_le hmw hb.size) (fun e => hgm e.symm)
  have hbb : But w1.heap.size (Bl p m (.slice (some ⟨g, 0, none⟩) L c)) w1 (w3.setCell ⟨p, 1, none⟩ (.slice (some ⟨g, 0, none⟩) k c)) := by
    refine But.set (B := w1.heap.size) (S := Bl p m (.slice (some ⟨g, 0, none⟩) L c)) ?_ (p := ⟨p, 1, none⟩) (.inr (.inl rfl)) _
    exact (hb.mono (Nat.le_refl _) (fun b _ e => .inr (.inl e))).trans (hb3.mono hb.size (fun b _ e => .inr (.inr (by simp [Value.ownBlock]; exact e.symm))))
  refine ⟨rfl, .slice (some ⟨g, 0, none⟩) k c, ?_, hbb, fun c' hc' => .inl hc'⟩
  rw [hkt, ← List.map_take]
  have hlt : (ss.take k).length = k := by rw [List.length_take]; omega
  refine ⟨fun x hx => hT.keys x (by rw [List.map_take] at hx; exact List.mem_of_mem_take hx), ?_, ?_, ?_, ⟨D, (owns_map_heap hD hmr).setCell (fun e => h1 e.symm) _, hrd.weak fun i x => ?_⟩, ⟨_, ?_, fun _ => rfl⟩⟩
  · rw [List.map_take]; exact hT.dist.sublist (List.take_sublist _ _)
  · have := hT.len
    rw [List.length_map] at this ⊢
    omega
  · rw [World.setCell]; simp [Array.getElem?_modify, hpr]
  · rw [List.map_take, List.getElem?_take]
    constructor
    · rintro ⟨h, _⟩
      split at h
      · exact ⟨h, by omega⟩
      · cases h
    · rintro ⟨h, h'⟩
      rw [if_pos (by omega)]
      exact ⟨h, trivial⟩
  · have hr := hrow
    rw [List.length_map]
    refine owns_heap hr fun b hb' => ?_
    simp [Value.ownBlock] at hb'
    subst hb'
    exact Below.heap_setCell _ _ _ _ (fun e => by simp at e; omega)
set_option maxHeartbeats 2000000 in
theorem BackS_some (n : Int) {w : World} {p m : Nat} {v : Value} {l : List Value} {N : Nat} (h : TblS w p m v l N) (hn : max n 0 < (l.length : Int)) (hN : N ≤ 1000000) :
    Calls Try.prog 12 #[.pointer (some ⟨p, 0, none⟩), .int .i64 n] w (BackR w p m v l n N) := by
  obtain ⟨k, hk⟩ : ∃ k : Nat, max n 0 = (k : Int) := ⟨(max n 0).toNat, by omega⟩
  have hkt : (max n 0).toNat = k := by omega
  obtain ⟨ss, hl, hss⟩ := strs_of h.keys
  subst hl
  have hlen := h.len
  rw [List.length_map] at hn hlen
  rw [hk] at hn
  have c0 := h.c0
  have c1 := h.c1
  obtain ⟨xs, hrow, hxs⟩ := h.row
  obtain rfl := hxs rfl
  rw [List.length_map] at hrow
  obtain ⟨g, c, rfl, hcap, hc⟩ : ∃ g c, v = .slice (some ⟨g, 0, none⟩) ss.length c ∧ ss.length ≤ c ∧ ∀ j, j < ss.length → w.cell? ⟨g, j, none⟩ = some (.string (ss.getD j ByteArray.empty)) := by
    rcases ss2_of hrow with ⟨_, h0⟩ | h0
    · subst h0; simp at hn; omega
    · exact h0
  obtain ⟨h1, h2, h3⟩ := h.apart (by decide)
  obtain ⟨D0, hD0, hrd0⟩ := h.map
  have HT := Lib.hid h; have HC := Lib.hid hc; have HR := Lib.hid hrow; have HS := Lib.hid hss; have HRD := Lib.hid hrd0
  have HLEN := Lib.hid (LenS h)
  have hgm : g ≠ m := by simpa [Value.ownBlock] using h3
  have hgw : g < w.heap.size := h.lt (.inr (.inr rfl))
  have hpw : p < w.heap.size := h.lt (.inl rfl)
  clear h hc hrow hxs hss hrd0 h2 h3
  rw [List.length_map] at HLEN
  generalize hL : ss.length = L at *
  have HL := Lib.hid hL
  clear hL
  have h4 : decide ((L : Int) ≤ (k : Int)) = false := by simp; omega
  have h6 : decide (L ≤ k) = false := by simp; omega
  have h5 : (0 : Int) ≤ (k : Int) ∧ (k : Int) ≤ (L : Int) := by omega
  go_enter Try.func12, Try.ntmps12
  go_wp2_with fail
  refine HLEN.out.mono ?_
  rintro e w1 ⟨rfl, rfl⟩
  go_wp2_with fail
  go_loopw [19] (fun i wr => ∃ j : Nat, ∃ D : DataW Unit, j ≤ L - k ∧ i = .int .i64 j ∧ wr.ownsMap Try.prog 9 (plainElem Try.prog 3) m N D ∧ Hid (Rd Try.prog 9 D (ss.map .string) (fun i => i < k ∨ (k + j ≤ i ∧ i < L))) ∧ But w1.heap.size (fun b => b = m) w1 wr) (fun i _ => L - k - (intOf i).toNat)
  case atStart => exact ⟨0, D0, Nat.zero_le _, rfl, hD0, Lib.hid (HRD.out.weak (fun i x => by
    have hL := HL.out
    constructor
    · rintro ⟨a, _⟩; exact ⟨a, trivial⟩
    · rintro ⟨a, _⟩
      have : i < (ss.map Value.string).length := (List.getElem?_eq_some_iff.1 a).1
      rw [List.length_map] at this
      exact ⟨a, by omega⟩)), But.refl _ _ _⟩
  case round =>
    obtain ⟨j, D, hj, rfl, hD, hrd, hb⟩ := hrel
    have e0 := (hb.cell (p := ⟨p, 0, none⟩) hpw h1).trans c0
    have e1 := (hb.cell (p := ⟨p, 1, none⟩) hpw h1).trans c1
    by_cases hlt : j < L - k
    · have hx := HC.out (k + j) (by omega)
      have hkj := at_j (l := ss) (j := k + j) (by have := HL.out; omega)
      have hxs : (ss.getD (k + j) ByteArray.empty).size ≤ maxLen := HS.out _ (by rw [List.getD_eq_getElem?_getD, List.getElem?_eq_getElem (by have := HL.out; omega)]; simp)
      generalize ss.getD (k + j) ByteArray.empty = x at *
      have e2 := (hb.cell (p := ⟨g, k + j, none⟩) hgw hgm).trans hx
      have hkey := WideMaps.keyOf_string_mk (P := Try.prog) Try.underlying9 hxs
      have HKJ := Lib.hid hkj; have HB := Lib.hid hb
      clear hx hkj hb
      go_wp2_with (first | (at_delete; refine wpList_delete_own _ rfl _ _ 54 9 rfl 3 lawS Try.underlying54 _ m N D rfl hD _ _ rfl hkey ?_; intro w2 hD2 hturn))
      have HD2 := Lib.hid hD2; have HTU := Lib.hid hturn
      clear hD2 hturn hD e0 e1 e2
      exact ⟨⟨j + 1, _, by omega, by go_num, HD2.out, Lib.hid ((hrd.out.del lawS HT.out.dist HKJ.out hkey).weak (fun i y => by
        constructor
        · rintro ⟨a, b⟩; exact ⟨a, by omega⟩
        · rintro ⟨a, b⟩; exact ⟨a, by omega⟩)), HB.out.trans ((But.refl w1.heap.size (fun b => b = m) wr).grown HTU.out.grown HB.out.size (fun c e => .inr (by cases e; rfl)))⟩, by simp [intOf]; omega⟩
    · have hjj : j = L - k := by omega
      subst hjj
      have HD := Lib.hid hD; have HB := Lib.hid hb
      have HRW := Lib.hid (owns_heap (w' := wr) HR.out (fun b hb' => by simp [Value.ownBlock] at hb'; subst hb'; exact hb.block _ hgw hgm))
      have hkL : k ≤ L := by omega
      have hpg : ¬ p = g := fun e => by
        obtain ⟨_, cur, hcur⟩ := owns_cells HR.out (k := g) rfl
        have := HT.out.blk
        rw [e, hcur] at this
        simp at this
      have hblk := (hb.block p hpw h1).trans HT.out.blk
      have HBLK := Lib.hid hblk
      have HDEL : Hid (Calls Try.prog 28 #[.slice (some ⟨g, 0, none⟩) L c, .int .i64 k, .int .i64 L] wr.drew fun e w3 => e = .returned (.slice (some ⟨g, 0, none⟩) k c) ∧ StrRow w3 (.slice (some ⟨g, 0, none⟩) k c) (ss.take k) ∧ But wr.heap.size (fun b => b = g) wr w3 ∧ w3.cell? ⟨p, 1, none⟩ = some (.slice (some ⟨g, 0, none⟩) L c) ∧ w3.frozen? ⟨p, 1, none⟩ = false) := Lib.hid (by
        have hL := HL.out
        subst hL
        refine (DelS (w := wr.drew) (owns_heap HRW.out (fun _ _ => rfl)) hkL).mono ?_
        rintro e w3 ⟨rfl, h1, h2⟩
        have h3 : w3.heap[p]? = some (.cells #[.map (some m), .slice (some ⟨g, 0, none⟩) ss.length c] 56 (0, 0)) := (h2.block p (lt_of_heap hblk) hpg).trans hblk
        exact ⟨rfl, h1, ⟨h2.os, h2.tape, h2.output, h2.size, h2.block⟩, by simp [World.cell?, h3], by simp [World.frozen?, h3]⟩)
      clear hD hb hblk HRW
      go_wp2_with fail
      go_region_with (first | (go_at_call 28; refine HDEL.out.mono ?_; rintro e w3 ⟨rfl, hrow3, hb3, g1, g2⟩))
      all_goals
        go_end0
        exact back_done hkt HL.out hkL HT.out HB.out HD.out hrd.out hrow3 hb3
theorem BackS (n : Int) {w : World} {p m : Nat} {v : Value} {l : List Value} {N : Nat} (h : TblS w p m v l N) (hN : N ≤ 1000000) :
    Calls Try.prog 12 #[.pointer (some ⟨p, 0, none⟩), .int .i64 n] w (BackR w p m v l n N) := by
  by_cases h1 : max n 0 < (l.length : Int)
  · exact BackS_some n h h1 hN
  · exact BackS_none n h (by omega)
end Go.Proofs.Ytkgklccafebcbaa.IntW
