/- The sequence of a set's words that are not empty. -/
import Derived.Test.YtgmeomhddpmpbaaDoorBtWalk2
import Derived.Laws.EntriesVeiled
namespace Go.Proofs.YtgmeomhddpmpbaaDoor.BitsW
set_option linter.unusedVariables false
open Go.RowKit Go.Shelf Go.Proofs.YtgmeomhddpmpbaaDoor.SetM
attribute [local go_sem] Oper.semAt_some

theorem some_any (v : Option Addr) (w : World) :
    Calls Tryd.prog 26 #[.pointer v] w fun e w' => e = .returned (.func (.func 31) #[] #[.pointer (some ⟨w.heap.size, 0, none⟩)]) ∧ w.alloc (.cells #[.pointer v] 23) = w' := by
  have hmf : ∀ (fn : Fn) (first cap : Array Value) (w : World), (Instr.makeFunc fn first cap).run Tryd.prog w = .ok (.func fn first cap) w := fun _ _ _ _ => rfl
  go_enter Tryd.func26, Tryd.ntmps26
  go_wp2_with fail
  go_ret
  exact ⟨rfl, rfl⟩

/-- What comes up: a place, and its word. -/
abbrev Pl := Fin 16384
def encs (g : Nat → Bool) (j : Pl) : Array Value := #[.int .i64 (j.val : Nat), .int .u64 (wd g j.val)]
def vals (l : List Pl) : List Nat := l.map Fin.val
theorem vals_snoc (l : List Pl) (x : Pl) : vals (l ++ [x]) = vals l ++ [x.val] := by simp [vals]
theorem vals_len (l : List Pl) : (vals l).length = l.length := by simp [vals]
/-- What a round keeps: the block of the words, as it lay. -/
def Kq (q : Nat) (A B : World) : Prop := A.heap.size ≤ B.heap.size ∧ B.heap[q]? = A.heap[q]?
theorem Kq.trans {q : Nat} {A B C : World} (h : Kq q A B) (k : Kq q B C) : Kq q A C := ⟨Nat.le_trans h.1 k.1, k.2.trans h.2⟩
theorem Kq.refl (q : Nat) (A : World) : Kq q A A := ⟨Nat.le_refl _, rfl⟩
theorem Kq.row {q : Nat} {A B : World} (h : Kq q A B) {b : Nat} {e : TypeId} {s n cap : Nat} {xs : List Value} (ho : A.ownsRow b e s (.slice (some ⟨q, 0, none⟩) n cap) n xs) : B.ownsRow b e s (.slice (some ⟨q, 0, none⟩) n cap) n xs := by
  obtain ⟨h1, h2⟩ := ho
  refine ⟨h1, ?_⟩
  rcases h2 with ⟨h2, _⟩ | ⟨g, cap', cur, h2, hg, hh, hr⟩
  · simp at h2
  · simp only [Value.slice.injEq, Option.some.injEq, Addr.mk.injEq, and_true, true_and] at h2
    obtain ⟨rfl, rfl⟩ := h2
    exact .inr ⟨q, cap, cur, rfl, hg, by rw [h.2]; exact hh, hr⟩
theorem kq_b {q : Nat} {w : World} (hq : q < w.heap.size) : ∀ (W : World) (l : Nat) (o o' : Obj), w.heap.size ≤ l → W.heap[l]? = some o → o.isCells = false → o.isWalk = false → Kq q W (W.putObj l o') := fun W l o o' hl _ _ _ =>
  ⟨by simp, World.putObj_heap_other (by omega)⟩
theorem kq_of {q B : Nat} {w w' : World} (h : Below B w w') (hq : q < B) : Kq q w w' := ⟨h.size, h.block q hq⟩

set_option maxHeartbeats 2000000 in
theorem some1_in (n : Nat) (hn : 1 ≤ n) (l Bs q r cap : Nat) (a : Addr) (hr : r ≤ 1048576) (g : Nat → Bool) (J Jx : List Pl → World → Prop)
    (hY : ∀ (pre : List Pl) (x : Pl) (W : World), J pre W → pre.length < 16384 → YieldAt Fence.wide (n - 1) Tryd.prog l (encs g x) W fun e W' =>
      (e = .returned (.bool true) ∧ J (pre ++ [x]) W' ∧ Kq q W W') ∨ (e = .returned (.bool false) ∧ Jx (pre ++ [x]) W'))
    (W : World) (hB : W.cell? ⟨Bs, 0, none⟩ = some (.pointer (some ⟨a.block, 0, none⟩))) (hS : Sw W a.block q r cap g) (h0 : J [] W) :
    CallsIn Fence.wide n Tryd.prog 31 #[.func (.yield l) #[] #[], .pointer (some ⟨Bs, 0, none⟩)] W fun e W' => (∃ v, e = .returned v) ∧
      ((∃ ys, vals ys = rows g (lenW r) ∧ J ys W') ∨ (∃ pre, vals pre <+: rows g (lenW r) ∧ Jx pre W')) := by
  have hle := lenW_le hr
  have c1 := hS.c1
  have HO := Lib.hid hS.own; have H0 := Lib.hid h0; have HY := Lib.hid hY
  clear h0 hY hS
  generalize lenW r = m at *
  refine callsIn_of_wp Tryd.func31 rfl trivial ?_ rfl
  simp only [Tryd.ntmps31, List.size_toArray, List.length_cons, List.length_nil, Nat.reduceAdd, Nat.reduceSub, Array.replicate_succ, Array.replicate_zero, List.push_toArray, List.append_toArray, List.nil_append, List.cons_append]
  gi_wp2
  gi_loopw [12] (fun i wr => ∃ (k : Nat) (ys : List Pl), k ≤ m ∧ i = .int .i64 k ∧ Hid (vals ys = rows g k) ∧ J ys wr ∧ wr.ownsRow 0 55 1 (.slice (some ⟨q, 0, none⟩) m cap) m (wds g m)) (fun i _ => m - (intOf i).toNat)
  case atStart => exact ⟨0, [], Nat.zero_le _, rfl, Lib.hid rfl, H0.out, HO.out⟩
  case round =>
    obtain ⟨k, ys, hk, rfl, HYS, hJ, hO⟩ := hrel
    clear c1 hB
    have HJ := Lib.hid hJ; have HOr := Lib.hid hO
    clear hJ hO H0 HO
    by_cases hlt : k < m
    · have x1 : wr.cell? ⟨q, k, none⟩ = some (.int .u64 (wd g k)) := by rw [World.ownsRow.cellAt HOr.out k (by omega), wds_at g _ k hlt]
      by_cases hz : wd g k = 0
      · have HR := Lib.hid (rows_no hz)
        rw [hz] at x1
        clear hz
        gi_wp2
        refine ⟨(fun _ h => by cases h), ?_⟩
        gi_wp2
        exact ⟨⟨k + 1, ys, by omega, by go_num, Lib.hid (by rw [HR.out]; exact HYS.out), HJ.out, HOr.out⟩, by simp [intOf]; omega⟩
      · have t0 : ((wd g k : Int) != 0) = true := by simpa using hz
        have HR := Lib.hid (rows_yes hz)
        have hpl : ys.length < 16384 := by have h1 := rows_len g k; have h2 := congrArg List.length HYS.out; rw [vals_len] at h2; omega
        obtain ⟨fn, tmps, assign, body, hyy, hR⟩ := HY.out ys ⟨k, by omega⟩ wr HJ.out hpl
        unfold encs at hyy
        have HZR := Lib.hid hR
        clear hz hR
        gi_wp2
        refine HZR.out.mono ?_
        rintro e W3 (⟨rfl, hJ3, hk3⟩ | ⟨rfl, hJx3⟩)
        · gi_wp2
          exact ⟨⟨k + 1, ys ++ [⟨k, by omega⟩], by omega, by go_num, Lib.hid (by rw [vals_snoc, HR.out, HYS.out]), hJ3, hk3.row HOr.out⟩, by simp [intOf]; omega⟩
        · gi_wp2
          refine bodyPost_ret (results_none rfl _ _ _) rfl ?_
          refine ⟨⟨_, rfl⟩, .inr ⟨_, ?_, hJx3⟩⟩
          rw [vals_snoc, HYS.out, ← HR.out]
          obtain ⟨r', hr'⟩ := rows_split g (k + 1) m (by omega)
          exact ⟨r', hr'.symm⟩
    · obtain rfl : k = m := by omega
      gi_wp2
      go_end0
      exact ⟨⟨_, rfl⟩, .inl ⟨_, HYS.out, HJ.out⟩⟩

/-- What goes through the sequence: no set, or one in memory. -/
def Src (w : World) (v : Option Addr) (q r : Nat) (g : Nat → Bool) : Prop :=
  q < w.heap.size ∧ ((v = none ∧ r = 0 ∧ g = emptyF) ∨ ∃ p : Nat, v = some ⟨p, 0, none⟩ ∧ Bt w p q r g)
theorem Src.below {w w' : World} {v : Option Addr} {q r : Nat} {g : Nat → Bool} (h : Src w v q r g) (hb : Below w.heap.size w w') : Src w' v q r g := by
  refine ⟨Nat.lt_of_lt_of_le h.1 hb.size, ?_⟩
  rcases h.2 with h2 | ⟨p, h2, h3⟩
  · exact .inl h2
  · exact .inr ⟨p, h2, h3.below hb⟩
theorem Src.room {w : World} {v : Option Addr} {q r : Nat} {g : Nat → Bool} (h : Src w v q r g) : r ≤ 1048576 := by
  rcases h.2 with ⟨_, h2, _⟩ | ⟨p, h2, h3⟩
  · omega
  · exact h3.room
theorem Src.into {w : World} {v : Option Addr} {q r : Nat} {g : Nat → Bool} (h : Src w v q r g) : ∀ i, g i = true → i < r := by
  rcases h.2 with ⟨_, h2, h3⟩ | ⟨p, h2, h3⟩
  · rw [h3]; intro i hi; cases hi
  · exact h3.into
theorem src_of {w : World} {p q r : Nat} {g : Nat → Bool} (h : Bt w p q r g) : Src w (some ⟨p, 0, none⟩) q r g := ⟨h.lt.2, .inr ⟨p, rfl, h⟩⟩
theorem src_nil {w : World} {q : Nat} (h : q < w.heap.size) : Src w none q 0 emptyF := ⟨h, .inl ⟨rfl, rfl, rfl⟩⟩

theorem some1_nil (n : Nat) (l Bs : Nat) (J Jx : List Pl → World → Prop) (W : World) (hB : W.cell? ⟨Bs, 0, none⟩ = some (.pointer none)) (h0 : J [] W) :
    CallsIn Fence.wide n Tryd.prog 31 #[.func (.yield l) #[] #[], .pointer (some ⟨Bs, 0, none⟩)] W fun e W' => (∃ v, e = .returned v) ∧
      ((∃ ys, vals ys = [] ∧ J ys W') ∨ (∃ pre, vals pre <+: [] ∧ Jx pre W')) := by
  refine callsIn_of_wp Tryd.func31 rfl trivial ?_ rfl
  simp only [Tryd.ntmps31, List.size_toArray, List.length_cons, List.length_nil, Nat.reduceAdd, Nat.reduceSub, Array.replicate_succ, Array.replicate_zero, List.push_toArray, List.append_toArray, List.nil_append, List.cons_append]
  have H0 := Lib.hid h0
  clear h0
  gi_wp2
  refine bodyPost_ret (results_none rfl _ _ _) rfl ?_
  exact ⟨⟨_, rfl⟩, .inl ⟨_, rfl, H0.out⟩⟩
/-- The sequence's contract. -/
theorem some_stops (n : Nat) (hn : 1 ≤ n) (Bs : Nat) (v : Option Addr) (q r : Nat) (g : Nat → Bool) (w : World) (hB : w.cell? ⟨Bs, 0, none⟩ = some (.pointer v)) (hS : Src w v q r g) :
    SeqStopsK Fence.wide n Tryd.prog 31 #[.pointer (some ⟨Bs, 0, none⟩)] (encs g) (Kq q) (fun ys => vals ys = rows g (lenW r)) (fun pre => vals pre <+: rows g (lenW r)) 16384 w := by
  intro l J Jx W hW _ _ hY h0
  have hB' : W.cell? ⟨Bs, 0, none⟩ = some (.pointer v) := (hW.cell (p := ⟨Bs, 0, none⟩) (World.block_lt_of_cell? _ _ hB)).trans hB
  rcases hS.2 with ⟨rfl, rfl, rfl⟩ | ⟨p, rfl, h3⟩
  · exact some1_nil n l Bs J Jx W hB' h0
  · obtain ⟨cap, h4⟩ := (h3.below hW).sw
    exact some1_in n hn l Bs q r cap ⟨p, 0, none⟩ h3.room g J Jx hY W hB' h4 h0
end Go.Proofs.YtgmeomhddpmpbaaDoor.BitsW
