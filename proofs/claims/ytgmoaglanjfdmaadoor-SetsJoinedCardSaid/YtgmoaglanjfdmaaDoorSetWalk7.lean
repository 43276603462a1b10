/- Walks of layer 2: Union of no sets, of two, of three. -/
import Derived.Test.YtgmoaglanjfdmaaDoorSetWalk6
namespace Go.Proofs.YtgmoaglanjfdmaaDoor.SetW
set_option linter.unusedVariables false
open Go.RowKit Go.Proofs.YtgmoaglanjfdmaaDoor.SetM

/-- A slice of some sets, one behind the other in block b. -/
def SetsAt (W : World) (b : Nat) (fs : List (Nat → Bool)) : Prop :=
  ∀ k (h : k < fs.length), W.cell? ⟨b, 4 * k, none⟩ = some (.int .u64 (wd fs[k] 0)) ∧ W.cell? ⟨b, 4 * k + 1, none⟩ = some (.int .u64 (wd fs[k] 1)) ∧ W.cell? ⟨b, 4 * k + 2, none⟩ = some (.int .u64 (wd fs[k] 2)) ∧ W.cell? ⟨b, 4 * k + 3, none⟩ = some (.int .u64 (wd fs[k] 3))
theorem SetsAt.below {W W' : World} {b : Nat} {fs : List (Nat → Bool)} (h : SetsAt W b fs) (hb : Below W.heap.size W W') : SetsAt W' b fs := fun k hk => by
  obtain ⟨h0, h1, h2, h3⟩ := h k hk
  exact ⟨(hb.cell (World.block_lt_of_cell? _ _ h0)).trans h0, (hb.cell (World.block_lt_of_cell? _ _ h1)).trans h1, (hb.cell (World.block_lt_of_cell? _ _ h2)).trans h2, (hb.cell (World.block_lt_of_cell? _ _ h3)).trans h3⟩

set_option maxRecDepth 100000 in
set_option maxHeartbeats 2000000 in
theorem Union0_any (w : World) :
    Calls Tryd.prog 13 #[.slice none 0 0] w fun e w' => e = .returned (SV (emptyF)) ∧ Below w.heap.size w w' := by
  have i0 := index0; have i1 := index1; have i2 := index2; have i3 := index3
  have Z0 := Lib.hid (show (0 : Int) = (wd emptyF 0 : Int) by rw [wd_empty]; rfl)
  have Z1 := Lib.hid (show (0 : Int) = (wd emptyF 1 : Int) by rw [wd_empty]; rfl)
  have Z2 := Lib.hid (show (0 : Int) = (wd emptyF 2 : Int) by rw [wd_empty]; rfl)
  have Z3 := Lib.hid (show (0 : Int) = (wd emptyF 3 : Int) by rw [wd_empty]; rfl)
  go_enter Tryd.func13, Tryd.ntmps13
  go_wp2_with fail
  refine wp_loop_rounds 1 ?_
  rw [rounds_succ]
  go_wp2_with fail
  exact bodyPost_ret (v := .agg #[.int .u64 0, .int .u64 0, .int .u64 0, .int .u64 0]) (by simp [results, Tryd.results13, go_sem]) rfl ⟨(by simp only [SV, wd_empty]; rfl), ((Below.refl _ _).alloc (Nat.le_refl _) _).alloc (by simp) _⟩

set_option maxRecDepth 100000 in
set_option maxHeartbeats 2000000 in
theorem Union2_any (f g : Nat → Bool) (w : World) (b : Nat) (hc : SetsAt w b [f, g]) :
    Calls Tryd.prog 13 #[.slice (some ⟨b, 0, none⟩) 2 2] w fun e w' => e = .returned (SV (unionF f g)) ∧ Below w.heap.size w w' := by
  have i0 := index0; have i1 := index1; have i2 := index2; have i3 := index3
  obtain ⟨a00, a01, a02, a03⟩ := hc 0 (by simp)
  obtain ⟨a10, a11, a12, a13⟩ := hc 1 (by simp)
  simp only [List.getElem_cons_zero, List.getElem_cons_succ, Nat.mul_zero, Nat.zero_add, Nat.reduceMul, Nat.reduceAdd] at a00 a01 a02 a03 a10 a11 a12 a13
  clear hc
  have l0 : b < w.heap.size := World.block_lt_of_cell? _ _ a00
  have l1 : b < w.heap.size + 1 := by omega
  have l2 : b < w.heap.size + 1 + 1 := by omega
  have l3 : b < w.heap.size + 1 + 1 + 1 := by omega
  have Z0 := Lib.hid (or_word0 f 0); have Y0 := Lib.hid (or_word f g 0)
  have Z1 := Lib.hid (or_word0 f 1); have Y1 := Lib.hid (or_word f g 1)
  have Z2 := Lib.hid (or_word0 f 2); have Y2 := Lib.hid (or_word f g 2)
  have Z3 := Lib.hid (or_word0 f 3); have Y3 := Lib.hid (or_word f g 3)
  go_enter Tryd.func13, Tryd.ntmps13
  go_wp2_with fail
  refine wp_loop_rounds 3 ?_
  rw [rounds_succ]
  go_wp2_with fail
  refine wp_loop_rounds 5 ?_
  rw [rounds_succ]
  go_wp2_with fail
  rw [rounds_succ]
  go_wp2_with fail
  rw [rounds_succ]
  go_wp2_with fail
  rw [rounds_succ]
  go_wp2_with fail
  rw [rounds_succ]
  go_wp2_with fail
  try rw [Z0.out]
  try rw [Z1.out]
  try rw [Z2.out]
  try rw [Z3.out]
  rw [rounds_succ]
  go_wp2_with fail
  refine wp_loop_rounds 5 ?_
  rw [rounds_succ]
  go_wp2_with fail
  rw [rounds_succ]
  go_wp2_with fail
  rw [rounds_succ]
  go_wp2_with fail
  rw [rounds_succ]
  go_wp2_with fail
  rw [rounds_succ]
  go_wp2_with fail
  try rw [Y0.out]
  try rw [Y1.out]
  try rw [Y2.out]
  try rw [Y3.out]
  rw [rounds_succ]
  go_wp2_with fail
  exact bodyPost_ret (v := SV (unionF f g)) (by simp [results, Tryd.results13, go_sem]) rfl ⟨rfl, ((((Below.refl _ _).alloc (Nat.le_refl _) _).alloc (by simp) _).alloc (by simp; omega) _).alloc (by simp; omega) _⟩

set_option maxRecDepth 100000 in
set_option maxHeartbeats 2000000 in
theorem Union3_any (f g h : Nat → Bool) (w : World) (b : Nat) (hc : SetsAt w b [f, g, h]) :
    Calls Tryd.prog 13 #[.slice (some ⟨b, 0, none⟩) 3 3] w fun e w' => e = .returned (SV (unionF (unionF f g) h)) ∧ Below w.heap.size w w' := by
  have i0 := index0; have i1 := index1; have i2 := index2; have i3 := index3
  obtain ⟨a00, a01, a02, a03⟩ := hc 0 (by simp)
  obtain ⟨a10, a11, a12, a13⟩ := hc 1 (by simp)
  obtain ⟨a20, a21, a22, a23⟩ := hc 2 (by simp)
  simp only [List.getElem_cons_zero, List.getElem_cons_succ, Nat.mul_zero, Nat.zero_add, Nat.reduceMul, Nat.reduceAdd] at a00 a01 a02 a03 a10 a11 a12 a13 a20 a21 a22 a23
  clear hc
  have l0 : b < w.heap.size := World.block_lt_of_cell? _ _ a00
  have l1 : b < w.heap.size + 1 := by omega
  have l2 : b < w.heap.size + 1 + 1 := by omega
  have l3 : b < w.heap.size + 1 + 1 + 1 := by omega
  have Z0 := Lib.hid (or_word0 f 0); have Y0 := Lib.hid (or_word f g 0); have X0 := Lib.hid (or_word (unionF f g) h 0)
  have Z1 := Lib.hid (or_word0 f 1); have Y1 := Lib.hid (or_word f g 1); have X1 := Lib.hid (or_word (unionF f g) h 1)
  have Z2 := Lib.hid (or_word0 f 2); have Y2 := Lib.hid (or_word f g 2); have X2 := Lib.hid (or_word (unionF f g) h 2)
  have Z3 := Lib.hid (or_word0 f 3); have Y3 := Lib.hid (or_word f g 3); have X3 := Lib.hid (or_word (unionF f g) h 3)
  go_enter Tryd.func13, Tryd.ntmps13
  go_wp2_with fail
  refine wp_loop_rounds 4 ?_
  rw [rounds_succ]
  go_wp2_with fail
  refine wp_loop_rounds 5 ?_
  rw [rounds_succ]
  go_wp2_with fail
  rw [rounds_succ]
  go_wp2_with fail
  rw [rounds_succ]
  go_wp2_with fail
  rw [rounds_succ]
  go_wp2_with fail
  rw [rounds_succ]
  go_wp2_with fail
  try rw [Z0.out]
  try rw [Z1.out]
  try rw [Z2.out]
  try rw [Z3.out]
  rw [rounds_succ]
  go_wp2_with fail
  refine wp_loop_rounds 5 ?_
  rw [rounds_succ]
  go_wp2_with fail
  rw [rounds_succ]
  go_wp2_with fail
  rw [rounds_succ]
  go_wp2_with fail
  rw [rounds_succ]
  go_wp2_with fail
  rw [rounds_succ]
  go_wp2_with fail
  try rw [Y0.out]
  try rw [Y1.out]
  try rw [Y2.out]
  try rw [Y3.out]
  rw [rounds_succ]
  go_wp2_with fail
  refine wp_loop_rounds 5 ?_
  rw [rounds_succ]
  go_wp2_with fail
  rw [rounds_succ]
  go_wp2_with fail
  rw [rounds_succ]
  go_wp2_with fail
  rw [rounds_succ]
  go_wp2_with fail
  rw [rounds_succ]
  go_wp2_with fail
  try rw [X0.out]
  try rw [X1.out]
  try rw [X2.out]
  try rw [X3.out]
  rw [rounds_succ]
  go_wp2_with fail
  exact bodyPost_ret (v := SV (unionF (unionF f g) h)) (by simp [results, Tryd.results13, go_sem]) rfl ⟨rfl, (((((Below.refl _ _).alloc (Nat.le_refl _) _).alloc (by simp) _).alloc (by simp; omega) _).alloc (by simp; omega) _).alloc (by simp; omega) _⟩
end Go.Proofs.YtgmoaglanjfdmaaDoor.SetW
