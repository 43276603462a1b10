/- Walks of layer 2: the document's Span, Two, Not. -/
import Derived.Test.YtkghnjgioijgpaaSetWalk1
namespace Go.Proofs.Ytkghnjgioijgpaa.SetW
set_option linter.unusedVariables false
open Go.RowKit Go.Proofs.Ytkghnjgioijgpaa.SetM

/-- Block B's first four cells are a set's words; they may be written. -/
structure HoldsS (W : World) (B : Nat) (f : Nat → Bool) : Prop where
  c0 : W.cell? ⟨B, 0, none⟩ = some (.int .u64 (wd f 0))
  c1 : W.cell? ⟨B, 1, none⟩ = some (.int .u64 (wd f 1))
  c2 : W.cell? ⟨B, 2, none⟩ = some (.int .u64 (wd f 2))
  c3 : W.cell? ⟨B, 3, none⟩ = some (.int .u64 (wd f 3))
  z0 : W.frozen? ⟨B, 0, none⟩ = false
  z1 : W.frozen? ⟨B, 1, none⟩ = false
  z2 : W.frozen? ⟨B, 2, none⟩ = false
  z3 : W.frozen? ⟨B, 3, none⟩ = false
theorem HoldsS.lt {W : World} {B : Nat} {f : Nat → Bool} (h : HoldsS W B f) : B < W.heap.size := World.block_lt_of_cell? _ _ h.c0
theorem HoldsS.below {W W' : World} {B : Nat} {f : Nat → Bool} (h : HoldsS W B f) (hb : Below W.heap.size W W') : HoldsS W' B f :=
  ⟨(hb.cell (p := ⟨B, 0, none⟩) h.lt).trans h.c0, (hb.cell (p := ⟨B, 1, none⟩) h.lt).trans h.c1, (hb.cell (p := ⟨B, 2, none⟩) h.lt).trans h.c2, (hb.cell (p := ⟨B, 3, none⟩) h.lt).trans h.c3,
   (hb.frozen (p := ⟨B, 0, none⟩) h.lt).trans h.z0, (hb.frozen (p := ⟨B, 1, none⟩) h.lt).trans h.z1, (hb.frozen (p := ⟨B, 2, none⟩) h.lt).trans h.z2, (hb.frozen (p := ⟨B, 3, none⟩) h.lt).trans h.z3⟩
theorem HoldsS.new (w : World) (f : Nat → Bool) (t : TypeId) : HoldsS (w.alloc (.cells #[.int .u64 (wd f 0), .int .u64 (wd f 1), .int .u64 (wd f 2), .int .u64 (wd f 3)] t)) w.heap.size f := by
  constructor <;> first | (rw [World.cell?_alloc_new]; rfl) | exact World.frozen?_alloc_new _ _ _ _
theorem HoldsS.zero (w : World) (t : TypeId) : HoldsS (w.alloc (.cells #[.int .u64 0, .int .u64 0, .int .u64 0, .int .u64 0] t)) w.heap.size emptyF := by
  have h := HoldsS.new w emptyF t
  rw [wd_empty, wd_empty, wd_empty, wd_empty] at h
  exact h
theorem HoldsS.alloc {W : World} {B : Nat} {f : Nat → Bool} (h : HoldsS W B f) (o : Obj) : HoldsS (W.alloc o) B f := h.below ((Below.refl _ _).alloc (Nat.le_refl _) _)
theorem cell_set (W : World) (B i j : Nat) (v : Value) (h : i ≠ j) : (W.setCell ⟨B, i, none⟩ v).cell? ⟨B, j, none⟩ = W.cell? ⟨B, j, none⟩ :=
  World.cell?_setCell_other W ⟨B, i, none⟩ ⟨B, j, none⟩ v (fun e => h (by injection e))
/-- A set stored. -/
abbrev put4 (W : World) (B : Nat) (g : Nat → Bool) : World :=
  (((W.setCell ⟨B, 0, none⟩ (.int .u64 (wd g 0))).setCell ⟨B, 1, none⟩ (.int .u64 (wd g 1))).setCell ⟨B, 2, none⟩ (.int .u64 (wd g 2))).setCell ⟨B, 3, none⟩ (.int .u64 (wd g 3))
theorem HoldsS.store {W : World} {B : Nat} {f : Nat → Bool} (h : HoldsS W B f) (g : Nat → Bool) : HoldsS (put4 W B g) B g := by
  have e0 := h.c0; have e1 := h.c1; have e2 := h.c2; have e3 := h.c3
  refine ⟨?_, ?_, ?_, ?_, ?_, ?_, ?_, ?_⟩
  · rw [cell_set _ _ _ _ _ (by decide), cell_set _ _ _ _ _ (by decide), cell_set _ _ _ _ _ (by decide)]
    exact World.cell?_setCell_same _ _ _ e0
  · rw [cell_set _ _ _ _ _ (by decide), cell_set _ _ _ _ _ (by decide)]
    refine World.cell?_setCell_same (u := .int .u64 (wd f 1)) _ _ _ ?_
    rw [cell_set _ _ _ _ _ (by decide)]; exact e1
  · rw [cell_set _ _ _ _ _ (by decide)]
    refine World.cell?_setCell_same (u := .int .u64 (wd f 2)) _ _ _ ?_
    rw [cell_set _ _ _ _ _ (by decide), cell_set _ _ _ _ _ (by decide)]; exact e2
  · refine World.cell?_setCell_same (u := .int .u64 (wd f 3)) _ _ _ ?_
    rw [cell_set _ _ _ _ _ (by decide), cell_set _ _ _ _ _ (by decide), cell_set _ _ _ _ _ (by decide)]; exact e3
  all_goals simp only [World.frozen?_setCell]
  · exact h.z0
  · exact h.z1
  · exact h.z2
  · exact h.z3
theorem below_put4 {n : Nat} {w W : World} {B : Nat} (hb : Below n w W) (h : n ≤ B) (g : Nat → Bool) : Below n w (put4 W B g) :=
  (((hb.setCell (p := ⟨B, 0, none⟩) h _).setCell (p := ⟨B, 1, none⟩) h _).setCell (p := ⟨B, 2, none⟩) h _).setCell (p := ⟨B, 3, none⟩) h _

theorem HoldsS.other {W : World} {R : Nat} {f : Nat → Bool} (h : HoldsS W R f) {B : Nat} (hne : B ≠ R) (g : Nat → Bool) : HoldsS (put4 W B g) R f := by
  have c : ∀ (X : World) (i j : Nat) (v : Value), (X.setCell ⟨B, i, none⟩ v).cell? ⟨R, j, none⟩ = X.cell? ⟨R, j, none⟩ := fun X i j v =>
    World.cell?_setCell_other X ⟨B, i, none⟩ ⟨R, j, none⟩ v (fun e => hne (by injection e))
  refine ⟨?_, ?_, ?_, ?_, ?_, ?_, ?_, ?_⟩
  · rw [c, c, c, c]; exact h.c0
  · rw [c, c, c, c]; exact h.c1
  · rw [c, c, c, c]; exact h.c2
  · rw [c, c, c, c]; exact h.c3
  all_goals simp only [World.frozen?_setCell]
  · exact h.z0
  · exact h.z1
  · exact h.z2
  · exact h.z3
theorem HoldsS.drew {W : World} {B : Nat} {f : Nat → Bool} (h : HoldsS W B f) : HoldsS W.drew B f := ⟨h.c0, h.c1, h.c2, h.c3, h.z0, h.z1, h.z2, h.z3⟩
theorem HoldsS.zero2 (w : World) (o : Obj) (t : TypeId) : HoldsS ((w.alloc o).alloc (.cells #[.int .u64 0, .int .u64 0, .int .u64 0, .int .u64 0] t)) (w.heap.size + 1) emptyF := by
  rw [← World.size_alloc w o]; exact HoldsS.zero _ _

theorem span_step {lo k : Nat} (h : lo ≤ k) : withF (spanF lo k) k = spanF lo (k + 1) := by
  funext i; unfold withF spanF; rw [Bool.eq_iff_iff]; simp; omega
theorem span_none {lo hi : Nat} (h : hi ≤ lo) : spanF lo hi = emptyF := by
  funext i; unfold spanF emptyF; rw [Bool.eq_iff_iff]; simp; omega
end Go.Proofs.Ytkghnjgioijgpaa.SetW
