/- Walks of layer 2: Span, Of. -/
import Derived.Test.YtciggkebbhineaaDoorSetWalk2
import Derived.RegionTactic
import Derived.BigRegion
import Derived.ChangeAlike
namespace Go.Proofs.YtciggkebbhineaaDoor.SetW
set_option linter.unusedVariables false
open Go.RowKit Go.Proofs.YtciggkebbhineaaDoor.SetM

theorem HoldsS.drew {W : World} {B : Nat} {f : Nat → Bool} (h : HoldsS W B f) : HoldsS W.drew B f := ⟨h.c0, h.c1, h.c2, h.c3, h.z0, h.z1, h.z2, h.z3⟩
/-- One byte more: one word stored. -/
theorem HoldsS.with1 {W : World} {B : Nat} {f : Nat → Bool} (h : HoldsS W B f) (b k : Nat) (hk : b / 64 = k) (hb : b < 256) :
    HoldsS (W.setCell ⟨B, k, none⟩ (.int .u64 (bits BinOp.or IntKind.u64 (wd f k) (IntKind.u64.wrap (2 ^ (b % 64)))))) B (withF f b) := by
  rw [or_bit f b k hk]
  have o0 := fun h => wd_other f 0 b h
  have o1 := fun h => wd_other f 1 b h
  have o2 := fun h => wd_other f 2 b h
  have o3 := fun h => wd_other f 3 b h
  have hk4 : k = 0 ∨ k = 1 ∨ k = 2 ∨ k = 3 := by omega
  rcases hk4 with rfl | rfl | rfl | rfl
  · refine ⟨World.cell?_setCell_same _ _ _ h.c0, ?_, ?_, ?_, ?_, ?_, ?_, ?_⟩
    · rw [cell_set _ _ _ _ _ (by decide), ← o1 (by omega)]; exact h.c1
    · rw [cell_set _ _ _ _ _ (by decide), ← o2 (by omega)]; exact h.c2
    · rw [cell_set _ _ _ _ _ (by decide), ← o3 (by omega)]; exact h.c3
    all_goals (simp only [World.frozen?_setCell]; first | exact h.z0 | exact h.z1 | exact h.z2 | exact h.z3)
  · refine ⟨?_, World.cell?_setCell_same _ _ _ h.c1, ?_, ?_, ?_, ?_, ?_, ?_⟩
    · rw [cell_set _ _ _ _ _ (by decide), ← o0 (by omega)]; exact h.c0
    · rw [cell_set _ _ _ _ _ (by decide), ← o2 (by omega)]; exact h.c2
    · rw [cell_set _ _ _ _ _ (by decide), ← o3 (by omega)]; exact h.c3
    all_goals (simp only [World.frozen?_setCell]; first | exact h.z0 | exact h.z1 | exact h.z2 | exact h.z3)
  · refine ⟨?_, ?_, World.cell?_setCell_same _ _ _ h.c2, ?_, ?_, ?_, ?_, ?_⟩
    · rw [cell_set _ _ _ _ _ (by decide), ← o0 (by omega)]; exact h.c0
    · rw [cell_set _ _ _ _ _ (by decide), ← o1 (by omega)]; exact h.c1
    · rw [cell_set _ _ _ _ _ (by decide), ← o3 (by omega)]; exact h.c3
    all_goals (simp only [World.frozen?_setCell]; first | exact h.z0 | exact h.z1 | exact h.z2 | exact h.z3)
  · refine ⟨?_, ?_, ?_, World.cell?_setCell_same _ _ _ h.c3, ?_, ?_, ?_, ?_⟩
    · rw [cell_set _ _ _ _ _ (by decide), ← o0 (by omega)]; exact h.c0
    · rw [cell_set _ _ _ _ _ (by decide), ← o1 (by omega)]; exact h.c1
    · rw [cell_set _ _ _ _ _ (by decide), ← o2 (by omega)]; exact h.c2
    all_goals (simp only [World.frozen?_setCell]; first | exact h.z0 | exact h.z1 | exact h.z2 | exact h.z3)
/-- One cell stored elsewhere. -/
theorem HoldsS.other1 {W : World} {R : Nat} {f : Nat → Bool} (h : HoldsS W R f) {B : Nat} (hne : B ≠ R) (k : Nat) (v : Value) : HoldsS (W.setCell ⟨B, k, none⟩ v) R f := by
  have c : ∀ (j : Nat), (W.setCell ⟨B, k, none⟩ v).cell? ⟨R, j, none⟩ = W.cell? ⟨R, j, none⟩ := fun j =>
    World.cell?_setCell_other W ⟨B, k, none⟩ ⟨R, j, none⟩ v (fun e => hne (by injection e))
  refine ⟨?_, ?_, ?_, ?_, ?_, ?_, ?_, ?_⟩
  · rw [c]; exact h.c0
  · rw [c]; exact h.c1
  · rw [c]; exact h.c2
  · rw [c]; exact h.c3
  all_goals (simp only [World.frozen?_setCell]; first | exact h.z0 | exact h.z1 | exact h.z2 | exact h.z3)
theorem quarter (b : Nat) (hb : b < 256) : ((b : Int) / 64 = 0 ∧ b / 64 = 0) ∨ ((b : Int) / 64 = 1 ∧ b / 64 = 1) ∨ ((b : Int) / 64 = 2 ∧ b / 64 = 2) ∨ ((b : Int) / 64 = 3 ∧ b / 64 = 3) := by omega

theorem Span_any (lo hi : Nat) (hlo : lo < 256) (hhi : hi < 256) (w : World) :
    Calls Tryd.prog 26 #[.int .u8 lo, .int .u8 hi] w fun e w' => e = .returned (SV (spanF lo (hi + 1))) ∧ Below w.heap.size w w' := by
  obtain ⟨B, hB⟩ : ∃ B, B = w.heap.size + 1 := ⟨_, rfl⟩
  obtain ⟨R, hR⟩ : ∃ R, R = w.heap.size := ⟨_, rfl⟩
  have HB := Lib.hid hB; clear hB
  have HR := Lib.hid hR; clear hR
  go_enter Tryd.func26, Tryd.ntmps26
  go_wp2_with fail
  rw [← HB.out, ← HR.out]
  go_loopw [6] (fun i wr => ∃ k : Nat, lo ≤ k ∧ (k ≤ hi + 1 ∨ k = lo) ∧ i = .int .i64 k ∧ HoldsS wr R emptyF ∧ HoldsS wr B (spanF lo k) ∧ Below w.heap.size w wr) (fun i _ => hi + 1 - (intOf i).toNat)
  case atStart =>
    refine ⟨lo, Nat.le_refl _, .inr rfl, rfl, ?_, ?_, ?_⟩
    · rw [HR.out]; exact (HoldsS.zero _ _).alloc _
    · rw [span_none (Nat.le_refl _), HB.out]; exact HoldsS.zero2 _ _ _
    · exact ((Below.refl _ _).alloc (Nat.le_refl _) _).alloc (by simp) _
  case round =>
    obtain ⟨k, hk1, hk2, rfl, hR, hS, hb⟩ := hrel
    have c0 := hS.c0; have c1 := hS.c1; have c2 := hS.c2; have c3 := hS.c3; have z0 := hS.z0; have z1 := hS.z1; have z2 := hS.z2; have z3 := hS.z3
    by_cases hlt : k ≤ hi
    · rcases quarter k (by omega) with ⟨h1, h2⟩ | ⟨h1, h2⟩ | ⟨h1, h2⟩ | ⟨h1, h2⟩
      all_goals
        go_wp2_with fail
        go_region
        go_wp2_with fail
        refine ⟨⟨k + 1, by omega, .inl (by omega), by go_num, (hR.other1 (by rw [HB.out, HR.out]; omega) _ _).drew, ?_, (hb.setCell (p := ⟨B, _, none⟩) (by show _ ≤ B; rw [HB.out]; omega) _).drew⟩, by simp [intOf]; omega⟩
        rw [← span_step hk1]
        exact (hS.with1 k _ h2 (by omega)).drew
    · have HE := Lib.hid (show spanF lo k = spanF lo (hi + 1) by
        rcases hk2 with h | h
        · rw [show k = hi + 1 by omega]
        · rw [h, span_none (Nat.le_refl _), span_none (by omega)])
      have d0 := hR.c0; have d1 := hR.c1; have d2 := hR.c2; have d3 := hR.c3; have y0 := hR.z0; have y1 := hR.z1; have y2 := hR.z2; have y3 := hR.z3
      go_wp2_with fail
      rw [HE.out]
      have q := hR.store (spanF lo (hi + 1))
      exact bodyPost_ret (v := SV _) (by simp [results, Tryd.results26, go_sem, q.c0, q.c1, q.c2, q.c3]) rfl ⟨rfl, below_put4 hb (by rw [HR.out]; omega) _⟩

end Go.Proofs.YtciggkebbhineaaDoor.SetW
