/- Plain mathematics of sums and products that stop at a top. -/
import Derived.Lib.ItoaNum
namespace Go.Proofs.YtgllaecahijlpaaDoor.NumM
/-- The sum, numbers below 0 being 0. -/
def sumN : List Int → Int
  | [] => 0
  | x :: l => max x 0 + sumN l
def prodN : List Int → Int
  | [] => 1
  | x :: l => max x 0 * prodN l
/-- What Add and Mul answer. -/
def addS (top : Int) (l : List Int) : Int := if top < 0 then 0 else min (sumN l) top
def mulS (top : Int) (l : List Int) : Int := if top < 0 then 0 else min (prodN l) top

theorem sumN_append (l m : List Int) : sumN (l ++ m) = sumN l + sumN m := by
  induction l with
  | nil => simp [sumN]
  | cons x l ih => simp only [List.cons_append, sumN, ih]; omega
theorem prodN_append (l m : List Int) : prodN (l ++ m) = prodN l * prodN m := by
  induction l with
  | nil => simp [prodN]
  | cons x l ih => simp only [List.cons_append, prodN, ih, Int.mul_assoc]
theorem sumN_one (x : Int) : sumN [x] = max x 0 := by simp [sumN]
theorem prodN_one (x : Int) : prodN [x] = max x 0 := by simp [prodN]
theorem sumN_nonneg (l : List Int) : 0 ≤ sumN l := by
  induction l with
  | nil => exact Int.le_refl _
  | cons x l ih => simp only [sumN]; omega
theorem prodN_nonneg (l : List Int) : 0 ≤ prodN l := by
  induction l with
  | nil => simp only [prodN]; omega
  | cons x l ih => simp only [prodN]; exact Int.mul_nonneg (by omega) ih
theorem sumN_reverse (l : List Int) : sumN l.reverse = sumN l := by
  induction l with
  | nil => rfl
  | cons x l ih => rw [List.reverse_cons, sumN_append, ih, sumN_one]; simp only [sumN]; omega
theorem prodN_reverse (l : List Int) : prodN l.reverse = prodN l := by
  induction l with
  | nil => rfl
  | cons x l ih => rw [List.reverse_cons, prodN_append, ih, prodN_one]; simp only [prodN]; rw [Int.mul_comm]
theorem addS_reverse (top : Int) (l : List Int) : addS top l.reverse = addS top l := by unfold addS; rw [sumN_reverse]
theorem mulS_reverse (top : Int) (l : List Int) : mulS top l.reverse = mulS top l := by unfold mulS; rw [prodN_reverse]
theorem addS_nil {top : Int} (h : 0 ≤ top) : addS top [] = 0 := by unfold addS; rw [if_neg (by omega)]; simp only [sumN]; omega
theorem mulS_nil {top : Int} (h : 0 ≤ top) : mulS top [] = min 1 top := by unfold mulS; rw [if_neg (by omega)]; simp only [prodN]
theorem addS_range {top : Int} (h : 0 ≤ top) (l : List Int) : 0 ≤ addS top l ∧ addS top l ≤ top := by
  unfold addS; rw [if_neg (by omega)]; have := sumN_nonneg l; omega
theorem mulS_range {top : Int} (h : 0 ≤ top) (l : List Int) : 0 ≤ mulS top l ∧ mulS top l ≤ top := by
  unfold mulS; rw [if_neg (by omega)]; have := prodN_nonneg l; omega
theorem addS_snoc_top {top : Int} (h : 0 ≤ top) (l : List Int) (x : Int) (hx : top - addS top l < max x 0) : addS top (l ++ [x]) = top := by
  unfold addS at *; rw [if_neg (by omega)] at *; rw [sumN_append, sumN_one]; omega
theorem addS_snoc_go {top : Int} (h : 0 ≤ top) (l : List Int) (x : Int) (hx : max x 0 ≤ top - addS top l) : addS top (l ++ [x]) = addS top l + max x 0 := by
  unfold addS at *; rw [if_neg (by omega)] at *; rw [sumN_append, sumN_one]; omega
theorem le_mul_of_one_le {a b : Int} (ha : 0 ≤ a) (hb : 1 ≤ b) : a ≤ a * b := by
  have := Int.mul_le_mul_of_nonneg_left hb ha
  omega
theorem div_lt_iff' {a b top : Int} (hb : 0 < b) : top / b < a ↔ top < a * b := Int.ediv_lt_iff_lt_mul hb
theorem mulS_snoc_top {top : Int} (h : 0 ≤ top) (l : List Int) (x : Int) (h0 : 0 < max x 0) (hx : top / max x 0 < mulS top l) : mulS top (l ++ [x]) = top := by
  have hx' := (div_lt_iff' h0).1 hx
  unfold mulS at *; rw [if_neg (by omega)] at *; rw [prodN_append, prodN_one]
  have h1 := Int.mul_le_mul_of_nonneg_right (show min (prodN l) top ≤ prodN l by omega) (show 0 ≤ max x 0 by omega)
  omega
theorem mulS_eq {top : Int} (h : 0 ≤ top) (l : List Int) : mulS top l = min (prodN l) top := by unfold mulS; rw [if_neg (by omega)]
theorem mulS_snoc_go {top : Int} (h : 0 ≤ top) (l : List Int) (x : Int) (hx : 0 < max x 0 → mulS top l ≤ top / max x 0) : mulS top (l ++ [x]) = mulS top l * max x 0 ∧ mulS top l * max x 0 ≤ top := by
  rw [mulS_eq h, mulS_eq h, prodN_append, prodN_one]
  rw [mulS_eq h] at hx
  by_cases h0 : 0 < max x 0
  · have hx' : ¬ top < min (prodN l) top * max x 0 := fun e => by
      have := (div_lt_iff' h0).2 e
      have := hx h0
      omega
    refine ⟨?_, by omega⟩
    by_cases hp : prodN l ≤ top
    · rw [Int.min_eq_left hp] at hx' ⊢; omega
    · rw [Int.min_eq_right (by omega : top ≤ prodN l)] at hx' ⊢
      have h1 := le_mul_of_one_le (a := prodN l) (by omega) (show 1 ≤ max x 0 by omega)
      have h2 := le_mul_of_one_le (a := top) h (show 1 ≤ max x 0 by omega)
      omega
  · have e : max x 0 = 0 := by omega
    rw [e, Int.mul_zero, Int.mul_zero]
    omega
end Go.Proofs.YtgllaecahijlpaaDoor.NumM
