/- Plain mathematics: the list of a set's bytes, its least one, its pieces. -/
import Derived.Test.YthefhkgjadfhgaaDoorBitMath
namespace Go.Proofs.YthefhkgjadfhgaaDoor.SetM

/-- Who is in the set, rising. -/
def elems (f : Nat → Bool) : List Nat := (List.range 256).filter f
def upTo (f : Nat → Bool) (k : Nat) : List Nat := (List.range k).filter f
theorem upTo_zero (f : Nat → Bool) : upTo f 0 = [] := rfl
theorem upTo_yes {f : Nat → Bool} {k : Nat} (h : f k = true) : upTo f (k + 1) = upTo f k ++ [k] := by
  unfold upTo; rw [List.range_succ, List.filter_append]; simp [h]
theorem upTo_no {f : Nat → Bool} {k : Nat} (h : f k = false) : upTo f (k + 1) = upTo f k := by
  unfold upTo; rw [List.range_succ, List.filter_append]; simp [h]
theorem upTo_length (f : Nat → Bool) (k : Nat) : (upTo f k).length ≤ k := by
  have := List.length_filter_le f (List.range k); simpa [upTo] using this
theorem upTo_lt {f : Nat → Bool} {k x : Nat} (h : x ∈ upTo f k) : x < k := by
  unfold upTo at h; rw [List.mem_filter, List.mem_range] at h; exact h.1

theorem bitsOf_wd (f : Nat → Bool) (k : Nat) : (bitsOf (wd f k)).map (64 * k + ·) = (List.range' (64 * k) 64).filter f := by
  have h1 : List.range' (64 * k) 64 = (List.range 64).map (64 * k + ·) := by
    rw [List.range_eq_range', List.map_add_range']; simp
  rw [h1, List.filter_map]
  congr 1
  unfold bitsOf
  apply List.filter_congr
  intro j hj
  rw [List.mem_range] at hj
  rw [wd_testBit]; simp [hj]
theorem upTo_word (f : Nat → Bool) (k : Nat) : upTo f (64 * (k + 1)) = upTo f (64 * k) ++ (bitsOf (wd f k)).map (64 * k + ·) := by
  rw [bitsOf_wd]
  unfold upTo
  rw [← List.filter_append]
  congr 1
  have h : List.range' 0 (64 * k) 1 ++ List.range' (0 + 1 * (64 * k)) 64 1 = List.range' 0 (64 * k + 64) 1 := List.range'_append
  rw [List.range_eq_range', List.range_eq_range', show 64 * (k + 1) = 64 * k + 64 by omega, ← h]
  congr 1
  rw [show 0 + 1 * (64 * k) = 64 * k by omega]
theorem elems_words (f : Nat → Bool) : elems f = (bitsOf (wd f 0)).map (64 * 0 + ·) ++ (bitsOf (wd f 1)).map (64 * 1 + ·) ++ (bitsOf (wd f 2)).map (64 * 2 + ·) ++ (bitsOf (wd f 3)).map (64 * 3 + ·) := by
  have h0 := upTo_word f 0; have h1 := upTo_word f 1; have h2 := upTo_word f 2; have h3 := upTo_word f 3
  show upTo f (64 * (3 + 1)) = _
  rw [h3, show 64 * 3 = 64 * (2 + 1) from rfl, h2, show 64 * 2 = 64 * (1 + 1) from rfl, h1, show 64 * 1 = 64 * (0 + 1) from rfl, h0]
  rfl
theorem elems_count (f : Nat → Bool) : (elems f).length = (bitsOf (wd f 0)).length + (bitsOf (wd f 1)).length + (bitsOf (wd f 2)).length + (bitsOf (wd f 3)).length := by
  rw [elems_words]; simp only [List.length_append, List.length_map]
theorem bits_length (x : Nat) : (bitsOf x).length ≤ 64 := by
  have := List.length_filter_le x.testBit (List.range 64); simpa [bitsOf] using this

/-- The least one, or -1. -/
def leastI (f : Nat → Bool) : Int := match elems f with | [] => -1 | a :: _ => (a : Int)
theorem upTo_none {f : Nat → Bool} {k : Nat} (h : ∀ i, i < k → f i = false) : upTo f k = [] := by
  unfold upTo; rw [List.filter_eq_nil_iff]; intro j hj; rw [List.mem_range] at hj; simp [h j hj]
theorem upTo_split (f : Nat → Bool) (k n : Nat) (h : k ≤ n) : upTo f n = upTo f k ++ (List.range' k (n - k)).filter f := by
  unfold upTo
  rw [← List.filter_append]
  congr 1
  have h1 : List.range' 0 k 1 ++ List.range' (0 + 1 * k) (n - k) 1 = List.range' 0 (k + (n - k)) 1 := List.range'_append
  rw [List.range_eq_range', List.range_eq_range']
  rw [show 0 + 1 * k = k by omega, show k + (n - k) = n by omega] at h1
  exact h1.symm
theorem leastI_at {f : Nat → Bool} {k : Nat} (hk : k < 256) (h : ∀ i, i < k → f i = false) (hf : f k = true) : leastI f = k := by
  have e : elems f = k :: (List.range' (k + 1) (255 - k)).filter f := by
    show upTo f 256 = _
    rw [upTo_split f (k + 1) 256 (by omega), upTo_yes hf, upTo_none h, show 256 - (k + 1) = 255 - k by omega]; rfl
  unfold leastI; rw [e]
theorem leastI_none {f : Nat → Bool} (h : ∀ i, i < 256 → f i = false) : leastI f = -1 := by
  have e : elems f = [] := upTo_none h
  unfold leastI; rw [e]
theorem wd_zero {f : Nat → Bool} {k : Nat} (h : wd f k = 0) : ∀ i, 64 * k ≤ i → i < 64 * (k + 1) → f i = false := fun i h1 h2 => by
  have := wd_testBit f k (i - 64 * k)
  rw [h] at this
  simp only [Nat.zero_testBit, show i - 64 * k < 64 by omega, decide_true, Bool.true_and, show 64 * k + (i - 64 * k) = i by omega] at this
  exact this.symm
theorem wd_ctz {f : Nat → Bool} {k : Nat} (h : wd f k ≠ 0) : Lib.ctz 64 (wd f k) < 64 ∧ f (64 * k + Lib.ctz 64 (wd f k)) = true ∧ ∀ i, 64 * k ≤ i → i < 64 * k + Lib.ctz 64 (wd f k) → f i = false := by
  obtain ⟨m, hm, hk⟩ := Lib.ctzFrom_spec 64 (wd f k) (by omega) (wd_lt f k)
  have e : Lib.ctz 64 (wd f k) = Lib.ctzFrom 64 (wd f k) := by simp [Lib.ctz, h]
  rw [e]
  have tb := wd_testBit f k
  generalize Lib.ctzFrom 64 (wd f k) = c at *
  have tx : ∀ j, (wd f k).testBit j = (decide (c ≤ j) && (2 * m + 1).testBit (j - c)) := fun j => by
    rw [hm, Nat.mul_comm, Nat.testBit_mul_two_pow]
  refine ⟨hk, ?_, fun i h1 h2 => ?_⟩
  · have := tb c
    rw [tx c] at this
    simp [Nat.testBit_zero, hk] at this
    exact this
  · have := tb (i - 64 * k)
    rw [tx (i - 64 * k)] at this
    simp only [show ¬ c ≤ i - 64 * k by omega, show i - 64 * k < 64 by omega, decide_true, decide_false, Bool.true_and, Bool.false_and, show 64 * k + (i - 64 * k) = i by omega] at this
    exact this.symm
theorem leastI_word {f : Nat → Bool} {k : Nat} (hk : k < 4) (h0 : ∀ j, j < k → wd f j = 0) (h : wd f k ≠ 0) : leastI f = 64 * k + Lib.ctz 64 (wd f k) := by
  obtain ⟨h1, h2, h3⟩ := wd_ctz h
  have := leastI_at (f := f) (k := 64 * k + Lib.ctz 64 (wd f k)) (by omega) (fun i hi => by
    by_cases hik : 64 * k ≤ i
    · exact h3 i hik hi
    · exact wd_zero (h0 (i / 64) (by omega)) i (by omega) (by omega)) h2
  rw [this]; simp
theorem leastI_zero {f : Nat → Bool} (h0 : wd f 0 = 0) (h1 : wd f 1 = 0) (h2 : wd f 2 = 0) (h3 : wd f 3 = 0) : leastI f = -1 :=
  leastI_none fun i hi => by
    by_cases a : i < 64
    · exact wd_zero h0 i (by omega) (by omega)
    · by_cases b : i < 128
      · exact wd_zero h1 i (by omega) (by omega)
      · by_cases c : i < 192
        · exact wd_zero h2 i (by omega) (by omega)
        · exact wd_zero h3 i (by omega) (by omega)
end Go.Proofs.YthefhkgjadfhgaaDoor.SetM
