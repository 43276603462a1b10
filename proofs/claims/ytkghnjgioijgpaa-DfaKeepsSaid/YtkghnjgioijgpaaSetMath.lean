/- Plain mathematics of sets of bytes: words, bits, membership functions. -/
import Derived.Lib.TrailingZeros
namespace Go.Proofs.Ytkghnjgioijgpaa.SetM

/-- The number whose bits are f's values from o on, n of them. -/
def wdAux (f : Nat → Bool) (o : Nat) : Nat → Nat
  | 0 => 0
  | n + 1 => if f (o + n) then 2 ^ n + wdAux f o n else wdAux f o n
theorem wdAux_lt (f : Nat → Bool) (o : Nat) : ∀ n, wdAux f o n < 2 ^ n
  | 0 => by simp [wdAux]
  | n + 1 => by
    have h := wdAux_lt f o n
    rw [Nat.pow_succ]
    unfold wdAux
    split <;> omega
theorem wdAux_testBit (f : Nat → Bool) (o : Nat) : ∀ n j, (wdAux f o n).testBit j = (decide (j < n) && f (o + j))
  | 0, j => by simp [wdAux]
  | n + 1, j => by
    have h := wdAux_lt f o n
    have ih := wdAux_testBit f o n
    by_cases hj : j = n
    · subst hj
      have h0 : (wdAux f o j).testBit j = false := Nat.testBit_lt_two_pow h
      unfold wdAux
      split
      · rename_i hf
        rw [Nat.testBit_two_pow_add_eq, h0, hf]; simp
      · rename_i hf
        rw [h0]; simp [hf]
    · have e : decide (j < n + 1) = decide (j < n) := by
        by_cases h1 : j < n
        · simp [h1]; omega
        · simp [h1]; omega
      rw [e]
      by_cases h1 : j < n
      · unfold wdAux
        split
        · rw [Nat.testBit_two_pow_add_gt h1, ih]
        · rw [ih]
      · have h2 : wdAux f o (n + 1) < 2 ^ j := Nat.lt_of_lt_of_le (wdAux_lt f o (n + 1)) (Nat.pow_le_pow_right (by decide) (by omega))
        rw [Nat.testBit_lt_two_pow h2]; simp [h1]

/-- Word k of the set of which f tells who is in. -/
def wd (f : Nat → Bool) (k : Nat) : Nat := wdAux f (64 * k) 64
theorem wd_lt (f : Nat → Bool) (k : Nat) : wd f k < 18446744073709551616 := wdAux_lt f (64 * k) 64
theorem wd_testBit (f : Nat → Bool) (k j : Nat) : (wd f k).testBit j = (decide (j < 64) && f (64 * k + j)) := wdAux_testBit f (64 * k) 64 j
theorem wd_eq (f : Nat → Bool) (k x : Nat) (hx : x < 18446744073709551616) (h : ∀ j, j < 64 → x.testBit j = f (64 * k + j)) : x = wd f k := by
  apply Nat.eq_of_testBit_eq
  intro j
  rw [wd_testBit]
  by_cases hj : j < 64
  · rw [h j hj]; simp [hj]
  · have : x < 2 ^ j := Nat.lt_of_lt_of_le (m := 2 ^ 64) hx (Nat.pow_le_pow_right (by decide) (by omega))
    rw [Nat.testBit_lt_two_pow this]; simp [hj]
theorem wd_congr {f g : Nat → Bool} (k : Nat) (h : ∀ j, j < 64 → f (64 * k + j) = g (64 * k + j)) : wd f k = wd g k :=
  wd_eq g k _ (wd_lt f k) (fun j hj => by rw [wd_testBit, h j hj]; simp [hj])
theorem wd_inj {f g : Nat → Bool} {k : Nat} (h : wd f k = wd g k) {j : Nat} (hj : j < 64) : f (64 * k + j) = g (64 * k + j) := by
  have h1 := wd_testBit f k j
  rw [h, wd_testBit] at h1
  simpa [hj] using h1.symm
/-- Who is in the set of four words. -/
def memOf (a b c d : Nat) (i : Nat) : Bool := (if i < 64 then a else if i < 128 then b else if i < 192 then c else d).testBit (i % 64)
theorem memOf0 (a b c d : Nat) (h : a < 18446744073709551616) : a = wd (memOf a b c d) 0 := wd_eq _ _ _ h fun j hj => by
  unfold memOf; rw [if_pos (by omega), show (64 * 0 + j) % 64 = j by omega]
theorem memOf1 (a b c d : Nat) (h : b < 18446744073709551616) : b = wd (memOf a b c d) 1 := wd_eq _ _ _ h fun j hj => by
  unfold memOf; rw [if_neg (by omega), if_pos (by omega), show (64 * 1 + j) % 64 = j by omega]
theorem memOf2 (a b c d : Nat) (h : c < 18446744073709551616) : c = wd (memOf a b c d) 2 := wd_eq _ _ _ h fun j hj => by
  unfold memOf; rw [if_neg (by omega), if_neg (by omega), if_pos (by omega), show (64 * 2 + j) % 64 = j by omega]
theorem memOf3 (a b c d : Nat) (h : d < 18446744073709551616) : d = wd (memOf a b c d) 3 := wd_eq _ _ _ h fun j hj => by
  unfold memOf; rw [if_neg (by omega), if_neg (by omega), if_neg (by omega), show (64 * 3 + j) % 64 = j by omega]

/-! ### Sets, by who is in -/
def unionF (f g : Nat → Bool) : Nat → Bool := fun i => f i || g i
def meetF (f g : Nat → Bool) : Nat → Bool := fun i => f i && g i
def lessF (f g : Nat → Bool) : Nat → Bool := fun i => f i && !g i
def notF (f : Nat → Bool) : Nat → Bool := fun i => !f i
def withF (f : Nat → Bool) (b : Nat) : Nat → Bool := fun i => f i || i == b
/-- From lo to ahead of hi. -/
def spanF (lo hi : Nat) : Nat → Bool := fun i => decide (lo ≤ i) && decide (i < hi)
def emptyF : Nat → Bool := fun _ => false
/-- Up to ahead of k alone. -/
def toF (f : Nat → Bool) (k : Nat) : Nat → Bool := fun i => decide (i < k) && f i
def ofF (l : List UInt8) : Nat → Bool := fun i => l.any fun c => i == c.toNat

/-! ### What is done to words -/
theorem wd_and (f g : Nat → Bool) (k : Nat) : wd f k &&& wd g k = wd (meetF f g) k :=
  wd_eq _ _ _ (Nat.and_lt_two_pow (n := 64) _ (wd_lt g k)) fun j hj => by rw [Nat.testBit_and, wd_testBit, wd_testBit]; simp [hj, meetF]
theorem wd_or (f g : Nat → Bool) (k : Nat) : wd f k ||| wd g k = wd (unionF f g) k :=
  wd_eq _ _ _ (Nat.or_lt_two_pow (n := 64) (wd_lt f k) (wd_lt g k)) fun j hj => by rw [Nat.testBit_or, wd_testBit, wd_testBit]; simp [hj, unionF]
theorem wd_not (f : Nat → Bool) (k : Nat) : 18446744073709551615 - wd f k = wd (notF f) k :=
  wd_eq _ _ _ (by omega) fun j hj => by
    have h := wd_lt f k
    rw [show 18446744073709551615 - wd f k = 2 ^ 64 - (wd f k + 1) by omega, Nat.testBit_two_pow_sub_succ h, wd_testBit]; simp [hj, notF]
theorem wd_empty (k : Nat) : wd emptyF k = 0 := (wd_eq _ _ _ (by decide) (fun j _ => by simp [emptyF])).symm
theorem wd_set (f : Nat → Bool) (k r : Nat) (hr : r < 64) : wd f k ||| 2 ^ r = wd (withF f (64 * k + r)) k :=
  wd_eq _ _ _ (Nat.or_lt_two_pow (n := 64) (wd_lt f k) (Nat.pow_lt_pow_right (by decide) hr)) fun j hj => by
    rw [Nat.testBit_or, wd_testBit, Nat.testBit_two_pow]
    have e : decide (r = j) = (64 * k + j == 64 * k + r) := by
      rw [Bool.eq_iff_iff]; simp; omega
    simp [hj, e, withF]
theorem wd_other (f : Nat → Bool) (k b : Nat) (h : b / 64 ≠ k) : wd f k = wd (withF f b) k :=
  wd_congr k fun j hj => by
    have : (64 * k + j == b) = false := by simp; omega
    simp [withF, this]
theorem bit_of (f : Nat → Bool) (k r : Nat) (hr : r < 64) : (wd f k / 2 ^ r) % 2 = (f (64 * k + r)).toNat := by
  have h := wd_testBit f k r
  rw [Nat.testBit_eq_decide_div_mod_eq] at h
  simp only [hr, decide_true, Bool.true_and] at h
  rw [← h]
  have : wd f k / 2 ^ r % 2 < 2 := Nat.mod_lt _ (by decide)
  by_cases h1 : wd f k / 2 ^ r % 2 = 1
  · simp [h1]
  · simp [h1]; omega
end Go.Proofs.Ytkghnjgioijgpaa.SetM
