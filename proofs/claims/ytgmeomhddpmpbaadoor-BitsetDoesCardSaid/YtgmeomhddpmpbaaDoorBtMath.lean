/- Plain mathematics of sets of small numbers: what is put, taken; masks. -/
import Derived.Test.YtgmeomhddpmpbaaDoorBut
import Derived.Laws.Bits64b
import Derived.Laws.DeepNot64
import Derived.Laws.BitsAllLaws
namespace Go.Proofs.YtgmeomhddpmpbaaDoor.BitsW
set_option linter.unusedVariables false
open Go.RowKit Go.Proofs.YtgmeomhddpmpbaaDoor.SetM

/-- Is there room? -/
def inR (n : Nat) (i : Int) : Bool := decide (0 ≤ i) && decide (i < n)
def hasI (f : Nat → Bool) (i : Int) : Bool := decide (0 ≤ i) && f i.toNat
def lessOne (f : Nat → Bool) (b : Nat) : Nat → Bool := fun i => f i && !(i == b)
def putB (n : Nat) (f : Nat → Bool) (i : Int) : Bool := inR n i && !hasI f i
def putF (n : Nat) (f : Nat → Bool) (i : Int) : Nat → Bool := if inR n i then withF f i.toNat else f
def takeF (f : Nat → Bool) (i : Int) : Nat → Bool := if hasI f i then lessOne f i.toNat else f
theorem inR_nat {n : Nat} {i : Int} (h : inR n i = true) : ∃ k : Nat, i = k ∧ k < n := by
  simp only [inR, Bool.and_eq_true, decide_eq_true_eq] at h
  exact ⟨i.toNat, by omega, by omega⟩
theorem inR_cast {n k : Nat} : inR n (k : Int) = decide (k < n) := by simp [inR]
theorem hasI_cast {f : Nat → Bool} {k : Nat} : hasI f (k : Int) = f k := by simp [hasI]
theorem hasI_room {n : Nat} {f : Nat → Bool} (h : ∀ i, f i = true → i < n) {i : Int} (hi : hasI f i = true) : inR n i = true := by
  simp only [hasI, inR, Bool.and_eq_true, decide_eq_true_eq] at *
  have := h _ hi.2
  omega
theorem withF_into {n k : Nat} {f : Nat → Bool} (h : ∀ i, f i = true → i < n) (hk : k < n) : ∀ i, withF f k i = true → i < n := fun i hi => by
  simp only [withF, Bool.or_eq_true, beq_iff_eq] at hi
  rcases hi with hi | rfl
  · exact h i hi
  · exact hk
theorem lessOne_into {n k : Nat} {f : Nat → Bool} (h : ∀ i, f i = true → i < n) : ∀ i, lessOne f k i = true → i < n := fun i hi => by
  simp only [lessOne, Bool.and_eq_true] at hi
  exact h i hi.1
theorem withF_in {f : Nat → Bool} {k : Nat} (h : f k = true) : withF f k = f := by
  funext i
  simp only [withF]
  by_cases hi : i = k
  · subst hi; simp [h]
  · simp [hi]
/-- The mask of a place. -/
theorem mask_nat (k : Nat) : IntKind.u64.wrap (2 ^ (k % 64)) = ((2 ^ (k % 64) : Nat) : Int) ∧ 2 ^ (k % 64) < 2 ^ 64 := by
  have hr : k % 64 < 64 := Nat.mod_lt _ (by decide)
  have hp : 2 ^ (k % 64) < 2 ^ 64 := Nat.pow_lt_pow_right (by decide) hr
  refine ⟨?_, hp⟩
  rw [show ((2 : Int) ^ (k % 64)) = ((2 ^ (k % 64) : Nat) : Int) by simp, IntKind.wrap_u64]
  generalize 2 ^ (k % 64) = p at *
  omega
theorem bt_or (f : Nat → Bool) (k : Nat) : bits BinOp.or IntKind.u64 (wd f (k / 64)) (IntKind.u64.wrap (2 ^ (k % 64))) = (wd (withF f k) (k / 64) : Int) := by
  obtain ⟨e, hp⟩ := mask_nat k
  rw [e, bits_or_u64_nat _ _ (wd_lt f _) hp, wd_set f (k / 64) _ (Nat.mod_lt _ (by decide)), show 64 * (k / 64) + k % 64 = k by omega]
theorem bt_test (f : Nat → Bool) (k : Nat) : (bits BinOp.and IntKind.u64 ((wd f (k / 64) : Int) / 2 ^ (k % 64)) 1 == 1) = f k := by
  have hx := wd_lt f (k / 64)
  generalize hw : wd f (k / 64) = x at *
  have hd : x / 2 ^ (k % 64) ≤ x := Nat.div_le_self _ _
  have e : ((x : Int) / 2 ^ (k % 64)) = ((x / 2 ^ (k % 64) : Nat) : Int) := by rw [Int.natCast_ediv]; simp
  have h1 := bits_and_u64_nat (x / 2 ^ (k % 64)) 1 (by omega) (by decide)
  have h2 := bit_of f (k / 64) (k % 64) (Nat.mod_lt _ (by decide))
  rw [show 64 * (k / 64) + k % 64 = k by omega, hw] at h2
  rw [e, show (1 : Int) = ((1 : Nat) : Int) from rfl, h1, Nat.and_one_is_mod, h2]
  cases f k <;> rfl
theorem wd_lessOne (f : Nat → Bool) (j k : Nat) (h : k / 64 ≠ j) : wd f j = wd (lessOne f k) j :=
  wd_congr j fun i hi => by
    have : (64 * j + i == k) = false := by simp; omega
    simp [lessOne, this]
theorem bt_less (f : Nat → Bool) (k : Nat) : bits BinOp.andNot IntKind.u64 (wd f (k / 64)) (IntKind.u64.wrap (2 ^ (k % 64))) = (wd (lessOne f k) (k / 64) : Int) := by
  obtain ⟨e, hp⟩ := mask_nat k
  have hl := wd_lt f (k / 64)
  rw [e, u64_andNot_nat _ _ hl hp]
  congr 1
  apply wd_eq
  · exact Nat.and_lt_two_pow (n := 64) _ (Nat.lt_of_le_of_lt (Nat.sub_le _ _) (by decide))
  · intro j hj
    rw [Nat.testBit_and, wd_testBit, show 18446744073709551615 - 2 ^ (k % 64) = 2 ^ 64 - (2 ^ (k % 64) + 1) by omega, Nat.testBit_two_pow_sub_succ hp, Nat.testBit_two_pow]
    have e : decide (k % 64 = j) = (64 * (k / 64) + j == k) := by
      rw [Bool.eq_iff_iff]; simp; omega
    simp [hj, e, lessOne]
/-! ### Words of which some is there -/
/-- The places of the words that are not empty. -/
def rows (f : Nat → Bool) (k : Nat) : List Nat := (List.range k).filter fun j => !(wd f j == 0)
theorem rows_zero (f : Nat → Bool) : rows f 0 = [] := rfl
theorem rows_yes {f : Nat → Bool} {k : Nat} (h : wd f k ≠ 0) : rows f (k + 1) = rows f k ++ [k] := by
  unfold rows; rw [List.range_succ, List.filter_append]; simp [h]
theorem rows_no {f : Nat → Bool} {k : Nat} (h : wd f k = 0) : rows f (k + 1) = rows f k := by
  unfold rows; rw [List.range_succ, List.filter_append]; simp [h]
theorem rows_len (f : Nat → Bool) (k : Nat) : (rows f k).length ≤ k := by
  have := List.length_filter_le (fun j => !(wd f j == 0)) (List.range k); simpa [rows] using this
theorem rows_mem {f : Nat → Bool} {k j : Nat} : j ∈ rows f k ↔ j < k ∧ wd f j ≠ 0 := by simp [rows]
theorem rows_of {f : Nat → Bool} {k i : Nat} (hf : f i = true) (hk : i / 64 < k) : i / 64 ∈ rows f k := by
  rw [rows_mem]
  refine ⟨hk, fun h => ?_⟩
  have := wd_zero h i (by omega) (by omega)
  rw [hf] at this; cases this
theorem rows_split (f : Nat → Bool) (k n : Nat) (h : k ≤ n) : ∃ r, rows f n = rows f k ++ r := by
  refine ⟨(List.range' k (n - k)).filter fun j => !(wd f j == 0), ?_⟩
  unfold rows
  rw [← List.filter_append]
  congr 1
  have h1 : List.range' 0 k 1 ++ List.range' (0 + 1 * k) (n - k) 1 = List.range' 0 (k + (n - k)) 1 := List.range'_append
  rw [List.range_eq_range', List.range_eq_range']
  rw [show 0 + 1 * k = k by omega, show k + (n - k) = n by omega] at h1
  exact h1.symm
/-- Where the sequence was left: all that is ahead of the last one was told. -/
theorem rows_left {f : Nat → Bool} {n x j : Nat} {pre : List Nat} (h : pre ++ [x] <+: rows f n) (hj : j < x) (hm : j ∈ rows f n) : j ∈ pre := by
  obtain ⟨r, hr⟩ := h
  have hs : (rows f n).Pairwise (· < ·) := List.Pairwise.filter _ List.pairwise_lt_range
  rw [← hr, List.append_assoc] at hs hm
  rcases List.mem_append.1 hm with h | h
  · exact h
  · rw [List.pairwise_append] at hs
    have h2 := hs.2.1
    simp only [List.singleton_append, List.pairwise_cons] at h2
    simp only [List.singleton_append, List.mem_cons] at h
    rcases h with rfl | h
    · omega
    · have := h2.1 j h; omega

/-! ### The union -/
/-- With those of g for which there is room, of the words that are named. -/
def orL (n : Nat) (f g : Nat → Bool) (l : List Nat) : Nat → Bool := fun i => f i || (g i && decide (i < n) && l.contains (i / 64))
def orF (n : Nat) (f g : Nat → Bool) : Nat → Bool := fun i => f i || (g i && decide (i < n))
def moreF (n : Nat) (f g : Nat → Bool) (l : List Nat) : Bool := l.any fun j => !(wd (fun i => g i && decide (i < n) && !f i) j == 0)
theorem orL_nil (n : Nat) (f g : Nat → Bool) : orL n f g [] = f := by funext i; simp [orL]
theorem orL_into {n : Nat} {f g : Nat → Bool} (h : ∀ i, f i = true → i < n) (l : List Nat) : ∀ i, orL n f g l i = true → i < n := fun i hi => by
  simp only [orL, Bool.or_eq_true, Bool.and_eq_true, decide_eq_true_eq] at hi
  rcases hi with hi | hi
  · exact h i hi
  · exact hi.1.2
theorem orF_into {n : Nat} {f g : Nat → Bool} (h : ∀ i, f i = true → i < n) : ∀ i, orF n f g i = true → i < n := fun i hi => by
  simp only [orF, Bool.or_eq_true, Bool.and_eq_true, decide_eq_true_eq] at hi
  rcases hi with hi | hi
  · exact h i hi
  · exact hi.2
/-- The part of a word for which there is room. -/
def partF (n : Nat) : Nat → Bool := fun i => decide (i < n)
theorem part_full {n j : Nat} (h : 64 ≤ n - 64 * j) : (18446744073709551615 : Nat) = wd (partF n) j :=
  wd_eq _ _ _ (by decide) fun i hi => by
    rw [show (18446744073709551615 : Nat) = 2 ^ 64 - 1 by decide, Nat.testBit_two_pow_sub_one]
    simp [hi, partF]; omega
theorem part_some {n j : Nat} (h : n - 64 * j < 64) (h0 : 64 * j ≤ n) : 2 ^ (n - 64 * j) - 1 = wd (partF n) j :=
  wd_eq _ _ _ (by have := Nat.pow_lt_pow_right (a := 2) (by decide) h; omega) fun i hi => by
    rw [Nat.testBit_two_pow_sub_one]
    simp only [partF]
    rw [Bool.eq_iff_iff]; simp; omega
/-- What is missing of a word. -/
def missF (n : Nat) (f g : Nat → Bool) : Nat → Bool := fun i => g i && decide (i < n) && !f i
theorem miss_word (n : Nat) (f g : Nat → Bool) (j : Nat) : bits BinOp.andNot IntKind.u64 (bits BinOp.and IntKind.u64 (wd g j) (wd (partF n) j)) (wd f j) = (wd (missF n f g) j : Int) := by
  have hf := wd_lt f j
  have hm : wd g j &&& wd (partF n) j < 2 ^ 64 := Nat.and_lt_two_pow (n := 64) _ (wd_lt _ _)
  rw [bits_and_u64_nat _ _ (wd_lt g j) (wd_lt _ j), u64_andNot_nat _ _ hm hf]
  congr 1
  apply wd_eq
  · exact Nat.and_lt_two_pow (n := 64) _ (by omega)
  · intro i hi
    rw [Nat.testBit_and, Nat.testBit_and, wd_testBit, wd_testBit, show 18446744073709551615 - wd f j = 2 ^ 64 - (wd f j + 1) by omega, Nat.testBit_two_pow_sub_succ hf, wd_testBit]
    simp [hi, missF, partF]
theorem orL_at (n : Nat) (f g : Nat → Bool) (l : List Nat) (j k : Nat) (h : k ≠ j) : wd (orL n f g l) k = wd (orL n f g (l ++ [j])) k :=
  wd_congr k fun i hi => by
    have e1 : (64 * k + i) / 64 = k := by omega
    have e2 : (l ++ [j]).contains k = l.contains k := by
      rw [Bool.eq_iff_iff]; simp [h]
    simp only [orL, e1, e2]
theorem orL_old (n : Nat) (f g : Nat → Bool) (l : List Nat) (j : Nat) (h : j ∉ l) : wd (orL n f g l) j = wd f j :=
  wd_congr j fun i hi => by
    have e1 : (64 * j + i) / 64 = j := by omega
    have e2 : l.contains j = false := by simp [h]
    simp [orL, e1, h]
theorem orL_new (n : Nat) (f g : Nat → Bool) (l : List Nat) (j : Nat) : bits BinOp.or IntKind.u64 (wd f j) (wd (missF n f g) j) = (wd (orL n f g (l ++ [j])) j : Int) := by
  rw [bits_or_u64_nat _ _ (wd_lt f j) (wd_lt _ j)]
  congr 1
  apply wd_eq
  · exact Nat.or_lt_two_pow (n := 64) (wd_lt _ _) (wd_lt _ _)
  · intro i hi
    have e1 : (64 * j + i) / 64 = j := by omega
    rw [Nat.testBit_or, wd_testBit, wd_testBit]
    simp [hi, missF, orL, e1]
    cases f (64 * j + i) <;> simp
theorem orL_all {n : Nat} {f g : Nat → Bool} {l : List Nat} (h : ∀ i, g i = true → i < n → i / 64 ∈ l) : orL n f g l = orF n f g := by
  funext i
  simp only [orL, orF]
  by_cases hg : g i = true
  · by_cases hn : i < n
    · have := h i hg hn
      simp [hg, hn, this]
    · simp [hn]
  · simp [hg]
theorem moreF_snoc (n : Nat) (f g : Nat → Bool) (l : List Nat) (j : Nat) : moreF n f g (l ++ [j]) = (moreF n f g l || !(wd (missF n f g) j == 0)) := by
  unfold moreF missF; rw [List.any_append]; simp
/-- Is one of g, for which there is room, not in f? -/
def moreB (n : Nat) (f g : Nat → Bool) : Bool := (List.range n).any fun i => g i && !f i
theorem moreF_all {n : Nat} {f g : Nat → Bool} {l : List Nat} (h : ∀ i, g i = true → i < n → i / 64 ∈ l) : moreF n f g l = moreB n f g := by
  rw [Bool.eq_iff_iff]
  simp only [moreF, moreB, List.any_eq_true, List.mem_range, Bool.and_eq_true, Bool.not_eq_true']
  constructor
  · rintro ⟨j, hj, h1⟩
    have h2 : wd (fun i => g i && decide (i < n) && !f i) j ≠ 0 := by simpa using h1
    have h3 := wd_ctz h2
    generalize Lib.ctz 64 _ = c at h3
    refine ⟨64 * j + c, ?_, ?_⟩ <;> simp_all
  · rintro ⟨i, hi, h1, h2⟩
    refine ⟨i / 64, h i h1 hi, ?_⟩
    by_cases h0 : wd (fun i => g i && decide (i < n) && !f i) (i / 64) = 0
    · have := wd_zero h0 i (by omega) (by omega)
      simp [h1, hi, h2] at this
    · simpa using h0
/-- Is a number in both, of words that are named? -/
def meetL (f g : Nat → Bool) (l : List Nat) : Bool := l.any fun j => !(wd (meetF g f) j == 0)
theorem meetL_snoc (f g : Nat → Bool) (l : List Nat) (j : Nat) : meetL f g (l ++ [j]) = (meetL f g l || !(wd (meetF g f) j == 0)) := by
  unfold meetL; rw [List.any_append]; simp
theorem meet_word (f g : Nat → Bool) (j : Nat) : bits BinOp.and IntKind.u64 (wd g j) (wd f j) = (wd (meetF g f) j : Int) := by
  rw [bits_and_u64_nat _ _ (wd_lt g j) (wd_lt f j), wd_and]
def meetB (n : Nat) (f g : Nat → Bool) : Bool := (List.range n).any fun i => g i && f i
theorem meetL_yes {n : Nat} {f g : Nat → Bool} {l : List Nat} (hi : ∀ i, f i = true → i < n) (h : meetL f g l = true) : meetB n f g = true := by
  simp only [meetL, meetB, List.any_eq_true, List.mem_range, Bool.and_eq_true, Bool.not_eq_true'] at *
  obtain ⟨j, hj, h1⟩ := h
  have h2 : wd (meetF g f) j ≠ 0 := by simpa using h1
  have h3 := (wd_ctz h2).2.1
  simp only [meetF, Bool.and_eq_true] at h3
  exact ⟨_, hi _ h3.2, h3.1, h3.2⟩
theorem meetL_no {n : Nat} {f g : Nat → Bool} {l : List Nat} (h : ∀ i, g i = true → i < n → i / 64 ∈ l) (h0 : meetL f g l = false) : meetB n f g = false := by
  cases hb : meetB n f g
  · rfl
  · simp only [meetB, List.any_eq_true, List.mem_range, Bool.and_eq_true] at hb
    obtain ⟨i, hi, h1, h2⟩ := hb
    have : meetL f g l = true := by
      simp only [meetL, List.any_eq_true]
      refine ⟨i / 64, h i h1 hi, ?_⟩
      by_cases hz : wd (meetF g f) (i / 64) = 0
      · have := wd_zero hz i (by omega) (by omega)
        simp [meetF, h1, h2] at this
      · simpa using hz
    rw [h0] at this; cases this
end Go.Proofs.YtgmeomhddpmpbaaDoor.BitsW
