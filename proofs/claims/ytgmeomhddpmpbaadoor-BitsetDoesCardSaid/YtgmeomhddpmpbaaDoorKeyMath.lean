/- Plain mathematics of keys: sets have one key just if they have the same numbers. -/
import Derived.Test.YtgmeomhddpmpbaaDoorRefMath
namespace Go.Proofs.YtgmeomhddpmpbaaDoor.BitsW
set_option linter.unusedVariables false
open Go.RowKit Go.Shelf Go.Proofs.YtgmeomhddpmpbaaDoor.SetM

theorem by0_inj {x y : Nat} (h : by0 x = by0 y) : x % 256 = y % 256 := by
  have := congrArg UInt8.toNat h
  unfold by0 at this
  rwa [UInt8.toNat_ofNat', UInt8.toNat_ofNat'] at this
theorem bits8_inj {d e : Nat} (hd : d < 18446744073709551616) (he : e < 18446744073709551616) (h : bits8 d 8 = bits8 e 8) : d = e := by
  have hb : ∀ i, i < 8 → d / 2 ^ (8 * i) % 256 = e / 2 ^ (8 * i) % 256 := fun i hi => by
    have := congrArg (fun l => l[i]?) h
    simp only [bits8, List.getElem?_map, List.getElem?_range hi, Option.map_some, Option.some.injEq] at this
    exact by0_inj this
  apply Nat.eq_of_testBit_eq
  intro j
  by_cases hj : j < 64
  · have h1 := hb (j / 8) (by omega)
    have h2 : ∀ x : Nat, x.testBit j = (x / 2 ^ (8 * (j / 8)) % 256).testBit (j % 8) := fun x => by
      rw [show (256 : Nat) = 2 ^ 8 from rfl, Nat.testBit_mod_two_pow, Nat.testBit_div_two_pow]
      have e1 : j % 8 < 8 := Nat.mod_lt _ (by decide)
      have e2 : j % 8 + 8 * (j / 8) = j := by omega
      simp [e1, e2]
    rw [h2 d, h2 e, h1]
  · have hp : (2 : Nat) ^ 64 ≤ 2 ^ j := Nat.pow_le_pow_right (by decide) (by omega)
    rw [Nat.testBit_lt_two_pow (Nat.lt_of_lt_of_le hd hp), Nat.testBit_lt_two_pow (Nat.lt_of_lt_of_le he hp)]
theorem piece_inj {j k d e : Nat} (hj : j < 16384) (hk : k < 16384) (hd : d < 18446744073709551616) (he : e < 18446744073709551616) (h : piece j d = piece k e) : j = k ∧ d = e := by
  unfold piece at h
  rw [List.cons.injEq, List.cons.injEq] at h
  obtain ⟨h1, h2, h3⟩ := h
  have a1 := by0_inj h1
  have a2 := by0_inj h2
  exact ⟨by omega, bits8_inj hd he h3⟩
theorem keyL_inj (f g : Nat → Bool) : ∀ (l m : List Nat), (∀ x ∈ l, x < 16384) → (∀ x ∈ m, x < 16384) → keyL f l = keyL g m → l = m ∧ ∀ x ∈ l, wd f x = wd g x
  | [], [], _, _, _ => ⟨rfl, fun x hx => by cases hx⟩
  | [], b :: m, _, _, h => by
    have := congrArg List.length h
    rw [keyL_len, keyL_len] at this
    simp at this
  | a :: l, [], _, _, h => by
    have := congrArg List.length h
    rw [keyL_len, keyL_len] at this
    simp at this
  | a :: l, b :: m, hl, hm, h => by
    have h' : piece a (wd f a) ++ keyL f l = piece b (wd g b) ++ keyL g m := by simpa [keyL] using h
    obtain ⟨h1, h2⟩ := List.append_inj h' (by rw [piece_len, piece_len])
    obtain ⟨h3, h4⟩ := piece_inj (hl a (by simp)) (hm b (by simp)) (wd_lt _ _) (wd_lt _ _) h1
    obtain ⟨h5, h6⟩ := keyL_inj f g l m (fun x hx => hl x (by simp [hx])) (fun x hx => hm x (by simp [hx])) h2
    subst h3
    refine ⟨by rw [h5], fun x hx => ?_⟩
    rcases List.mem_cons.1 hx with rfl | hx
    · exact h4
    · exact h6 x hx
theorem wd_beyond {f : Nat → Bool} {n j : Nat} (h : ∀ i, f i = true → i < n) (hj : lenW n ≤ j) : wd f j = 0 := by
  rw [← wd_empty j]
  refine wd_congr j fun i hi => ?_
  cases hf : f (64 * j + i)
  · rfl
  · have := h _ hf
    unfold lenW at hj
    omega
theorem rows_any {f : Nat → Bool} {n : Nat} (h : ∀ i, f i = true → i < n) {k : Nat} (hk : lenW n ≤ k) : rows f k = rows f (lenW n) := by
  induction k with
  | zero =>
    have : lenW n = 0 := by omega
    rw [this]
  | succ k ih =>
    by_cases h1 : lenW n = k + 1
    · rw [h1]
    · rw [rows_no (wd_beyond h (by omega)), ih (by omega)]
theorem key_same {f : Nat → Bool} {n m : Nat} (h : ∀ i, f i = true → i < n) (h' : ∀ i, f i = true → i < m) : keyOf f n = keyOf f m := by
  unfold keyOf
  rcases Nat.le_total (lenW n) (lenW m) with hl | hl
  · rw [rows_any h hl]
  · rw [rows_any h' hl]
theorem set_ext {f g : Nat → Bool} (h : ∀ j, wd f j = wd g j) : f = g := by
  funext i
  have := wd_inj (h (i / 64)) (j := i % 64) (Nat.mod_lt _ (by decide))
  rwa [show 64 * (i / 64) + i % 64 = i by omega] at this
theorem key_diff {f g : Nat → Bool} {n m : Nat} (hn : n ≤ 1048576) (hm : m ≤ 1048576) (hf : ∀ i, f i = true → i < n) (hg : ∀ i, g i = true → i < m) (h : keyOf f n = keyOf g m) : f = g := by
  unfold keyOf at h
  have h' : keyL f (rows f (lenW n)) = keyL g (rows g (lenW m)) := by
    have := congrArg (fun b : ByteArray => b.data.toList) h
    simpa using this
  have ln := lenW_le hn
  have lm := lenW_le hm
  obtain ⟨h1, h2⟩ := keyL_inj f g _ _ (fun x hx => by have := (rows_mem.1 hx).1; omega) (fun x hx => by have := (rows_mem.1 hx).1; omega) h'
  refine set_ext fun j => ?_
  by_cases hj : j ∈ rows f (lenW n)
  · exact h2 j hj
  · have hj2 := hj
    rw [h1] at hj2
    have z1 : wd f j = 0 := by
      by_cases hlt : j < lenW n
      · cases Classical.em (wd f j = 0) with
        | inl h => exact h
        | inr h => exact absurd (rows_mem.2 ⟨hlt, h⟩) hj
      · exact wd_beyond hf (by omega)
    have z2 : wd g j = 0 := by
      by_cases hlt : j < lenW m
      · cases Classical.em (wd g j = 0) with
        | inl h => exact h
        | inr h => exact absurd (rows_mem.2 ⟨hlt, h⟩) hj2
      · exact wd_beyond hg (by omega)
    rw [z1, z2]
theorem upTo_any {f : Nat → Bool} {n m : Nat} (h : ∀ i, f i = true → i < n) (h' : ∀ i, f i = true → i < m) : upTo f n = upTo f m := by
  have e : ∀ {a b : Nat}, a ≤ b → (∀ i, f i = true → i < a) → upTo f b = upTo f a := fun {a b} hab ha => by
    rw [upTo_split f a b hab]
    have : (List.range' a (b - a)).filter f = [] := by
      rw [List.filter_eq_nil_iff]
      intro j hj hf
      rw [List.mem_range'_1] at hj
      have := ha j hf
      omega
    rw [this, List.append_nil]
  rcases Nat.le_total n m with hl | hl
  · rw [e hl h]
  · rw [e hl h']
theorem upTo_diff {f g : Nat → Bool} {n m : Nat} (hf : ∀ i, f i = true → i < n) (hg : ∀ i, g i = true → i < m) (h : upTo f n = upTo g m) : f = g := by
  funext i
  have h1 := @mem_upTo f n i
  have h2 := @mem_upTo g m i
  rw [h] at h1
  have h3 := h1.symm.trans h2
  rw [Bool.eq_iff_iff]
  exact ⟨fun h => (h3.1 ⟨hf i h, h⟩).2, fun h => (h3.2 ⟨hg i h, h⟩).2⟩
/-- Two sets have one key just if their numbers are the same. -/
theorem key_list {f g : Nat → Bool} {n m : Nat} (hn : n ≤ 1048576) (hm : m ≤ 1048576) (hf : ∀ i, f i = true → i < n) (hg : ∀ i, g i = true → i < m) : keyOf f n = keyOf g m ↔ upTo f n = upTo g m := by
  constructor
  · intro h
    have := key_diff hn hm hf hg h
    subst this
    exact upTo_any hf hg
  · intro h
    have := upTo_diff hf hg h
    subst this
    exact key_same hf hg
end Go.Proofs.YtgmeomhddpmpbaaDoor.BitsW
