/- Plain mathematics of layer 1 (num): digits, the number of digits, the well-formed texts. No program is named here. -/
import Derived.Lib.ItoaNum
namespace Go.Proofs.YtgllaecahijlpaaDoor.NumM

/-- Is a byte a digit? -/
def isDig (c : UInt8) : Bool := decide (48 ≤ c.toNat) && decide (c.toNat ≤ 57)
/-- The number of some digits, behind a number. -/
def valOn : List UInt8 → Nat → Nat
  | [], a => a
  | c :: l, a => valOn l (10 * a + (c.toNat - 48))
theorem valOn_cons (a : Nat) (c : UInt8) (l : List UInt8) : valOn (c :: l) a = valOn l (10 * a + (c.toNat - 48)) := rfl
def valFrom (a : Nat) (l : List UInt8) : Nat := valOn l a
def val (l : List UInt8) : Nat := valFrom 0 l
/-- One digit or more, without a 0 ahead of others. -/
def wf (l : List UInt8) : Bool := !l.isEmpty && !(decide (1 < l.length) && (l[0]?.getD 0 == 48)) && l.all isDig
/-- What Read answers: a number, and an error's number (3: the form, 2: the range). -/
def readV (l : List UInt8) (most : Int) : Int := if wf l && decide (0 ≤ most) && decide ((val l : Int) ≤ most) then val l else 0
def readE (l : List UInt8) (most : Int) : Int := if !wf l then 3 else if decide (0 ≤ most) && decide ((val l : Int) ≤ most) then 0 else 2

theorem valFrom_nil (a : Nat) : valFrom a [] = a := rfl
theorem valFrom_cons (a : Nat) (c : UInt8) (l : List UInt8) : valFrom a (c :: l) = valFrom (10 * a + (c.toNat - 48)) l := by unfold valFrom; exact valOn_cons a c l
theorem val_nil : val [] = 0 := rfl
theorem val_one (c : UInt8) : val [c] = c.toNat - 48 := by unfold val; rw [valFrom_cons, valFrom_nil]; omega
theorem valFrom_append (a : Nat) (l m : List UInt8) : valFrom a (l ++ m) = valFrom (valFrom a l) m := by
  induction l generalizing a with
  | nil => rfl
  | cons c l ih => rw [List.cons_append, valFrom_cons, valFrom_cons]; exact ih _
theorem val_snoc (l : List UInt8) (c : UInt8) : val (l ++ [c]) = 10 * val l + (c.toNat - 48) := by
  unfold val; rw [valFrom_append, valFrom_cons, valFrom_nil]
theorem valFrom_ge (a : Nat) (l : List UInt8) : a ≤ valFrom a l := by
  induction l generalizing a with
  | nil => exact Nat.le_refl _
  | cons c l ih => rw [valFrom_cons]; exact Nat.le_trans (by omega) (ih _)
theorem val_take_le (l : List UInt8) (k : Nat) : val (l.take k) ≤ val l := by
  have h : val l = valFrom (val (l.take k)) (l.drop k) := by
    unfold val; rw [← valFrom_append, List.take_append_drop]
  rw [h]; exact valFrom_ge _ _
theorem valFrom_lt (l : List UInt8) (h : l.all isDig = true) (a : Nat) : valFrom a l + 1 ≤ (a + 1) * 10 ^ l.length := by
  induction l generalizing a with
  | nil => rw [List.length_nil, Nat.pow_zero, Nat.mul_one]; exact Nat.le_refl _
  | cons c l ih =>
    simp only [List.all_cons, Bool.and_eq_true, isDig, decide_eq_true_eq] at h
    have h1 := ih h.2 (10 * a + (c.toNat - 48))
    have h2 : 10 * a + (c.toNat - 48) + 1 ≤ 10 * (a + 1) := by have := h.1; omega
    have h3 := Nat.mul_le_mul_right (10 ^ l.length) h2
    have h4 : (a + 1) * 10 ^ (c :: l).length = 10 * (a + 1) * 10 ^ l.length := by
      rw [List.length_cons, Nat.pow_succ, Nat.mul_comm (10 ^ l.length) 10, ← Nat.mul_assoc, Nat.mul_comm (a + 1) 10]
    rw [h4, valFrom_cons]
    exact Nat.le_trans h1 h3
theorem val_lt (l : List UInt8) (h : l.all isDig = true) : val l < 10 ^ l.length := by
  have := valFrom_lt l h 0
  unfold val; omega
theorem valFrom_pow (l : List UInt8) (a : Nat) : a * 10 ^ l.length ≤ valFrom a l := by
  induction l generalizing a with
  | nil => rw [List.length_nil, Nat.pow_zero, Nat.mul_one]; exact Nat.le_refl _
  | cons c l ih =>
    have h1 := ih (10 * a + (c.toNat - 48))
    have h3 := Nat.mul_le_mul_right (10 ^ l.length) (show 10 * a ≤ 10 * a + (c.toNat - 48) by omega)
    have h4 : a * 10 ^ (c :: l).length = 10 * a * 10 ^ l.length := by
      rw [List.length_cons, Nat.pow_succ, Nat.mul_comm (10 ^ l.length) 10, ← Nat.mul_assoc, Nat.mul_comm a 10]
    rw [h4, valFrom_cons]
    exact Nat.le_trans h3 h1
/-- Digits without a 0 ahead: as many as there are make the number that great. -/
theorem val_big (l : List UInt8) (h : wf l = true) (h1 : 1 < l.length) : 10 ^ (l.length - 1) ≤ val l := by
  cases l with
  | nil => simp at h1
  | cons c l =>
    simp only [wf, List.all_cons, Bool.and_eq_true, isDig, decide_eq_true_eq, Bool.not_eq_true', Bool.and_eq_false_iff, decide_eq_false_iff_not, List.length_cons, List.getElem?_cons_zero, Option.getD_some] at h
    simp only [List.length_cons] at h1
    have hc : c.toNat ≠ 48 := by
      rcases h.1.2 with e | e
      · omega
      · intro e2; apply absurd e; simp; exact UInt8.toNat_inj.1 e2
    have hp : 0 < (10 * 0 + (c.toNat - 48)) := by have := h.2.1.1; omega
    have h3 := valFrom_pow l (10 * 0 + (c.toNat - 48))
    rw [val, valFrom_cons, List.length_cons, Nat.add_sub_cancel]
    exact Nat.le_trans (Nat.le_mul_of_pos_left _ hp) h3
theorem wf_all {l : List UInt8} (h : wf l = true) : l.all isDig = true := by
  simp only [wf, Bool.and_eq_true] at h; exact h.2
theorem wf_ne {l : List UInt8} (h : wf l = true) : l ≠ [] := by
  rintro rfl; simp [wf] at h

/-! ### The numeral of a number is well formed, and its number is that number -/
theorem toNat_dig {n : Nat} (h : n < 10) : (UInt8.ofNat (48 + n)).toNat = 48 + n := by
  simp [UInt8.toNat_ofNat']; omega
theorem dec_lt {n : Nat} (h : n < 10) : Lib.decDigits n = [UInt8.ofNat (48 + n)] := Lib.decDigits_one h
theorem dec_ge {n : Nat} (h : ¬ n < 10) : Lib.decDigits n = Lib.decDigits (n / 10) ++ [UInt8.ofNat (48 + n % 10)] := by
  rw [Lib.decDigits, dif_neg h]
theorem val_dec (n : Nat) : val (Lib.decDigits n) = n := by
  induction n using Nat.strongRecOn with
  | _ n ih =>
    by_cases h : n < 10
    · rw [dec_lt h, val_one, toNat_dig h]; omega
    · rw [dec_ge h, val_snoc, ih _ (by omega), toNat_dig (by omega)]; omega
theorem dec_ne (n : Nat) : Lib.decDigits n ≠ [] := by
  by_cases h : n < 10
  · rw [dec_lt h]; simp
  · rw [dec_ge h]; simp
theorem dec_all (n : Nat) : (Lib.decDigits n).all isDig = true := by
  induction n using Nat.strongRecOn with
  | _ n ih =>
    by_cases h : n < 10
    · rw [dec_lt h]; simp [isDig]; omega
    · rw [dec_ge h, List.all_append, ih _ (by omega)]
      simp [isDig]; omega
theorem dec_head (n : Nat) (h : 1 ≤ n) : (Lib.decDigits n)[0]?.getD 0 ≠ 48 := by
  induction n using Nat.strongRecOn with
  | _ n ih =>
    by_cases h10 : n < 10
    · rw [dec_lt h10]
      intro e
      have := congrArg UInt8.toNat e
      rw [show ([UInt8.ofNat (48 + n)][0]?.getD 0) = UInt8.ofNat (48 + n) from rfl, toNat_dig h10] at this
      have e8 : (48 : UInt8).toNat = 48 := rfl
      omega
    · rw [dec_ge h10]
      have := ih (n / 10) (by omega) (by omega)
      have hne := dec_ne (n / 10)
      cases hd : Lib.decDigits (n / 10) with
      | nil => exact absurd hd hne
      | cons c l => rw [hd] at this; simpa using this
theorem wf_dec (n : Nat) : wf (Lib.decDigits n) = true := by
  unfold wf
  rw [dec_all, Bool.and_true]
  have h1 : (Lib.decDigits n).isEmpty = false := by
    cases hd : Lib.decDigits n with
    | nil => exact absurd hd (dec_ne n)
    | cons => rfl
  rw [h1]
  by_cases h : n < 10
  · rw [dec_lt h]; simp
  · have := dec_head n (by omega)
    rw [beq_eq_false_iff_ne.2 this]; simp
/-- A well-formed text is the numeral of its number. -/
theorem dec_val (l : List UInt8) (h : wf l = true) : Lib.decDigits (val l) = l := by
  have key : ∀ (k : Nat) (l : List UInt8), l.length = k → wf l = true → Lib.decDigits (val l) = l := by
    intro k
    induction k with
    | zero => intro l hl h; exact absurd (List.length_eq_zero_iff.1 hl) (wf_ne h)
    | succ k ih =>
      intro l hl h
      obtain ⟨m, c, rfl⟩ : ∃ m c, l = m ++ [c] := ⟨l.dropLast, l.getLast (wf_ne h), (List.dropLast_concat_getLast (wf_ne h)).symm⟩
      have hall := wf_all h
      rw [List.all_append, Bool.and_eq_true] at hall
      have hc : 48 ≤ c.toNat ∧ c.toNat ≤ 57 := by simpa [isDig] using hall.2
      have ec : UInt8.ofNat (48 + (c.toNat - 48)) = c := by
        apply UInt8.toNat_inj.1; rw [toNat_dig (by omega)]; omega
      rw [val_snoc]
      by_cases hm : m = []
      · subst hm
        rw [show val [] = 0 from rfl, dec_lt (by omega)]
        simpa using ec
      · have hml : 1 ≤ m.length := List.length_pos_iff.2 hm
        have hg : (m ++ [c])[0]?.getD 0 = m[0]?.getD 0 := by
          cases m with
          | nil => exact absurd rfl hm
          | cons => rfl
        have hh : m[0]?.getD 0 ≠ 48 := by
          intro e
          unfold wf at h
          rw [hg, e] at h
          simp [hm] at h
        have hmw : wf m = true := by
          unfold wf
          rw [hall.1, beq_eq_false_iff_ne.2 hh]
          simp [hm]
        have hpos : 1 ≤ val m := by
          by_cases h1 : 1 < m.length
          · exact Nat.le_trans (Nat.one_le_pow _ _ (by decide)) (val_big m hmw h1)
          · obtain ⟨d, rfl⟩ : ∃ d, m = [d] := List.length_eq_one_iff.1 (by omega)
            simp at hh
            have hd : 48 ≤ d.toNat ∧ d.toNat ≤ 57 := by simpa [isDig] using hall.1
            have : d.toNat ≠ 48 := fun e => hh (UInt8.toNat_inj.1 e)
            rw [val_one]; omega
        rw [dec_ge (by omega), show (10 * val m + (c.toNat - 48)) / 10 = val m by omega, show (10 * val m + (c.toNat - 48)) % 10 = c.toNat - 48 by omega, ec, ih m (by simp at hl; omega) hmw]
  exact key _ l rfl h
end Go.Proofs.YtgllaecahijlpaaDoor.NumM
