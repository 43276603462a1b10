/- What the rounds of the document's apart know: math alone. -/
import Derived.Test.YtfhddbjojpmbcaaMooMath
import Derived.Test.YtfhddbjojpmbcaaMat
namespace Go.Proofs.Ytfhddbjojpmbcaa.DfaW
set_option linter.unusedVariables false
open Go.RowKit Go.Maps Go.Proofs.Ytfhddbjojpmbcaa.PartM Go.Proofs.Ytfhddbjojpmbcaa.PartW
def apX (m : Mc) (k : Nat) : Nat → Nat → Bool := fun s t => !alk m k s t
def apC (m : Mc) (i s t c : Nat) : Bool := apX m i s t || (List.range c).any fun c' => apX m i (at2 m.nx s c') (at2 m.nx t c')
theorem apC_zero (m : Mc) (i s t : Nat) : apC m i s t 0 = apX m i s t := by simp [apC]
theorem apC_succ (m : Mc) (i s t c : Nat) : apC m i s t (c + 1) = (apC m i s t c || apX m i (at2 m.nx s c) (at2 m.nx t c)) := by simp [apC, List.range_succ, Bool.or_assoc]
theorem apC_iff {m : Mc} {i s t c : Nat} : apC m i s t c = false ↔ alk m i s t = true ∧ ∀ c', c' < c → alk m i (at2 m.nx s c') (at2 m.nx t c') = true := by
  simp [apC, apX]
theorem apC_all {m : Mc} {d : Nat} (hd : m.wd = (d : Int)) (i s t : Nat) : apC m i s t d = apX m (i + 1) s t := by
  have h : apC m i s t d = false ↔ apX m (i + 1) s t = false := by
    rw [apC_iff]
    unfold apX
    rw [Bool.not_eq_false', alk_succ]
    exact ⟨fun h => ⟨h.1, fun c hc => h.2 c (by omega)⟩, fun h => ⟨h.1, fun c hc => h.2 c (by omega)⟩⟩
  cases h1 : apC m i s t d with
  | false => exact (h.1 h1).symm
  | true =>
    cases h2 : apX m (i + 1) s t with
    | true => rfl
    | false => rw [h.2 h2] at h1; cases h1
theorem apC_true {m : Mc} {d : Nat} (hd : m.wd = (d : Int)) {i s t c : Nat} (hc : c ≤ d) (h : apC m i s t c = true) : apX m (i + 1) s t = true := by
  rw [← apC_all hd]
  cases h1 : apC m i s t d with
  | true => rfl
  | false =>
    have h2 := apC_iff.1 h1
    have : apC m i s t c = false := apC_iff.2 ⟨h2.1, fun c' h' => h2.2 c' (by omega)⟩
    rw [this] at h; cases h
/-- The rows ahead of a place are of the next round, the others of this one. -/
def apS (m : Mc) (i s t : Nat) : Nat → Nat → Bool := fun a b => if a < s ∨ (a = s ∧ b < t) then apX m (i + 1) a b else apX m i a b
theorem apS_zero (m : Mc) (i : Nat) : apS m i 0 0 = apX m i := by
  funext a b; unfold apS; rw [if_neg (by omega)]
theorem apS_next {m : Mc} {i s t : Nat} {b : Bool} (h : b = apX m (i + 1) s t) : setX (apS m i s t) s t b = apS m i s (t + 1) := by
  funext a c
  unfold setX apS
  by_cases e : a = s ∧ c = t
  · rw [if_pos e, if_pos (by omega), h, e.1, e.2]
  · rw [if_neg e]
    by_cases e2 : a < s ∨ (a = s ∧ c < t)
    · rw [if_pos e2, if_pos (by omega)]
    · rw [if_neg e2, if_neg (by omega)]
theorem apS_at (m : Mc) (i s t : Nat) : apS m i s t s t = apX m i s t := by unfold apS; rw [if_neg (by omega)]
theorem apS_row {m : Mc} {i s n a b : Nat} (hb : b < n) : apS m i s n a b = apS m i (s + 1) 0 a b := by
  unfold apS
  by_cases e : a < s ∨ (a = s ∧ b < n)
  · rw [if_pos e, if_pos (by omega)]
  · rw [if_neg e, if_neg (by omega)]
theorem apS_all {m : Mc} {i n a b : Nat} (ha : a < n) : apS m i n 0 a b = apX m (i + 1) a b := by unfold apS; rw [if_pos (by omega)]
/-- Something ahead of a place was told apart in this round. -/
def Chg (m : Mc) (i n s t : Nat) : Prop := ∃ a b, (a < s ∨ (a = s ∧ b < t)) ∧ b < n ∧ alk m i a b = true ∧ alk m (i + 1) a b = false
theorem Chg.none (m : Mc) (i n : Nat) : ¬ Chg m i n 0 0 := fun ⟨a, b, h, _⟩ => by omega
theorem Chg.next {m : Mc} {i n s t : Nat} (ht : t < n) : Chg m i n s (t + 1) ↔ Chg m i n s t ∨ (alk m i s t = true ∧ apX m (i + 1) s t = true) := by
  constructor
  · rintro ⟨a, b, h1, h2, h3, h4⟩
    by_cases e : a < s ∨ (a = s ∧ b < t)
    · exact .inl ⟨a, b, e, h2, h3, h4⟩
    · obtain ⟨rfl, rfl⟩ : a = s ∧ b = t := by omega
      exact .inr ⟨h3, by simp [apX, h4]⟩
  · rintro (⟨a, b, h1, h2, h3, h4⟩ | ⟨h3, h4⟩)
    · exact ⟨a, b, by omega, h2, h3, h4⟩
    · exact ⟨s, t, by omega, ht, h3, by simpa [apX] using h4⟩
theorem Chg.row {m : Mc} {i n s : Nat} : Chg m i n s n ↔ Chg m i n (s + 1) 0 := by
  constructor
  · rintro ⟨a, b, h1, h2, h3⟩; exact ⟨a, b, by omega, h2, h3⟩
  · rintro ⟨a, b, h1, h2, h3⟩; exact ⟨a, b, by omega, h2, h3⟩
theorem Chg.still {m : Mc} {i : Nat} (h : ¬ Chg m i m.lb.length m.lb.length 0) : Still m i := fun s t hs ht x => by
  cases h1 : alk m (i + 1) s t with
  | true => rfl
  | false => exact absurd ⟨s, t, by omega, ht, x, h1⟩ h
theorem apX_still {m : Mc} (hok : Ok m) {i : Nat} (h : Still m i) {k : Nat} (hk : i ≤ k) : ∀ s t, s < m.lb.length → t < m.lb.length → apX m k s t = apX m i s t := fun s t hs ht => by
  unfold apX; rw [h.all hok k hk s t hs ht]
end Go.Proofs.Ytfhddbjojpmbcaa.DfaW
