/- Plain mathematics of classes: bytes that are alike, and the numbers of their classes. -/
import Derived.Test.YtkghnjgioijgpaaSetMath
namespace Go.Proofs.Ytkghnjgioijgpaa.PartM
set_option linter.unusedVariables false

/-- Alike is an equivalence. -/
structure Eqv (E : Nat → Nat → Bool) : Prop where
  refl : ∀ a, E a a = true
  symm : ∀ a b, E a b = true → E b a = true
  trans : ∀ a b c, E a b = true → E b c = true → E a c = true
/-- Alike by a key. -/
def byKey {α : Type} [DecidableEq α] (key : Nat → α) : Nat → Nat → Bool := fun a b => decide (key a = key b)
theorem byKey_eqv {α : Type} [DecidableEq α] (key : Nat → α) : Eqv (byKey key) :=
  ⟨fun a => by simp [byKey], fun a b h => by simp [byKey] at *; exact h.symm, fun a b c h k => by simp [byKey] at *; exact h.trans k⟩
/-- The first one that is alike. -/
def fst (E : Nat → Nat → Bool) (b : Nat) : Nat := ((List.range b).find? (fun a => E a b)).getD b
/-- How many below n are the first ones of theirs. -/
def rk (E : Nat → Nat → Bool) : Nat → Nat
  | 0 => 0
  | n + 1 => if fst E n = n then rk E n + 1 else rk E n
/-- The number of b's class. -/
def nm (E : Nat → Nat → Bool) (b : Nat) : Nat := rk E (fst E b)
/-- The class i, as far as the bytes below c go. -/
def cls (E : Nat → Nat → Bool) (c i : Nat) : Nat → Bool := fun x => decide (x < c) && (nm E x == i)

theorem fst_spec (E : Nat → Nat → Bool) (b : Nat) : (fst E b = b ∧ ∀ a, a < b → E a b = false) ∨ (fst E b < b ∧ E (fst E b) b = true ∧ ∀ a, a < fst E b → E a b = false) := by
  unfold fst
  cases h : (List.range b).find? (fun a => E a b) with
  | none =>
    left
    rw [List.find?_eq_none] at h
    exact ⟨rfl, fun a ha => by have := h a (List.mem_range.2 ha); simpa using this⟩
  | some a =>
    right
    obtain ⟨h1, as, bs, h2, h3⟩ := List.find?_eq_some_iff_append.1 h
    have hm : a ∈ List.range b := by rw [h2]; simp
    refine ⟨List.mem_range.1 hm, h1, fun x hx => ?_⟩
    have hax : x ∈ as := by
      have hl : as.length = a := by
        have h4 : (List.range b)[as.length]? = some a := by rw [h2]; simp
        have h5 := (List.getElem?_eq_some_iff.1 h4).2
        rw [List.getElem_range] at h5; exact h5
      have h6 : (List.range b)[x]? = some x := by
        rw [List.getElem?_eq_getElem (by simp; have := List.mem_range.1 hm; simp at hx; omega), List.getElem_range]
      rw [h2, List.getElem?_append_left (by rw [hl]; simpa using hx)] at h6
      exact List.mem_of_getElem? h6
    simpa using h3 x hax
theorem fst_le (E : Nat → Nat → Bool) (b : Nat) : fst E b ≤ b := by
  rcases fst_spec E b with ⟨h, _⟩ | ⟨h, _⟩ <;> omega
variable {E : Nat → Nat → Bool}
theorem fst_alike (h : Eqv E) (b : Nat) : E (fst E b) b = true := by
  rcases fst_spec E b with ⟨h1, _⟩ | ⟨_, h2, _⟩
  · rw [h1]; exact h.refl b
  · exact h2
theorem fst_min {a b : Nat} (hab : E a b = true) : fst E b ≤ a := by
  rcases fst_spec E b with ⟨h1, h2⟩ | ⟨h1, _, h2⟩
  · rw [h1]
    rcases Nat.lt_or_ge a b with h | h
    · rw [h2 a h] at hab; cases hab
    · exact h
  · rcases Nat.lt_or_ge a (fst E b) with h | h
    · rw [h2 a h] at hab; cases hab
    · exact h
theorem fst_congr (h : Eqv E) {a b : Nat} (hab : E a b = true) : fst E a = fst E b :=
  Nat.le_antisymm (fst_min (h.trans _ _ _ (fst_alike h b) (h.symm _ _ hab))) (fst_min (h.trans _ _ _ (fst_alike h a) hab))
theorem fst_fst (h : Eqv E) (b : Nat) : fst E (fst E b) = fst E b := fst_congr h (fst_alike h b)
theorem first_iff (h : Eqv E) (b : Nat) : fst E b = b ↔ ∀ a, a < b → E a b = false := by
  rcases fst_spec E b with ⟨h1, h2⟩ | ⟨h1, h2, _⟩
  · exact ⟨fun _ => h2, fun _ => h1⟩
  · exact ⟨fun e => by omega, fun e => by rw [e _ h1] at h2; cases h2⟩
theorem rk_le (n : Nat) : rk E n ≤ n := by
  induction n with
  | zero => simp [rk]
  | succ n ih => unfold rk; split <;> omega
theorem rk_mono {a b : Nat} (hab : a ≤ b) : rk E a ≤ rk E b := by
  induction b with
  | zero => have : a = 0 := by omega
            subst this; exact Nat.le_refl _
  | succ b ih =>
    rcases Nat.lt_or_ge b a with h | h
    · have : a = b + 1 := by omega
      subst this; exact Nat.le_refl _
    · have := ih h
      show _ ≤ (if fst E b = b then rk E b + 1 else rk E b)
      split <;> omega
theorem rk_new {n : Nat} (hn : fst E n = n) : rk E (n + 1) = rk E n + 1 := by simp [rk, hn]
theorem rk_old {n : Nat} (hn : fst E n ≠ n) : rk E (n + 1) = rk E n := by simp [rk, hn]
theorem rk_strict {a b : Nat} (ha : fst E a = a) (hab : a < b) : rk E a < rk E b := by
  have := rk_mono (E := E) (show a + 1 ≤ b from hab)
  rw [rk_new ha] at this; omega
theorem nm_congr (h : Eqv E) {a b : Nat} (hab : E a b = true) : nm E a = nm E b := by unfold nm; rw [fst_congr h hab]
theorem nm_inj (h : Eqv E) {a b : Nat} (hab : nm E a = nm E b) : E a b = true := by
  have e : fst E a = fst E b := by
    unfold nm at hab
    rcases Nat.lt_trichotomy (fst E a) (fst E b) with hl | hl | hl
    · have := rk_strict (fst_fst h a) hl; omega
    · exact hl
    · have := rk_strict (fst_fst h b) hl; omega
  exact h.trans _ _ _ (h.symm _ _ (fst_alike h a)) (e ▸ fst_alike h b)
theorem nm_iff (h : Eqv E) (a b : Nat) : E a b = (nm E a == nm E b) := by
  cases hab : E a b with
  | true => rw [nm_congr h hab]; simp
  | false =>
    symm
    rw [beq_eq_false_iff_ne]
    intro e
    rw [nm_inj h e] at hab; cases hab
theorem nm_first {n : Nat} (hn : fst E n = n) : nm E n = rk E n := by unfold nm; rw [hn]
theorem nm_lt (h : Eqv E) {b n : Nat} (hb : b < n) : nm E b < rk E n := by
  unfold nm
  exact rk_strict (fst_fst h b) (Nat.lt_of_le_of_lt (fst_le E b) hb)
theorem nm_le (b : Nat) : nm E b ≤ b := Nat.le_trans (rk_le _) (fst_le E b)
/-- Each number has its first one. -/
theorem nth (n i : Nat) (hi : i < rk E n) : ∃ d, d < n ∧ fst E d = d ∧ rk E d = i := by
  induction n with
  | zero => simp [rk] at hi
  | succ n ih =>
    by_cases hn : fst E n = n
    · rw [rk_new hn] at hi
      rcases Nat.lt_or_ge i (rk E n) with h | h
      · obtain ⟨d, h1, h2⟩ := ih h; exact ⟨d, by omega, h2⟩
      · exact ⟨n, by omega, hn, by omega⟩
    · rw [rk_old hn] at hi
      obtain ⟨d, h1, h2⟩ := ih hi; exact ⟨d, by omega, h2⟩
/-- What is put into the classes when a byte comes. -/
theorem cls_with (c i : Nat) (h : nm E c = i) : SetM.withF (cls E c i) c = cls E (c + 1) i := by
  funext x
  unfold SetM.withF cls
  rw [Bool.eq_iff_iff]
  simp
  constructor
  · rintro (⟨h1, h2⟩ | rfl)
    · exact ⟨by omega, h2⟩
    · exact ⟨by omega, h⟩
  · rintro ⟨h1, h2⟩
    by_cases e : x = c
    · exact .inr e
    · exact .inl ⟨by omega, h2⟩
theorem cls_other (c i : Nat) (h : nm E c ≠ i) : cls E c i = cls E (c + 1) i := by
  funext x
  unfold cls
  rw [Bool.eq_iff_iff]
  simp
  intro h2
  by_cases e : x = c
  · subst e; exact absurd h2 h
  · omega
theorem cls_none (i : Nat) : cls E 0 i = SetM.emptyF := by funext x; simp [cls, SetM.emptyF]
theorem cls_far (h : Eqv E) {c i : Nat} (hi : rk E c ≤ i) : cls E c i = SetM.emptyF := by
  funext x
  unfold cls SetM.emptyF
  rw [Bool.and_eq_false_iff]
  by_cases hx : x < c
  · right
    have := nm_lt h hx
    rw [beq_eq_false_iff_ne]; omega
  · left; simp; omega
/-- Which of the classes: its least one is alike just if the number is its. -/
theorem least_cls (h : Eqv E) {c i : Nat} (hi : i < rk E c) : ∃ d, d < c ∧ (∀ x, x < d → cls E c i x = false) ∧ cls E c i d = true ∧ ∀ x, E d x = (nm E x == i) := by
  obtain ⟨d, h1, h2, h3⟩ := nth c i hi
  have hd : nm E d = i := by rw [nm_first h2, h3]
  refine ⟨d, h1, fun x hx => ?_, by simp [cls, h1, hd], fun x => ?_⟩
  · unfold cls
    rw [Bool.and_eq_false_iff]
    right
    rw [beq_eq_false_iff_ne]
    have hx1 : nm E x < rk E d := nm_lt h hx
    omega
  · rw [nm_iff h d x, hd]
    exact BEq.comm
/-- Two ways to be alike. -/
theorem nm_ext {E E' : Nat → Nat → Bool} (n : Nat) (h : ∀ a b, a < n → b < n → E a b = E' a b) : (∀ b, b < n → nm E b = nm E' b) ∧ ∀ k, k ≤ n → rk E k = rk E' k := by
  have hf : ∀ b, b < n → fst E b = fst E' b := fun b hb => by
    rcases fst_spec E b with ⟨h1, h2⟩ | ⟨h1, h2, h3⟩
    · rcases fst_spec E' b with ⟨k1, _⟩ | ⟨k1, k2, _⟩
      · rw [h1, k1]
      · rw [← h _ _ (by omega) hb, h2 _ k1] at k2; cases k2
    · rcases fst_spec E' b with ⟨k1, k2⟩ | ⟨k1, k2, k3⟩
      · rw [h _ _ (by omega) hb, k2 _ h1] at h2; cases h2
      · rcases Nat.lt_trichotomy (fst E b) (fst E' b) with hl | hl | hl
        · have := k3 _ hl
          rw [← h _ _ (by omega) hb, h2] at this; cases this
        · exact hl
        · have := h3 _ hl
          rw [h _ _ (by omega) hb, k2] at this; cases this
  have hr : ∀ k, k ≤ n → rk E k = rk E' k := fun k => by
    induction k with
    | zero => intro _; rfl
    | succ k ih =>
      intro hk
      unfold rk
      rw [hf k (by omega), ih (by omega)]
  exact ⟨fun b hb => by
    unfold nm
    rw [hf b hb]
    exact hr _ (by have := fst_le E' b; omega), hr⟩
end Go.Proofs.Ytkghnjgioijgpaa.PartM
