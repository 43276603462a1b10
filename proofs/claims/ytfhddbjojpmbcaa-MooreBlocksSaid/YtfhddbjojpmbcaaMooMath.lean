/- States that are alike up to so many bytes: math alone. -/
import Derived.Test.YtfhddbjojpmbcaaQuoMath
namespace Go.Proofs.Ytfhddbjojpmbcaa.DfaW
set_option linter.unusedVariables false
open Go.RowKit Go.Maps Go.Proofs.Ytfhddbjojpmbcaa.PartM Go.Proofs.Ytfhddbjojpmbcaa.PartW
/-- Are two states alike up to k bytes? -/
def alk (m : Mc) : Nat → Nat → Nat → Bool
  | 0, s, t => m.lb.getD s 0 == m.lb.getD t 0
  | k + 1, s, t => alk m k s t && (List.range m.wd.toNat).all fun c => alk m k (at2 m.nx s c) (at2 m.nx t c)
theorem alk_zero {m : Mc} {s t : Nat} : alk m 0 s t = true ↔ m.lb.getD s 0 = m.lb.getD t 0 := by simp [alk]
theorem alk_succ {m : Mc} {k s t : Nat} : alk m (k + 1) s t = true ↔ alk m k s t = true ∧ ∀ c : Nat, (c : Int) < m.wd → alk m k (at2 m.nx s c) (at2 m.nx t c) = true := by
  rw [alk, Bool.and_eq_true, List.all_eq_true]
  constructor
  · rintro ⟨h1, h⟩; exact ⟨h1, fun c hc => h c (List.mem_range.2 (by omega))⟩
  · rintro ⟨h1, h⟩; exact ⟨h1, fun c hc => h c (by have := List.mem_range.1 hc; omega)⟩
theorem alk_eqv (m : Mc) : ∀ k, Eqv (alk m k)
  | 0 => ⟨fun a => by rw [alk_zero], fun a b h => by rw [alk_zero] at h ⊢; exact h.symm, fun a b c h1 h2 => by rw [alk_zero] at *; exact h1.trans h2⟩
  | k + 1 => by
    have ih := alk_eqv m k
    refine ⟨fun a => ?_, fun a b h => ?_, fun a b c h1 h2 => ?_⟩
    · rw [alk_succ]; exact ⟨ih.refl _, fun c _ => ih.refl _⟩
    · rw [alk_succ] at h ⊢; exact ⟨ih.symm _ _ h.1, fun c hc => ih.symm _ _ (h.2 c hc)⟩
    · rw [alk_succ] at *; exact ⟨ih.trans _ _ _ h1.1 h2.1, fun c hc => ih.trans _ _ _ (h1.2 c hc) (h2.2 c hc)⟩
theorem alk_le {m : Mc} {s t : Nat} : ∀ {k j : Nat}, k ≤ j → alk m j s t = true → alk m k s t = true
  | k, 0, h, h' => by obtain rfl : k = 0 := (by omega); exact h'
  | k, j + 1, h, h' => by
    by_cases e : k = j + 1
    · rw [e]; exact h'
    · exact alk_le (k := k) (j := j) (by omega) (alk_succ.1 h').1
/-- Nothing more is told apart behind k bytes. -/
def Still (m : Mc) (k : Nat) : Prop := ∀ s t, s < m.lb.length → t < m.lb.length → alk m k s t = true → alk m (k + 1) s t = true
theorem Still.all {m : Mc} (hok : Ok m) {k : Nat} (h : Still m k) : ∀ j, k ≤ j → ∀ s t, s < m.lb.length → t < m.lb.length → alk m j s t = alk m k s t
  | 0, hj, s, t, hs, ht => by obtain rfl : k = 0 := (by omega); rfl
  | j + 1, hj, s, t, hs, ht => by
    by_cases e : k = j + 1
    · rw [e]
    · have ih := Still.all hok h j (by omega)
      rw [Bool.eq_iff_iff]
      refine ⟨fun x => alk_le hj x, fun x => ?_⟩
      rw [alk_succ]
      refine ⟨by rw [ih s t hs ht]; exact x, fun c hc => ?_⟩
      rw [ih _ _ (hok.cell hs hc).2 (hok.cell ht hc).2]
      exact (alk_succ.1 (h s t hs ht x)).2 c hc
/-- Finer ones of as many numbers are the same. -/
theorem rk_lt_of {E E' : Nat → Nat → Bool} (hE : Eqv E) (hE' : Eqv E') {n : Nat} (hle : ∀ a b, a < n → b < n → E' a b = true → E a b = true) {s t : Nat} (hs : s < n) (ht : t < n) (h : E s t = true) (h' : E' s t = false) : rk E n < rk E' n := by
  have hsub : ∀ i, i < n → fst E i = i → fst E' i = i := fun i hi e => (first_iff hE' i).2 fun a ha => by
    cases h1 : E' a i with
    | false => rfl
    | true => have := hle a i (by omega) hi h1; rw [(first_iff hE i).1 e a ha] at this; cases this
  obtain ⟨g, hg, h1, h2⟩ : ∃ g, g < n ∧ fst E' g = g ∧ fst E g ≠ g := by
    have a1 := fst_alike hE' s; have a2 := fst_alike hE' t
    have l1 := fst_le E' s; have l2 := fst_le E' t
    have e1 : E (fst E' s) (fst E' t) = true := hE.trans _ _ _ (hle _ _ (by omega) hs a1) (hE.trans _ _ _ h (hE.symm _ _ (hle _ _ (by omega) ht a2)))
    have ne : fst E' s ≠ fst E' t := fun e => by
      have : E' s t = true := hE'.trans _ _ _ (hE'.symm _ _ a1) (by rw [e]; exact a2)
      rw [h'] at this; cases this
    rcases Nat.lt_or_gt_of_ne ne with hl | hl
    · exact ⟨fst E' t, by omega, fst_fst hE' t, fun e => by have := (first_iff hE _).1 e _ hl; rw [e1] at this; cases this⟩
    · exact ⟨fst E' s, by omega, fst_fst hE' s, fun e => by have := (first_iff hE _).1 e _ hl; rw [hE.symm _ _ e1] at this; cases this⟩
  have key : ∀ k, k ≤ n → rk E k ≤ rk E' k ∧ (g < k → rk E k < rk E' k) := fun k => by
    induction k with
    | zero => intro _; exact ⟨Nat.le_refl _, fun h => absurd h (Nat.not_lt_zero _)⟩
    | succ k ih =>
      intro hk
      obtain ⟨i1, i2⟩ := ih (by omega)
      by_cases e : fst E k = k
      · rw [rk_new e, rk_new (hsub k (by omega) e)]
        refine ⟨by omega, fun hg => ?_⟩
        have : g ≠ k := fun e' => h2 (by rw [e']; exact e)
        have := i2 (by omega); omega
      · rw [rk_old e]
        by_cases e' : fst E' k = k
        · rw [rk_new e']; exact ⟨by omega, fun _ => by omega⟩
        · rw [rk_old e']
          refine ⟨i1, fun hg => i2 ?_⟩
          have : g ≠ k := fun e2 => e' (by rw [← e2]; exact h1)
          omega
  exact (key n (Nat.le_refl _)).2 hg
theorem not_still {m : Mc} {k : Nat} (h : ¬ Still m k) : rk (alk m k) m.lb.length < rk (alk m (k + 1)) m.lb.length := by
  by_cases e : ∃ s t, s < m.lb.length ∧ t < m.lb.length ∧ alk m k s t = true ∧ alk m (k + 1) s t = false
  · obtain ⟨s, t, hs, ht, h1, h2⟩ := e
    exact rk_lt_of (alk_eqv m k) (alk_eqv m (k + 1)) (fun a b _ _ x => (alk_succ.1 x).1) hs ht h1 h2
  · exact absurd (fun s t hs ht h1 => by
      cases h2 : alk m (k + 1) s t with
      | true => rfl
      | false => exact absurd ⟨s, t, hs, ht, h1, h2⟩ e) h
theorem rounds_rk {m : Mc} : ∀ k, (∀ j, j < k → ¬ Still m j) → rk (alk m 0) m.lb.length + k ≤ rk (alk m k) m.lb.length
  | 0, _ => Nat.le_refl _
  | k + 1, h => by
    have := rounds_rk k (fun j hj => h j (by omega))
    have := not_still (h k (by omega))
    omega
/-- Some round of fewer than there are states tells nothing more. -/
theorem still_some {m : Mc} (hok : Ok m) : ∃ k, k < m.lb.length ∧ Still m k := by
  by_cases h : ∃ k, k < m.lb.length ∧ Still m k
  · exact h
  · have h1 := rounds_rk (m := m) m.lb.length fun j hj hs => h ⟨j, hj, hs⟩
    have h2 := rk_le (E := alk m m.lb.length) m.lb.length
    have h3 := nm_lt (alk_eqv m 0) (b := 0) (n := m.lb.length) hok.zero
    omega
theorem still_len {m : Mc} (hok : Ok m) : Still m m.lb.length := by
  obtain ⟨k, hk, h⟩ := still_some hok
  intro s t hs ht x
  rw [h.all hok (m.lb.length + 1) (by omega) s t hs ht]
  rw [h.all hok m.lb.length (by omega) s t hs ht] at x
  exact x
/-- The blocks behind k bytes; all of them; how many rounds. -/
def aftN (m : Mc) (k : Nat) : List Int := numsTo (alk m k) m.lb.length
def blkN (m : Mc) : List Int := aftN m m.lb.length
theorem aftN_len (m : Mc) (k : Nat) : (aftN m k).length = m.lb.length := numsTo_len _ _
theorem aftN_iff {m : Mc} {k s t : Nat} (hs : s < m.lb.length) (ht : t < m.lb.length) : (aftN m k).getD s 0 = (aftN m k).getD t 0 ↔ alk m k s t = true := by
  unfold aftN
  rw [numsTo_at _ hs, numsTo_at _ ht, nm_iff (alk_eqv m k), beq_iff_eq]
  constructor <;> intro h <;> omega
theorem aftN_eq {m : Mc} {j k : Nat} : aftN m j = aftN m k ↔ ∀ s t, s < m.lb.length → t < m.lb.length → alk m j s t = alk m k s t := by
  constructor
  · intro h s t hs ht
    rw [Bool.eq_iff_iff, ← aftN_iff hs ht, ← aftN_iff hs ht, h]
  · exact numsTo_congr
theorem aftN_still {m : Mc} (hok : Ok m) {k : Nat} (h : Still m k) {j : Nat} (hj : k ≤ j) : aftN m j = aftN m k := aftN_eq.2 (h.all hok j hj)
theorem still_iff {m : Mc} (hok : Ok m) {k : Nat} : aftN m k = blkN m ↔ Still m k := by
  constructor
  · intro h s t hs ht x
    have h1 := aftN_eq.1 h
    by_cases e : k < m.lb.length
    · have h2 : alk m m.lb.length s t = true := by rw [← h1 s t hs ht]; exact x
      exact alk_le (by omega) h2
    · have h2 := (still_len hok).all hok k (by omega) s t hs ht
      rw [(still_len hok).all hok (k + 1) (by omega) s t hs ht, ← h2]; exact x
  · intro h
    by_cases e : k ≤ m.lb.length
    · exact (aftN_still hok h e).symm
    · exact aftN_still hok (still_len hok) (by omega)
theorem blkN_stable {m : Mc} (hok : Ok m) : StableP m (blkN m) := by
  refine ⟨hok, aftN_len _ _, fun s t hs ht h => ?_⟩
  rw [show (blkN m).length = m.lb.length from aftN_len _ _] at hs ht
  have h1 := (aftN_iff hs ht).1 h
  have h2 := alk_succ.1 (still_len hok s t hs ht h1)
  refine ⟨alk_zero.1 (alk_le (Nat.zero_le _) h1), fun k hk => ?_⟩
  exact (aftN_iff (hok.cell hs hk).2 (hok.cell ht hk).2).2 (h2.2 k hk)
theorem stable_alk {m : Mc} {l : List Int} (h : StableP m l) : ∀ k s t, s < l.length → t < l.length → l.getD s 0 = l.getD t 0 → alk m k s t = true
  | 0, s, t, hs, ht, e => alk_zero.2 (h.2.2 s t hs ht e).1
  | k + 1, s, t, hs, ht, e => alk_succ.2 ⟨stable_alk h k s t hs ht e, fun c hc => stable_alk h k _ _ (by rw [h.2.1] at hs ⊢; exact (h.1.cell hs hc).2) (by rw [h.2.1] at ht ⊢; exact (h.1.cell ht hc).2) ((h.2.2 s t hs ht e).2 c hc)⟩
theorem stable_finer {m : Mc} {l : List Int} (h : StableP m l) : FinerP l (blkN m) := by
  refine ⟨by rw [h.2.1]; exact (aftN_len _ _).symm, fun i j hi hj e => ?_⟩
  have := h.2.1
  exact (aftN_iff (by omega) (by omega)).2 (stable_alk h _ i j hi hj e)
theorem aftN_finer {m : Mc} {j k : Nat} (h : k ≤ j) : FinerP (aftN m j) (aftN m k) := by
  refine ⟨by rw [aftN_len, aftN_len], fun a b ha hb e => ?_⟩
  rw [aftN_len] at ha hb
  exact (aftN_iff ha hb).2 (alk_le h ((aftN_iff ha hb).1 e))
theorem least_of {P : Nat → Prop} : ∀ n, P n → ∃ k, P k ∧ (∀ j, j < k → ¬ P j) ∧ k ≤ n := fun n => by
  induction n using Nat.strongRecOn with
  | _ n ih =>
    intro h
    by_cases e : ∃ j, j < n ∧ P j
    · obtain ⟨j, hj, hp⟩ := e
      obtain ⟨k, h1, h2, h3⟩ := ih j hj hp
      exact ⟨k, h1, h2, by omega⟩
    · exact ⟨n, h, fun j hj hp => e ⟨j, hj, hp⟩, Nat.le_refl _⟩
theorem rnd_ex {m : Mc} (hok : Ok m) : ∃ k, Still m k ∧ (∀ j, j < k → ¬ Still m j) ∧ k < m.lb.length := by
  obtain ⟨k, hk, h⟩ := still_some hok
  obtain ⟨j, h1, h2, h3⟩ := least_of k h
  exact ⟨j, h1, h2, by omega⟩
open Classical in
/-- The least k behind which nothing more is told apart. -/
noncomputable def rndN (m : Mc) : Nat := if h : Ok m then Classical.choose (rnd_ex h) else 0
theorem rndN_spec {m : Mc} (hok : Ok m) : Still m (rndN m) ∧ (∀ j, j < rndN m → ¬ Still m j) ∧ rndN m < m.lb.length := by
  have e : rndN m = Classical.choose (rnd_ex hok) := by unfold rndN; rw [dif_pos hok]
  rw [e]
  exact Classical.choose_spec (rnd_ex hok)
open Classical in
noncomputable def aftV (m : Mc) (k : Int) : List Int := if Ok m then aftN m k.toNat else []
open Classical in
noncomputable def blkV (m : Mc) : List Int := if Ok m then blkN m else []
open Classical in
noncomputable def rndV (m : Mc) : Int := if Ok m then (rndN m : Nat) else -1
end Go.Proofs.Ytfhddbjojpmbcaa.DfaW
