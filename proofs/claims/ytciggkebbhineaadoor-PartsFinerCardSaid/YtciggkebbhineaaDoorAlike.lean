/- Bytes that are in the same of some sets. -/
import Derived.Test.YtciggkebbhineaaDoorWhich
namespace Go.Proofs.YtciggkebbhineaaDoor.PartW
set_option linter.unusedVariables false
open Go.RowKit Go.Maps Go.Proofs.YtciggkebbhineaaDoor.PartM Go.Proofs.YtciggkebbhineaaDoor.SetM Go.Proofs.YtciggkebbhineaaDoor.SetW

def alike (fs : List (Nat → Bool)) (a b : Nat) : Bool := fs.all fun f => f a == f b
theorem alike_eqv (fs : List (Nat → Bool)) : Eqv (alike fs) := by
  refine ⟨fun a => by simp [alike], fun a b h => ?_, fun a b c h k => ?_⟩
  · unfold alike at *
    rw [List.all_eq_true] at *
    intro f hf
    have := h f hf
    rw [beq_iff_eq] at *
    exact this.symm
  · unfold alike at *
    rw [List.all_eq_true] at *
    intro f hf
    have h1 := h f hf
    have h2 := k f hf
    rw [beq_iff_eq] at *
    exact h1.trans h2
theorem alike_app (fs gs : List (Nat → Bool)) (a b : Nat) : alike (fs ++ gs) a b = (alike fs a b && alike gs a b) := by simp [alike]
theorem wd_alike {gs : List (Nat → Bool)} (hl : gs.length ≤ 64) (a b : Nat) : (wd (memF gs a) 0 = wd (memF gs b) 0) ↔ alike gs a b = true := by
  constructor
  · intro h
    unfold alike
    rw [List.all_eq_true]
    intro f hf
    obtain ⟨k, hk, rfl⟩ := List.getElem_of_mem hf
    have := wd_inj h (j := k) (by omega)
    rw [show 64 * 0 + k = k by omega, memF_at hk, memF_at hk] at this
    rw [beq_iff_eq]; exact this
  · intro h
    unfold alike at h
    rw [List.all_eq_true] at h
    apply wd_congr
    intro j _
    rw [show 64 * 0 + j = j by omega]
    by_cases hj : j < gs.length
    · rw [memF_at hj, memF_at hj]
      have := h _ (List.getElem_mem hj)
      rw [beq_iff_eq] at this; exact this
    · rw [memF_far (by omega), memF_far (by omega)]
/-- Some sets more. -/
theorem alike_more (fs gs : List (Nat → Bool)) (hl : gs.length ≤ 64) (a b : Nat) : byKey (fun b => (nm (alike fs) b, wd (memF gs b) 0)) a b = alike (fs ++ gs) a b := by
  rw [alike_app, nm_iff (alike_eqv fs) a b, Bool.eq_iff_iff, Bool.and_eq_true, ← wd_alike hl a b]
  unfold byKey
  rw [decide_eq_true_iff, Prod.mk.injEq, beq_iff_eq]
theorem more_nm (fs gs : List (Nat → Bool)) (hl : gs.length ≤ 64) : nm (byKey fun b => (nm (alike fs) b, wd (memF gs b) 0)) = nm (alike (fs ++ gs)) ∧ rk (byKey fun b => (nm (alike fs) b, wd (memF gs b) 0)) 256 = rk (alike (fs ++ gs)) 256 := by
  have h : byKey (fun b => (nm (alike fs) b, wd (memF gs b) 0)) = alike (fs ++ gs) := by funext a b; exact alike_more fs gs hl a b
  rw [h]; exact ⟨rfl, rfl⟩
theorem none_fst (b : Nat) : fst (alike []) b = 0 := by
  rcases fst_spec (alike []) b with ⟨h1, h2⟩ | ⟨h1, h2, h3⟩
  · rw [h1]
    rcases Nat.eq_zero_or_pos b with h | h
    · exact h
    · have := h2 0 h; cases this
  · rcases Nat.eq_zero_or_pos (fst (alike []) b) with h | h
    · exact h
    · have := h3 0 h; cases this
theorem none_rk : ∀ n, rk (alike []) (n + 1) = 1
  | 0 => by rw [rk_new (none_fst 0)]; rfl
  | n + 1 => by rw [rk_old (by rw [none_fst]; omega)]; exact none_rk n
theorem none_nm (b : Nat) : nm (alike []) b = 0 := by unfold nm; rw [none_fst]; rfl
end Go.Proofs.YtciggkebbhineaaDoor.PartW
