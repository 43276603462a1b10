/- Lists of which each number fits. -/
import Derived.Test.YtfhddbjojpmbcaaMade2
namespace Go.Proofs.Ytfhddbjojpmbcaa.DfaW
set_option linter.unusedVariables false
open Go.RowKit Go.Maps Go.Proofs.Ytfhddbjojpmbcaa.PartM Go.Proofs.Ytfhddbjojpmbcaa.PartW
/-- Each number fits. -/
def I64 (l : List Int) : Prop := ∀ x ∈ l, (Lit.int .i64 x).wf = true
instance (l : List Int) : Decidable (I64 l) := by unfold I64; infer_instance
theorem I64.of {l : List Int} {N : Nat} (h : ∀ x ∈ l, 0 ≤ x ∧ x < N) (hN : N ≤ 1048576) : I64 l := fun x hx => by
  have := h x hx
  simp [Lit.wf, IntKind.min, IntKind.max, IntKind.signed, IntKind.bits]; omega
theorem numsTo_bound (E : Nat → Nat → Bool) (n : Nat) : ∀ x ∈ numsTo E n, 0 ≤ x ∧ x < (n : Nat) := fun x hx => by
  obtain ⟨i, hi, rfl⟩ := List.mem_map.1 hx
  have := nm_le (E := E) i
  have := List.mem_range.1 hi
  omega
end Go.Proofs.Ytfhddbjojpmbcaa.DfaW
