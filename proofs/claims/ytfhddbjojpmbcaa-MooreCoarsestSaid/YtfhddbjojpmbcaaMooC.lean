/- What is asked of the program's calls, in the words of states that are alike. -/
import Derived.Test.YtfhddbjojpmbcaaMooMath
import Derived.Test.YtfhddbjojpmbcaaQuoC
namespace Go.Proofs.Ytfhddbjojpmbcaa.DfaW
set_option linter.unusedVariables false
open Go.RowKit Go.Maps Go.Proofs.Ytfhddbjojpmbcaa.PartM Go.Proofs.Ytfhddbjojpmbcaa.PartW
def AfterC (f : FuncId) : Prop := ∀ {C : Array Value} {m : Mc} (w : World) (k : Int), (Lit.int .i64 k).wf = true → IsM w.heap.size w C m → Calls Try.prog f #[.agg C, .int .i64 k] w fun e w' => ∃ v', e = .returned v' ∧ OI w' w.heap.size v' (aftV m k) ∧ Below w.heap.size w w'
def BlocksC (f : FuncId) : Prop := ∀ {C : Array Value} {m : Mc} (w : World), IsM w.heap.size w C m → Calls Try.prog f #[.agg C] w fun e w' => ∃ v', e = .returned v' ∧ OI w' w.heap.size v' (blkV m) ∧ Below w.heap.size w w'
def RoundsC (f : FuncId) : Prop := ∀ {C : Array Value} {m : Mc} (w : World), IsM w.heap.size w C m → Calls Try.prog f #[.agg C] w fun e w' => e = .returned (.int .i64 (rndV m)) ∧ Below w.heap.size w w'
theorem moo_yes {m : Mc} (h : Ok m) : (∀ k, aftV m k = aftN m k.toNat) ∧ blkV m = blkN m ∧ rndV m = (rndN m : Nat) := ⟨fun k => if_pos h, if_pos h, if_pos h⟩
theorem moo_no {m : Mc} (h : ¬ Ok m) : (∀ k, aftV m k = []) ∧ blkV m = [] ∧ rndV m = -1 := ⟨fun k => if_neg h, if_neg h, if_neg h⟩
theorem wf_of {x : Int} (h0 : -9223372036854775808 ≤ x) (h : x ≤ 9223372036854775807) : (Lit.int .i64 x).wf = true := by simp [Lit.wf, IntKind.min, IntKind.max, IntKind.signed, IntKind.bits]; omega
theorem of_wf {x : Int} (h : (Lit.int .i64 x).wf = true) : -9223372036854775808 ≤ x ∧ x ≤ 9223372036854775807 := by simp [Lit.wf, IntKind.min, IntKind.max, IntKind.signed, IntKind.bits] at h; omega
theorem aftN_64 (m : Mc) (k : Nat) (h : m.lb.length ≤ 1048576) : I64 (aftN m k) := I64.of (numsTo_bound _ _) h
end Go.Proofs.Ytfhddbjojpmbcaa.DfaW
