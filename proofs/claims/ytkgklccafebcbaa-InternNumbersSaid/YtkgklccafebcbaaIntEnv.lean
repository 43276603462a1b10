/- The statements' walks in the rows' own arguments: InternNil, InternNumbers. -/
import Derived.Test.YtkgklccafebcbaaRows
import Derived.Test.YtkgklccafebcbaaNil
import Derived.Test.YtkgklccafebcbaaNumbers
namespace Go.Proofs.Ytkgklccafebcbaa.IntW
set_option linter.unusedVariables false
open Go.RowKit
theorem InternNumbers_row (v : Value) (l : List Int) (w : World) (hv : Base.ISl .i64 w v l) :
    Calls Try.prog 4 #[v] w fun e w' => e = .returned (.bool true) ∧ Below w.heap.size w w' := by
  by_cases h : l.length ≤ 200
  · exact Numbers_main v l w hv h
  · obtain ⟨a, cap, rfl, _, _⟩ := isl_shape hv
    exact Numbers_long a l.length cap (by omega) w
end Go.Proofs.Ytkgklccafebcbaa.IntW
