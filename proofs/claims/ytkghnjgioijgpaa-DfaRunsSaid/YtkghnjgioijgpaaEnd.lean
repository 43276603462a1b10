/- The laws' walks, for the arguments as the cards open them. -/
import Derived.Test.YtkghnjgioijgpaaEnv
import Derived.Test.YtkghnjgioijgpaaRuns
namespace Go.Proofs.Ytkghnjgioijgpaa.DfaW
set_option linter.unusedVariables false
open Go.RowKit
theorem DfaRuns_w {C : Array Value} {m : Mc} {v : Value} {l : ByteArray} (w : World) (h : IsM w.heap.size w C m) (hv : Base.BSl w v l) (s c : Int) (hc : (Lit.int .u8 c).wf = true) :
    Calls Try.prog 4 #[.agg C, v, .int .i64 s, .int .u8 c] w fun e w' => e = .returned (.bool true) ∧ Below w.heap.size w w' := by
  have h2 := Base.byte_of_wf' hc
  have := DfaRuns_any w h (bs_of hv) s c.toNat (by omega)
  rw [show ((c.toNat : Nat) : Int) = c by omega] at this
  exact this
end Go.Proofs.Ytkghnjgioijgpaa.DfaW
