/- What the row's list of variables gives: the table of the plain bytes. Beside it: the statements' walks in the rows' own arguments. -/
import Derived.Test.YtmlheppkclppfaaDoorRows
import Derived.Test.YtmlheppkclppfaaDoorQuoBack
import Derived.Stop.LaidErr
namespace Go.Proofs.YtmlheppkclppfaaDoor.QuoW
set_option linter.unusedVariables false
open Go.RowKit Go.Proofs.YtmlheppkclppfaaDoor.QuoM
open Go.Proofs.YtmlheppkclppfaaDoor.Base (BSl)
theorem tab {W : World} (h : laidMetH Tryd.prog Rows.quoteDigitsRow.laid W) : Env W :=
  Env.of (Lib.tabIs_of_head (rest := []) gPlain (t := 36) (by kernel_rfl) Tryd.underlying36 Tryd.underlying35 (by kernel_rfl) (by kernel_rfl) h)
theorem QuoteDigits_row (n c : Int) (w : World) (he : Env w) (hn : (Lit.int .i64 n).wf = true) (hc : (Lit.int .u8 c).wf = true) :
    Calls Tryd.prog 3 #[.int .i64 n, .int .u8 c] w fun e w' => e = .returned (.bool true) ∧ Below w.heap.size w w' := by
  have h1 := Base.wf64 hn
  have h2 := Base.byte_of_wf' hc
  have e : c = ((UInt8.ofNat c.toNat).toNat : Int) := by rw [UInt8.toNat_ofNat']; omega
  rw [e]
  exact QuoteDigits_any n _ w he h1.1 h1.2
end Go.Proofs.YtmlheppkclppfaaDoor.QuoW
