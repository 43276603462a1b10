/- What the row's list of variables gives: the table of the lowest bits. -/
import Derived.Test.YtciggkebbhineaaDoorPartEnv
import Derived.Test.YtciggkebbhineaaDoorTzWalk
import Derived.Stop.LaidErr
namespace Go.Proofs.YtciggkebbhineaaDoor.PartW
set_option linter.unusedVariables false
open Go.RowKit Go.Proofs.YtciggkebbhineaaDoor.SetM Go.Proofs.YtciggkebbhineaaDoor.SetW
theorem tab {W : World} (h : laidMetH Tryd.prog Rows.partsAsksRow.laid W) : Env W :=
  Env.of (Lib.tabIs_of_head (rest := []) gTab (t := 61) (by kernel_rfl) Tryd.underlying61 Tryd.underlying5 (by kernel_rfl) (by kernel_rfl) h)
end Go.Proofs.YtciggkebbhineaaDoor.PartW
