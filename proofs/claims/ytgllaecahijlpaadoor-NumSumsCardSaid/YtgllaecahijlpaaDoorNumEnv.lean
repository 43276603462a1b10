/- What the row's list of variables gives: the table of the powers of ten. -/
import Derived.Test.YtgllaecahijlpaaDoorRows
import Derived.Test.YtgllaecahijlpaaDoorNumWalk4
import Derived.Stop.LaidErr
namespace Go.Proofs.YtgllaecahijlpaaDoor.NumW
open Go.RowKit
theorem tab {W : World} (h : laidMetH Tryd.prog Rows.numShowsRow.laid W) : Lib.TabIs Tryd.prog W "internal/strconv.uint64pow10" .u64 Lib.pow10Tab :=
  Lib.tabIs_of_head (rest := []) gPow (t := 52) (by kernel_rfl) Tryd.underlying52 Tryd.underlying41 (by kernel_rfl) (by kernel_rfl) (laidMet.tail (laidMet.tail h))
end Go.Proofs.YtgllaecahijlpaaDoor.NumW
