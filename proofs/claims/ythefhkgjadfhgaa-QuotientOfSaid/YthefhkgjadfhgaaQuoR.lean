/- The document's own calls keep what is asked. -/
import Derived.Test.YthefhkgjadfhgaaQuoC
import Derived.Test.YthefhkgjadfhgaaRefOf
import Derived.Test.YthefhkgjadfhgaaRefJoin
namespace Go.Proofs.Ythefhkgjadfhgaa.DfaW
open Go.RowKit Go.Maps Go.Proofs.Ythefhkgjadfhgaa.PartM Go.Proofs.Ythefhkgjadfhgaa.PartW
theorem refNormC : NormC 8 := fun w h _ hl => refNormB_any w h hl
theorem refJoinC : JoinC 10 := fun w ha hb _ _ hl => refJoin_any w ha hb hl
theorem refFinerC : FinerC 12 := fun w ha hb _ _ _ => refFiner_any w ha hb
theorem refStableC : StableC 17 := fun w h hv _ => refStable_any w h hv
theorem refOfC : OfC 14 := fun w h hv _ hX => refOf_any w h hv hX
end Go.Proofs.Ythefhkgjadfhgaa.DfaW
