/- Trees as values of calls. -/
import Derived.Test.YtogdjgfgmdphgaaDoorTreeSame
import Derived.Test.YtogdjgfgmdphgaaDoorRefMake2
namespace Go.Proofs.YtogdjgfgmdphgaaDoor.TreeW
set_option linter.unusedVariables false
open Go.RowKit Go.Proofs.YtogdjgfgmdphgaaDoor.TreeM
open Go.Proofs.YtogdjgfgmdphgaaDoor.RegionU (Up)
/-- The value u is a tree. -/
def IsT (n : Nd) (l : List Tr) (u : Value) (W : World) : Prop := ∃ b k, u = NV n (.slice b l.length k) ∧ Lies 0 W.heap.size W (.slice b l.length k) l
theorem isT_up (n : Nd) (l : List Tr) (u : Value) : Up (IsT n l u) := fun W W' ⟨b, k, h1, h2⟩ hr => ⟨b, k, h1, h2.grow hr⟩
theorem does_tree {P : Program} {W : World} {f : FuncId} {args : Array Value} {n : Nd} {l : List Tr} (h : Calls P f args W (Made n l W)) : RegionU.does P W (IsT n l) (.ok (.enter f args) W) :=
  ⟨rfl, h.mono fun _ _ ⟨a, c, he, hl, hb⟩ => ⟨_, he, ⟨a, c, rfl, hl⟩, hb⟩⟩
end Go.Proofs.YtogdjgfgmdphgaaDoor.TreeW
