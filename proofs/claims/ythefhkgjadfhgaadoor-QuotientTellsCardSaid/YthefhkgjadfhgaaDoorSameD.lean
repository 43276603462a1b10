/- Walks of Same, in both texts. -/
import Derived.Test.YthefhkgjadfhgaaDoorSameL
namespace Go.Proofs.YthefhkgjadfhgaaDoor.DfaW
set_option linter.unusedVariables false
open Go.RowKit Go.Maps Go.Proofs.YthefhkgjadfhgaaDoor.PartM Go.Proofs.YthefhkgjadfhgaaDoor.PartW

/-- Two machines are the same, field by field. -/
structure SameM (a b : Mc) : Prop where
  of : sameA a.of b.of = true
  wd : a.wd = b.wd
  nx : a.nx = b.nx
  lb : a.lb = b.lb
  nm : a.nm = b.nm
theorem Bx.new2 {w : World} {C D : Array Value} {m k : Mc} (h : IsM w.heap.size w C m) (h2 : IsM w.heap.size w D k) :
    Bx ((w.alloc (.cells C 27)).alloc (.cells D 27)) w.heap.size C m ∧ Bx ((w.alloc (.cells C 27)).alloc (.cells D 27)) (w.heap.size + 1) D k := by
  refine ⟨(Bx.new h).alloc _, ?_⟩
  have hb0 : Below w.heap.size w (w.alloc (.cells C 27)) := (Below.refl _ _).alloc (Nat.le_refl _) _
  have := Bx.new (h2.next hb0)
  rw [World.size_alloc] at this
  exact this

end Go.Proofs.YthefhkgjadfhgaaDoor.DfaW
