/- What the row's list of variables gives: the table of the lowest bits. Beside it: the statements' walks in the rows' own arguments. -/
import Derived.Test.YtgmoaglanjfdmaaDoorRows
import Derived.Test.YtgmoaglanjfdmaaDoorMade
import Derived.Stop.LaidErr
namespace Go.Proofs.YtgmoaglanjfdmaaDoor.SetW
set_option linter.unusedVariables false
open Go.RowKit Go.Proofs.YtgmoaglanjfdmaaDoor.SetM
open Go.Proofs.YtgmoaglanjfdmaaDoor.Base (BSl)
theorem tab {W : World} (h : laidMetH Tryd.prog Rows.setsMadeRow.laid W) : Lib.TabIs Tryd.prog W "math/bits.deBruijn64tab" .u8 tabZ :=
  Lib.tabIs_of_head (rest := []) gTab (t := 55) (by kernel_rfl) Tryd.underlying55 Tryd.underlying5 (by kernel_rfl) (by kernel_rfl) h
theorem SetsMade_row (v : Value) (s : ByteArray) (a b : Int) (w : World) (he : Env w) (hv : BSl w v s) (ha : (Lit.int .u8 a).wf = true) (hb : (Lit.int .u8 b).wf = true) :
    Calls Tryd.prog 3 #[v, .int .u8 a, .int .u8 b] w fun e w' => e = .returned (.bool true) ∧ Below w.heap.size w w' := by
  have h1 := Base.byte_of_wf' ha
  have h2 := Base.byte_of_wf' hb
  obtain ⟨m, rfl⟩ : ∃ m : Nat, a = m := ⟨a.toNat, by omega⟩
  obtain ⟨n, rfl⟩ : ∃ n : Nat, b = n := ⟨b.toNat, by omega⟩
  exact SetsMade_any v s m n w he hv (by omega) (by omega)
end Go.Proofs.YtgmoaglanjfdmaaDoor.SetW
