/- What the row's list of variables gives: the table of the lowest bits. Beside it: the statements' walks in the rows' own arguments. -/
import Derived.Test.YtgmeomhddpmpbaaDoorRows
import Derived.Test.YtgmeomhddpmpbaaDoorKeys
import Derived.WalkKit
import Derived.ProofKit
import Derived.Laws.IdiomArrays
import Derived.Stop.LaidErr
namespace Go.Proofs.YtgmeomhddpmpbaaDoor.BitsW
set_option linter.unusedVariables false
open Go.RowKit Go.Proofs.YtgmeomhddpmpbaaDoor.SetM Go.Proofs.YtgmeomhddpmpbaaDoor.SetW
theorem tab {W : World} (h : laidMetH Tryd.prog Rows.bitsetNilRow.laid W) : Lib.TabIs Tryd.prog W "math/bits.deBruijn64tab" .u8 tabZ :=
  Lib.tabIs_of_head (rest := []) gTab (t := 65) (by kernel_rfl) Tryd.underlying65 Tryd.underlying5 (by kernel_rfl) (by kernel_rfl) h
theorem env {W : World} (h : laidMetH Tryd.prog Rows.bitsetNilRow.laid W) : EnvC W := env_cells (Env.of (tab h))
theorem BitsetNil_row (i n : Int) (w : World) (he : EnvC w) (hn : (Lit.int .u8 n).wf = true) :
    Calls Tryd.prog 4 #[.int .i64 i, .int .u8 n] w fun e w' => e = .returned (.bool true) ∧ Below w.heap.size w w' := by
  have h1 := Base.byte_of_wf' hn
  obtain ⟨m, rfl⟩ : ∃ m : Nat, n = m := ⟨n.toNat, by omega⟩
  exact BitsetNil_any i m (by omega) w he
theorem BitsetKeys_row (v : Value) (l : List Int) (n i : Int) (w : World) (he : EnvC w) (hv : Base.ISl .u16 w v l) (hn : (Lit.int .u8 n).wf = true) (hi : (Lit.int .u16 i).wf = true) :
    Calls Tryd.prog 5 #[v, .int .u8 n, .int .u16 i] w fun e w' => e = .returned (.bool true) ∧ Below w.heap.size w w' := by
  have h1 := Base.byte_of_wf' hn
  have h2 := wf16 hi
  obtain ⟨m, rfl⟩ : ∃ m : Nat, n = m := ⟨n.toNat, by omega⟩
  obtain ⟨k, rfl⟩ : ∃ k : Nat, i = k := ⟨i.toNat, by omega⟩
  exact BitsetKeys_any v _ m k (by omega) (by omega) w he (usl_of hv)
end Go.Proofs.YtgmeomhddpmpbaaDoor.BitsW
