/- What the row's list of variables gives: the table of the lowest bits. Beside it: the statements' walks in the rows' own arguments. -/
import Derived.Test.YtgmoaglanjfdmaaDoorRows
import Derived.Test.YtgmoaglanjfdmaaDoorMade
import Derived.Test.YtgmoaglanjfdmaaDoorLaws
import Derived.WalkKit
import Derived.ProofKit
import Derived.Laws.IdiomArrays
import Derived.Stop.LaidErr
namespace Go.Proofs.YtgmoaglanjfdmaaDoor.SetW
set_option linter.unusedVariables false
open Go.RowKit Go.Proofs.YtgmoaglanjfdmaaDoor.SetM
open Go.Proofs.YtgmoaglanjfdmaaDoor.Base (BSl)
theorem tab {W : World} (h : laidMetH Tryd.prog Rows.setsMadeRow.laid W) : Lib.TabIs Tryd.prog W "math/bits.deBruijn64tab" .u8 tabZ :=
  Lib.tabIs_of_head (rest := []) gTab (t := 55) (by kernel_rfl) Tryd.underlying55 Tryd.underlying5 (by kernel_rfl) (by kernel_rfl) h
theorem SetsMade_row (v : Value) (s : ByteArray) (a b : Int) (w : World) (he : Env w) (hv : BSl w v s) (ha : (Lit.int .u8 a).wf = true) (hb : (Lit.int .u8 b).wf = true) :
    Calls Tryd.prog 3 #[v, .int .u8 a, .int .u8 b] w fun e w' => e = .returned (.bool true) ∧ Below w.heap.size w w' := by
  have h1 := Base.byte_of_wf' ha
  have h2 := Base.byte_of_wf' hb
  obtain ⟨m, rfl⟩ : ∃ m : Nat, a = m := ⟨a.toNat, by omega⟩
  obtain ⟨n, rfl⟩ : ∃ n : Nat, b = n := ⟨b.toNat, by omega⟩
  exact SetsMade_any v s m n w he hv (by omega) (by omega)
open Go.ChangeShapes Go.WideShapes Go.ChangeAt
theorem nat_of_wf {x : Int} (h : (Lit.int .u64 x).wf = true) : ∃ n : Nat, x = n ∧ n < 18446744073709551616 := by
  have h1 : IntKind.u64.min = 0 := rfl
  have h2 : IntKind.u64.max = 18446744073709551615 := rfl
  simp only [Lit.wf, Bool.and_eq_true, decide_eq_true_eq] at h
  exact ⟨x.toNat, by omega, by omega⟩
theorem array_four {α : Type} {cs : Array α} (h : cs.size = 4) : ∃ a b c d, cs = #[a, b, c, d] := by
  obtain ⟨l⟩ := cs
  match l, h with
  | [a, b, c, d], _ => exact ⟨a, b, c, d, rfl⟩
/-- A set that is handed in: who is in it. -/
theorem set_open {H : Type} {enc : TypeId × Value → H} {W : World} {base : Nat} {v : Value} {d : DataW H} {p : List MemPlace} (hval : Value.okWide Tryd.prog W .any base 25 v)
    (h : DataW.Trod enc Tryd.prog W 0 (fun _ => true) true 25 v d p) : ∃ f : Nat → Bool, v = SV f := by
  obtain ⟨cs, rfl, hsz, _⟩ : ∃ cs, v = .agg cs ∧ cs.size = Tryd.prog.cellsOf 25 ∧ Row.okWide Tryd.prog W .any base 25 cs := by
    simpa [Value.okWide, Tryd.underlying25] using hval
  rw [show Tryd.prog.cellsOf 25 = 4 by kernel_rfl] at hsz
  obtain ⟨c0, c1, c2, c3, rfl⟩ := array_four hsz
  obtain ⟨fuel, hf⟩ := h
  obtain ⟨y0, y1, y2, y3, m, hx, hy0, hy1, hy2, hy3⟩ := trod_array4 Tryd.underlying25 (by kernel_rfl) hf
  obtain ⟨x0, e0, rfl, w0⟩ := DataW.trod_int Tryd.underlying23 hy0
  obtain ⟨x1, e1, rfl, w1⟩ := DataW.trod_int Tryd.underlying23 hy1
  obtain ⟨x2, e2, rfl, w2⟩ := DataW.trod_int Tryd.underlying23 hy2
  obtain ⟨x3, e3, rfl, w3⟩ := DataW.trod_int Tryd.underlying23 hy3
  simp at e0 e1 e2 e3
  subst e0 e1 e2 e3
  obtain ⟨n0, rfl, l0⟩ := nat_of_wf w0
  obtain ⟨n1, rfl, l1⟩ := nat_of_wf w1
  obtain ⟨n2, rfl, l2⟩ := nat_of_wf w2
  obtain ⟨n3, rfl, l3⟩ := nat_of_wf w3
  refine ⟨memOf n0 n1 n2 n3, ?_⟩
  show _ = Value.agg _
  rw [← memOf0 n0 n1 n2 n3 l0, ← memOf1 n0 n1 n2 n3 l1, ← memOf2 n0 n1 n2 n3 l2, ← memOf3 n0 n1 n2 n3 l3]
theorem SetsJoined_row (f g : Nat → Bool) (c : Int) (w : World) (he : Env w) (hc : (Lit.int .u8 c).wf = true) :
    Calls Tryd.prog 4 #[SV f, SV g, .int .u8 c] w fun e w' => e = .returned (.bool true) ∧ Below w.heap.size w w' := by
  have h1 := Base.byte_of_wf' hc
  obtain ⟨m, rfl⟩ : ∃ m : Nat, c = m := ⟨c.toNat, by omega⟩
  exact SetsJoined_any f g m (by omega) w he
end Go.Proofs.YtgmoaglanjfdmaaDoor.SetW
