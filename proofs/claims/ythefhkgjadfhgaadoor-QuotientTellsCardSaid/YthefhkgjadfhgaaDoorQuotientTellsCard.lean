/-
  QuotientTells: for every input of the row the law returns true, and each argument reads behind the call as it read before. The row lists the package-level variables that the road reads, tied to the program text by the given tie.
-/
import Derived.Test.YthefhkgjadfhgaaDoorCards
import Derived.Test.YthefhkgjadfhgaaDoorTie
import Derived.Test.YthefhkgjadfhgaaDoorEnvD
import Derived.Test.YthefhkgjadfhgaaDoorQuoTells
import Derived.Test.YthefhkgjadfhgaaDoorKnowsQ
import Derived.Test.YthefhkgjadfhgaaDoorJoinQ
import Derived.Test.YthefhkgjadfhgaaDoorOfQ
import Derived.WalkKit
import Derived.ProofKit
import Derived.OpenShut
import Derived.ShutString
import Derived.ChangeOld
import Derived.Below
import Derived.Carry
import Derived.SizedLaws
import Derived.Deep.DeepHandedRow
import Derived.Lib.LaidTab
import Derived.Stop.LaidErr
namespace Go.Proofs.YthefhkgjadfhgaaDoor.quotientTellsCard
open Go.ChangeShapes Go.WideShapes Go.ChangeAt Go.RowKit
open Go.ChangeMaps (open_string shut_string)
open Go.Proofs.YthefhkgjadfhgaaDoor
set_option linter.unusedVariables false

theorem own : ownKnob Tryd.prog.godebug = none := by kernel_rfl
theorem laidOut : laidOutB Tryd.prog = true := by kernel_rfl

set_option maxRecDepth 100000 in
theorem contract (H : Type) (enc : TypeId × Value → H) (W : World) (base : Nat) (args : Array Value) (ds gs : List (DataW H)) (before : List MemPlace)
    (hval : ∀ (j : Nat) t v, Tryd.f4.params[j]? = some t → args[j]? = some v → Value.okWide Tryd.prog W .any base t v)
    (hW : DataW.Whole enc Tryd.prog Tryd.f4.params.toList Rows.quotientTellsSpec.vars false W args.toList ds gs before)
    (hsz0 : (DataW.weightsEach Tryd.prog (Tryd.f4.params.toList ++ (OpenSpec.ofChange Rows.quotientTellsSpec).bare.plain.varTypes Tryd.prog) (ds ++ gs)).all (· ≤ reachBytes) = true)
    (hL : laidMetH Tryd.prog Rows.quotientTellsRow.laid W) :
    Calls Tryd.prog 4 args W fun e W' => ∃ v, e = .returned v ∧ Rows.quotientTellsSpec.post enc Tryd.prog Tryd.f4 false true false false W args v W' := by
  have hW' := hW
  obtain ⟨p, q, hA0, hV, rfl, hfz, hnd⟩ := hW
  have hA : DataW.TrodAll enc Tryd.prog W 0 (fun _ => true) true Tryd.f4.params.toList args.toList ds p := hA0
  have hsz := hsz0
  rw [Tryd.params4] at hA hval hsz
  obtain ⟨v0, vs0, d0, ds0, p0, q0, hargs, rfl, rfl, h0, r0'⟩ := trodAll_cons hA
  obtain ⟨v1, vs1, d1, ds1, p1, q1, rfl, rfl, rfl, h1, r1'⟩ := trodAll_cons r0'
  obtain ⟨v2, vs2, d2, ds2, p2, q2, rfl, rfl, rfl, h2, r2'⟩ := trodAll_cons r1'
  obtain ⟨v3, vs3, d3, ds3, p3, q3, rfl, rfl, rfl, h3, r3'⟩ := trodAll_cons r2'
  obtain ⟨rfl, rfl, rfl⟩ := trodAll_nil r3'
  obtain rfl : args = #[v0, v1, v2, v3] := by cases args; simp_all
  obtain ⟨rfl, rfl⟩ := trodVars_none hV
  have k0 := h0
  have lt0 : ∀ x ∈ p0, x.block < W.heap.size := by obtain ⟨m, hm⟩ := k0; exact DataW.trod_lt m _ _ _ hm
  have k1 := h1
  have lt1 : ∀ x ∈ p1, x.block < W.heap.size := by obtain ⟨m, hm⟩ := k1; exact DataW.trod_lt m _ _ _ hm
  have k2 := h2
  have lt2 : ∀ x ∈ p2, x.block < W.heap.size := by obtain ⟨m, hm⟩ := k2; exact DataW.trod_lt m _ _ _ hm
  have k3 := h3
  have lt3 : ∀ x ∈ p3, x.block < W.heap.size := by obtain ⟨m, hm⟩ := k3; exact DataW.trod_lt m _ _ _ hm
  obtain ⟨C0, m0, rfl, M0⟩ := DfaW.dfa_open (hval 0 27 v0 rfl rfl) h0
  obtain ⟨ad1, len1, cap1, rfl⟩ := okWide_slice Tryd.underlying24 (hval 1 24 v1 rfl rfl)
  obtain ⟨l1, b1, e1⟩ := Base.isl_open Tryd.underlying24 Tryd.underlying3 (by kernel_rfl) h1
  have r1 : l1.length * 8 ≤ 140737488351232 := by
    rcases e1 with ⟨_, e1⟩ | ⟨el, sp, rfl, e2⟩
    · rw [e1]; decide
    · have := sized_slice hsz (j := 1) (t := 24) (e := 3) rfl rfl Tryd.underlying24
      rw [show Tryd.prog.bytesOf 3 = 8 by kernel_rfl] at this
      rw [← e2]
      have h2 : reachBytes = 140737488351232 := rfl
      rw [h2] at this
      omega
  obtain ⟨ad2, len2, cap2, rfl⟩ := okWide_slice Tryd.underlying24 (hval 2 24 v2 rfl rfl)
  obtain ⟨l2, b2, e2⟩ := Base.isl_open Tryd.underlying24 Tryd.underlying3 (by kernel_rfl) h2
  have r2 : l2.length * 8 ≤ 140737488351232 := by
    rcases e2 with ⟨_, e1⟩ | ⟨el, sp, rfl, e2⟩
    · rw [e1]; decide
    · have := sized_slice hsz (j := 2) (t := 24) (e := 3) rfl rfl Tryd.underlying24
      rw [show Tryd.prog.bytesOf 3 = 8 by kernel_rfl] at this
      rw [← e2]
      have h2 : reachBytes = 140737488351232 := rfl
      rw [h2] at this
      omega
  obtain ⟨ad3, len3, cap3, rfl⟩ := okWide_slice Tryd.underlying36 (hval 3 36 v3 rfl rfl)
  obtain ⟨s3, b3, e3⟩ := Base.bsl_open Tryd.underlying36 Tryd.underlying5 (by kernel_rfl) h3
  have r3 : s3.size * 1 ≤ 140737488351232 := by
    rcases e3 with ⟨_, e1⟩ | ⟨el, sp, rfl, e2⟩
    · rw [e1]; decide
    · have := sized_slice hsz (j := 3) (t := 36) (e := 5) rfl rfl Tryd.underlying36
      rw [show Tryd.prog.bytesOf 5 = 1 by kernel_rfl] at this
      rw [← e2]
      have h2 : reachBytes = 140737488351232 := rfl
      rw [h2] at this
      omega
  clear hA0
  refine (DfaW.QuoTells_any DfaW.quoMerge_any DfaW.quoStable_any DfaW.quoOf_any DfaW.quoJoin_any DfaW.quoFiner_any (DfaW.knows_of DfaW.quoNorm_any DfaW.quoOf_any) W (DfaW.tab hL) M0 (DfaW.is_of b1) (DfaW.is_of b2) (DfaW.i64_of b1) (DfaW.i64_of b2) (DfaW.bs_of b3)).mono fun e W' ⟨he, bel⟩ => ?_
  subst he
  exact ⟨_, rfl, _, _, _, [], _, [], hW', trodAll_mk1 (shut_bool Tryd.underlying4 _), (trodAll_cons_mk (Below.trod laidOut (by kernel_rfl) (of_decide_eq_true (by kernel_rfl)) k0 bel lt0) (trodAll_cons_mk (Below.trod laidOut (by kernel_rfl) (of_decide_eq_true (by kernel_rfl)) k1 bel lt1) (trodAll_cons_mk (Below.trod laidOut (by kernel_rfl) (of_decide_eq_true (by kernel_rfl)) k2 bel lt2) (trodAll_cons_mk (Below.trod laidOut (by kernel_rfl) (of_decide_eq_true (by kernel_rfl)) k3 bel lt3) trodAll_mk0)))), rfl, bel.frame _, fun h => by cases h⟩

/-- What a listed datum lies as. -/
def datCells : Nat → DataW Unit → List Value
  | _, .lit (.int k z) => [.int k z]
  | _, .lit (.bool b) => [.bool b]
  | _, .lit (.string b) => [.string ⟨b.toArray⟩]
  | n + 1, .agg ps => ps.flatMap (datCells n)
  | _, _ => []
def laidHeap (l : List (Nat × DataW Unit)) (h : Array Obj) : Array Obj :=
  l.foldl (fun h x => h.modify x.1 fun
      | .cells _ t frozen => .cells (datCells 4 x.2).toArray t frozen
      | o => o) h

/-- A world for the witness: the settled one, the listed variables holding what their initialisers lay. -/
noncomputable def laidWorld (os : Os) : World :=
  { World.holding Tryd.prog os ⟨#[], #[], []⟩ with heap := laidHeap [(0, Rows.laid_math_bits_deBruijn64tab)] (World.holding Tryd.prog os ⟨#[], #[], []⟩).heap }
theorem laid_met (os : Os) : laidMet Tryd.prog Rows.quotientTellsRow.laid ((laidWorld os).forCall (fun _ _ => 0) ⟨#[], #[DfaW.zeroD, .slice none 0 0, .slice none 0 0, .slice none 0 0], []⟩).memory :=
  laidMet_of_run' 8 (by kernel_rfl) (by kernel_rfl)
theorem reads (os : Os) {H : Type} (enc : TypeId × Value → H) : ∃ places, DataW.whole enc Tryd.prog ((laidWorld os).forCall (fun _ _ => 0) ⟨#[], #[DfaW.zeroD, .slice none 0 0, .slice none 0 0, .slice none 0 0], []⟩).memory Tryd.f4.params.toList Rows.quotientTellsSpec.vars false (#[DfaW.zeroD, .slice none 0 0, .slice none 0 0, .slice none 0 0] : Array Value).toList 8 = some ([DfaW.zeroR, .nil, .nil, .nil], [], places) :=
  ⟨[], by kernel_rfl⟩

set_option maxRecDepth 100000 in
theorem lifted (os : Os) (started : os.Started) (H : Type) (enc : TypeId × Value → H) (F : Stop.Interp) :
    ReturnsInHanded {} Tryd.checked os 4 .any ((OpenSpec.ofChange Rows.quotientTellsSpec).preRow enc Tryd.prog Tryd.f4 Rows.quotientTellsRow.domain false Rows.quotientTellsRow.laid) (((OpenSpec.ofChange Rows.quotientTellsSpec).at F).post enc Tryd.prog Tryd.f4 false true false false) := by
  obtain ⟨places, hx⟩ := reads os enc
  refine returnsInHanded_of_row (C := Tryd.checked) (s := (OpenSpec.ofChange Rows.quotientTellsSpec)) own started (by kernel_rfl) Tryd.func4
    (witness_row_at (enc := enc) (C := Tryd.checked) false (laidWorld os) #[DfaW.zeroD, .slice none 0 0, .slice none 0 0, .slice none 0 0] rfl (by kernel_rfl) (by kernel_rfl) (by kernel_rfl)
      (OpenSpec.preRow_of_cond 8 hx (by kernel_rfl) (fun k hk => by cases hk) (by kernel_rfl) (laid_met os))) ?_
  intro W base args ds gs before hval hW _ hcond hsz hL _ _
  exact contract H enc W base args ds gs before hval hW hsz hL

theorem said : Rows.QuotientTellsSaid :=
  OpenClaim.holds_of_cond 4 Tryd.f4 rfl rfl rfl rfl rfl rfl rfl ⟨rfl, rfl, rfl, rfl, rfl⟩ rfl rfl rfl rfl rfl (by kernel_rfl) Tryd.func4 (by kernel_rfl)
    (of_decide_eq_true (by kernel_rfl)) (by unfold Func.isWrapper; first | (rw [if_pos (by decide +kernel)]; kernel_rfl) | (rw [if_neg (by decide +kernel)]; exact ⟨rfl, rfl⟩))
    (fun os started H enc _ F => by rw [OpenClaim.pre_eq_preRow]; exact lifted os started H enc F)

theorem plain (f : FuncId) (fn : Func) (hf : Tryd.pinned.checked.prog.funcNamed "doublet/doubletlaw23.QuotientTells" = some f) (hfn : Tryd.pinned.checked.prog.funcs[f]? = some fn) :
    false = Tryd.pinned.checked.prog.looks [] ∧ ∀ (j : Nat) t, fn.params[j]? = some t → Tryd.pinned.checked.prog.wantsStandIn t = false := by
  obtain rfl : f = 4 := Option.some.inj ((show Tryd.prog.funcNamed "doublet/doubletlaw23.QuotientTells" = some 4 by kernel_rfl).symm.trans hf) |>.symm
  obtain rfl : fn = Tryd.f4 := (Option.some.inj (Tryd.func4.symm.trans hfn)).symm
  refine ⟨by kernel_rfl, fun j t ht => ?_⟩
  rw [Tryd.params4] at ht
  have hm : t = 27 ∨ t = 24 ∨ t = 24 ∨ t = 36 := by simpa using Array.mem_of_getElem? ht
  rcases hm with rfl | rfl | rfl | rfl
  · exact (show Tryd.prog.wantsStandIn 27 = false by kernel_rfl)
  · exact (show Tryd.prog.wantsStandIn 24 = false by kernel_rfl)
  · exact (show Tryd.prog.wantsStandIn 24 = false by kernel_rfl)
  · exact (show Tryd.prog.wantsStandIn 36 = false by kernel_rfl)

/-- THE CARD. -/
theorem card : Rows.QuotientTellsCardSaid :=
  Claim7.holds_tied_plain_at .later [] _ _ _ _ said (fun _ h => by cases h) (by kernel_rfl) (fun _ h => by cases h) quotientTells_row_tie rfl ⟨rfl, rfl⟩ (by kernel_rfl) rfl plain (by kernel_rfl)
#print axioms card
end Go.Proofs.YthefhkgjadfhgaaDoor.quotientTellsCard
