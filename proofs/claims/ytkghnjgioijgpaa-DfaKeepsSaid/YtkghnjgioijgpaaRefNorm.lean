/- Walks of layer 19's document: Norm, Right. -/
import Derived.Test.YtkghnjgioijgpaaRefSets
import Derived.Test.YtkghnjgioijgpaaRefNum
import Derived.Test.YtkghnjgioijgpaaEqArr
namespace Go.Proofs.Ytkghnjgioijgpaa.PartW
set_option linter.unusedVariables false
open Go.RowKit Go.Maps Go.Proofs.Ytkghnjgioijgpaa.PartM Go.Proofs.Ytkghnjgioijgpaa.SetM Go.Proofs.Ytkghnjgioijgpaa.SetW
theorem sameA_comm (f g : Nat → Nat) : sameA f g = sameA g f := by
  unfold sameA
  congr 1
  funext i
  exact BEq.comm
theorem refNorm_any {C : Array Value} {f : Nat → Nat} (hC : IsA C f) (hf : ∀ b, b < 256 → f b < 256) (w : World) :
    Calls Try.prog 58 #[.agg C] w fun e w' => ∃ Y, e = .returned (.tuple #[.agg Y, .int .i64 (rk (byKey f) 256 : Nat)]) ∧ IsA Y (nm (byKey f)) ∧ Below w.heap.size w w' := by
  obtain ⟨Z, hZ, hz⟩ := zeroA
  have HZ := Lib.hid hZ; have HC := Lib.hid hC
  have hr0 : Ar ((w.alloc (.cells C 22)).alloc (.cells Z 22)) (w.heap.size + 1) Z 22 := by
    have := Ar.new (w.alloc (.cells C 22)) Z 22
    rw [World.size_alloc] at this; exact this
  have hc0 : Ar ((w.alloc (.cells C 22)).alloc (.cells Z 22)) w.heap.size C 22 := (Ar.new w C 22).alloc _
  have hb0 : Below w.heap.size w ((w.alloc (.cells C 22)).alloc (.cells Z 22)) := ((Below.refl _ w).alloc (Nat.le_refl _) _).alloc (by simp) _
  have HP := Lib.hid (refSets_any hC hf ((w.alloc (.cells C 22)).alloc (.cells Z 22)))
  have HR := Lib.hid hr0; have HB := Lib.hid hb0; have HC0 := Lib.hid hc0
  clear hZ hr0 hb0 hc0 hC hf
  go_enter Try.func58, Try.ntmps58
  go_wp2_with (refine wpList_load_arr rfl 22 (.tmp 1) rfl rfl HC0.out HC.out.size Try.underlying22 infoA ?_)
  refine HP.out.mono ?_
  rintro e w1 ⟨v', rfl, hown, hb1⟩
  have HV := Lib.hid (SSl.of_owns hown)
  have HR1 := Lib.hid (HR.out.below hb1)
  have HB1 := Lib.hid (HB.out.trans (hb1.mono HB.out.size))
  clear hown hb1
  go_wp2_with fail
  refine (numbers_any (byKey_eqv f) HV.out).mono ?_
  rintro e w2 ⟨Y, rfl, hY, hb2⟩
  have HR2 := Lib.hid (HR1.out.below hb2)
  have HB2 := Lib.hid (HB1.out.trans (hb2.mono HB1.out.size))
  have HY := Lib.hid hY
  clear hb2 hY
  go_wp2_with (refine wpList_store_arr rfl 22 (.tmp 2) (.tmp 7) rfl rfl rfl HR2.out HZ.out.size HY.out infoA ?_)
  have hld := (HR2.out.row Y).loadVar (P := Try.prog) HY.out.size Try.underlying22 infoA
  refine bodyPost_ret (v := .tuple #[.agg Y, .int .i64 (rk (byKey f) 256 : Nat)]) ?_ rfl ⟨Y, rfl, HY.out, below_row HB2.out (by omega) Y⟩
  rw [results_cell_tmp rfl]
  simp [asAddr, Result.andThen, hld]

set_option maxRecDepth 100000 in
theorem refRight_any {C : Array Value} {f : Nat → Nat} (hC : IsA C f) (hf : ∀ b, b < 256 → f b < 256) (n : Int) (w : World) :
    Calls Try.prog 35 #[.agg C, .int .i64 n] w fun e w' => e = .returned (.bool (sameA f (nm (byKey f)) && (n == (rk (byKey f) 256 : Nat)))) ∧ Below w.heap.size w w' := by
  obtain ⟨Z, hZ, hz⟩ := zeroA
  have HZ := Lib.hid hZ; have HC := Lib.hid hC
  have hb0 : Below w.heap.size w (w.alloc (.cells C 22)) := (Below.refl _ w).alloc (Nat.le_refl _) _
  have HB0 := Lib.hid hb0
  have HNO := Lib.hid (refNorm_any hC hf (w.alloc (.cells C 22)))
  have HR0 := Lib.hid (Ar.new w C 22)
  clear hZ hC hf hb0
  go_enter Try.func35, Try.ntmps35
  go_wp2_with (refine wpList_load_arr rfl 22 (.tmp 2) rfl rfl HR0.out HC.out.size Try.underlying22 infoA ?_)
  refine HNO.out.mono ?_
  rintro e w1 ⟨Y, rfl, hY, hb1⟩
  have HY := Lib.hid hY
  have HR1 := Lib.hid (HR0.out.below hb1)
  have HB1 := Lib.hid (HB0.out.trans (hb1.mono HB0.out.size))
  have heq := eqArr hY HC.out
  obtain ⟨b, hb⟩ : ∃ b, b = sameA f (nm (byKey f)) := ⟨_, rfl⟩
  rw [show sameA (nm (byKey f)) f = b from by rw [hb]; exact sameA_comm _ _] at heq
  have HBB := Lib.hid hb
  have HCM := Lib.hid (show ((rk (byKey f) 256 : Nat) : Int) = n ↔ n = (rk (byKey f) 256 : Nat) from eq_comm)
  clear hY hb1 hb
  have ha := HR1.out.alloc (.cells Y 22)
  have hay := Ar.new w1 Y 22
  have HA := Lib.hid ha; have HAY := Lib.hid hay
  have hb2 := HB1.out.alloc HB1.out.size (.cells Y 22)
  have HB2 := Lib.hid hb2
  clear ha hay hb2
  cases b
  · go_wp2_with (first | (refine wpList_store_arr rfl 22 (.tmp 5) (.tmp 10) rfl rfl rfl (Ar.new w1 Z 22) HZ.out.size HY.out infoA ?_; rw [World.setRow_alloc_new]) | (refine wpList_load_arr rfl 22 (.tmp 2) rfl rfl HA.out HC.out.size Try.underlying22 infoA ?_) | (refine wpList_load_arr rfl 22 (.tmp 5) rfl rfl HAY.out HY.out.size Try.underlying22 infoA ?_))
    go_ret
    exact ⟨by rw [← HBB.out]; rfl, HB2.out⟩
  · go_wp2_with (first | (refine wpList_store_arr rfl 22 (.tmp 5) (.tmp 10) rfl rfl rfl (Ar.new w1 Z 22) HZ.out.size HY.out infoA ?_; rw [World.setRow_alloc_new]) | (refine wpList_load_arr rfl 22 (.tmp 2) rfl rfl HA.out HC.out.size Try.underlying22 infoA ?_) | (refine wpList_load_arr rfl 22 (.tmp 5) rfl rfl HAY.out HY.out.size Try.underlying22 infoA ?_))
    go_ret
    refine ⟨?_, HB2.out⟩
    rw [← HBB.out, Bool.true_and]
    exact congrArg (fun b => Ending.returned (Value.bool b)) (BEq.comm)
end Go.Proofs.Ytkghnjgioijgpaa.PartW
