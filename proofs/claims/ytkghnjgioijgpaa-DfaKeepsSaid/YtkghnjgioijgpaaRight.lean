/- Walk of layer 19: Right. -/
import Derived.Test.YtkghnjgioijgpaaEqArr
namespace Go.Proofs.Ytkghnjgioijgpaa.PartW
set_option linter.unusedVariables false
open Go.RowKit Go.Maps Go.Proofs.Ytkghnjgioijgpaa.PartM

set_option maxRecDepth 100000 in
theorem Right_any {C : Array Value} {f : Nat → Nat} (hC : IsA C f) (hf : ∀ b, b < 256 → f b < 256) (n : Int) (w : World) :
    Calls Try.prog 31 #[.agg C, .int .i64 n] w fun e w' => e = .returned (.bool (sameA f (nm (byKey f)) && (n == (rk (byKey f) 256 : Nat)))) ∧ Below w.heap.size w w' := by
  obtain ⟨Z, hZ, hz⟩ := zeroA
  have HZ := Lib.hid hZ; have HC := Lib.hid hC
  have hb0 : Below w.heap.size w (w.alloc (.cells C 22)) := (Below.refl _ w).alloc (Nat.le_refl _) _
  have HB0 := Lib.hid hb0
  have HNO := Lib.hid (Norm_any hC hf (w.alloc (.cells C 22)))
  have HR0 := Lib.hid (Ar.new w C 22)
  clear hZ hC hf hb0
  go_enter Try.func31, Try.ntmps31
  go_wp2_with (refine wpList_load_arr rfl 22 (.tmp 2) rfl rfl HR0.out HC.out.size Try.underlying22 infoA ?_)
  refine HNO.out.mono ?_
  rintro e w1 ⟨Y, rfl, hY, hb1⟩
  have HY := Lib.hid hY
  have HR1 := Lib.hid (HR0.out.below hb1)
  have HB1 := Lib.hid (HB0.out.trans (hb1.mono HB0.out.size))
  have heq := eqArr HC.out hY
  obtain ⟨b, hb⟩ : ∃ b, b = sameA f (nm (byKey f)) := ⟨_, rfl⟩
  rw [← hb] at heq
  have HBB := Lib.hid hb
  clear hY hb1 hb
  have ha := HR1.out.alloc (.cells Y 22)
  have hay := Ar.new w1 Y 22
  have HA := Lib.hid ha; have HAY := Lib.hid hay
  have hb2 := HB1.out.alloc HB1.out.size (.cells Y 22)
  have HB2 := Lib.hid hb2
  clear ha hay hb2
  cases b
  · go_wp2_with (first | (refine wpList_store_arr rfl 22 (.tmp 5) (.tmp 10) rfl rfl rfl (Ar.new w1 Z 22) HZ.out.size HY.out infoA ?_; rw [World.setRow_alloc_new]) | (refine wpList_load_arr rfl 22 (.tmp 2) rfl rfl HA.out HC.out.size Try.underlying22 infoA ?_) | (refine wpList_load_arr rfl 22 (.tmp 5) rfl rfl HAY.out HY.out.size Try.underlying22 infoA ?_))
    go_ret
    exact ⟨by rw [← HBB.out]; rfl, HB2.out⟩
  · go_wp2_with (first | (refine wpList_store_arr rfl 22 (.tmp 5) (.tmp 10) rfl rfl rfl (Ar.new w1 Z 22) HZ.out.size HY.out infoA ?_; rw [World.setRow_alloc_new]) | (refine wpList_load_arr rfl 22 (.tmp 2) rfl rfl HA.out HC.out.size Try.underlying22 infoA ?_) | (refine wpList_load_arr rfl 22 (.tmp 5) rfl rfl HAY.out HY.out.size Try.underlying22 infoA ?_))
    go_ret
    exact ⟨by rw [← HBB.out, Bool.true_and]; rfl, HB2.out⟩
end Go.Proofs.Ytkghnjgioijgpaa.PartW
