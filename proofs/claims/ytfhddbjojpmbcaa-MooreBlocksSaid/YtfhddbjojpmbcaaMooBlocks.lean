/- Walks of MooreBlocks, MooreAfter. -/
import Derived.Test.YtfhddbjojpmbcaaRefRounds
import Derived.Test.YtfhddbjojpmbcaaMooC
namespace Go.Proofs.Ytfhddbjojpmbcaa.DfaW
set_option linter.unusedVariables false
set_option linter.unusedSimpArgs false
open Go.Proofs.Ytfhddbjojpmbcaa.RegionU (Up wpW_taken wpW_takenY wpW_one wpW_two wpW_done1 wpW_done2 wpW_done3 wpW_have wp_region_W)
open Go.RowKit Go.Maps Go.Proofs.Ytfhddbjojpmbcaa.PartM Go.Proofs.Ytfhddbjojpmbcaa.PartW
set_option maxRecDepth 100000 in
set_option maxHeartbeats 8000000 in
theorem MooBlocks_any (HAF : AfterC 9) (HBL : BlocksC 8) (HRO : RoundsC 10) (HKN : KnowsC) {C : Array Value} {m : Mc} (w : World) (h : IsM w.heap.size w C m) :
    Calls Try.prog 3 #[.agg C] w fun e w' => e = .returned (.bool true) ∧ Below w.heap.size w w' := by
  have HX := Lib.hid (Bx.new h)
  have HB0 := Lib.hid (al_o w (.cells C 27))
  clear h
  go_enter Try.func3, Try.ntmps3
  go_wp2_with (refine wpList_load_dfa rfl (.tmp 1) rfl rfl HX.out ?_)
  refine (RightD_any _ HX.out.is).mono ?_
  rintro e w1 ⟨hs, hb1⟩
  have HX1 := Lib.hid (HX.out.below hb1); have HB1 := Lib.hid (HB0.out.trans (hb1.mono HB0.out.size))
  clear hb1 HX HB0
  rcases hs.elim with ⟨rfl, hk⟩ | ⟨rfl, hk⟩
  case inr =>
    have HE := Lib.hid (moo_no hk)
    clear hs hk
    go_wp2_with (refine wpList_load_dfa rfl (.tmp 1) rfl rfl HX1.out ?_)
    refine (HBL w1 HX1.out.is).mono ?_
    rintro e w2 ⟨v2, rfl, ho, hb⟩
    rw [HE.out.2.1] at ho
    obtain ⟨a2, c2, rfl, _, _⟩ := ho.len
    have HX2 := Lib.hid (HX1.out.below hb); have HB2 := Lib.hid (HB1.out.trans (hb.mono HB1.out.size))
    clear ho hb HX1 HB1
    go_wp2_with (refine wpList_load_dfa_g rfl (.tmp 1) rfl rfl HX2.out ?_)
    refine (HAF w2 3 (by decide) HX2.out.is).mono ?_
    rintro e w3 ⟨v3, rfl, ho, hb⟩
    rw [HE.out.1] at ho
    obtain ⟨a3, c3, rfl, _, _⟩ := ho.len
    have HX3 := Lib.hid (HX2.out.below hb); have HB3 := Lib.hid (HB2.out.trans (hb.mono HB2.out.size))
    clear ho hb HX2 HB2
    go_wp2_with (refine wpList_load_dfa_g rfl (.tmp 1) rfl rfl HX3.out ?_)
    refine (HRO w3 HX3.out.is).mono ?_
    rintro e w4 ⟨rfl, hb⟩
    rw [HE.out.2.2]
    have HB4 := Lib.hid (HB3.out.trans (hb.mono HB3.out.size))
    clear hb HX3 HB3
    go_wp2_with fail
    refine (HKN w4).mono ?_
    rintro e w5 ⟨rfl, hb⟩
    have HB5 := Lib.hid (HB4.out.trans (hb.mono HB4.out.size))
    clear hb
    go_wp2_with fail
    go_ret
    exact ⟨rfl, HB5.out⟩
  have HOK := Lib.hid hk
  have HY := Lib.hid (moo_yes hk)
  clear hs hk
  go_wp2_with fail
  have HKM := Lib.hid (show KM w w.heap.size C m w1.drew from ⟨HX1.out.below (Below.refl _ _).drew, HB1.out.drew⟩)
  by_cases hle : m.lb.length ≤ 40
  case neg =>
    have HNO := Lib.hid (show ¬ (Ok m ∧ m.lb.length ≤ 40) from fun x => hle x.2)
    clear hle
    refine wp_region_W (fun i => decide (i < 20)) 20 1 (by kernel_rfl) (by kernel_rfl) (KM.up w w.heap.size C m) HKM.out ?_
    refine wpW_taken (i := 0) rfl (by kernel_rfl) (by kernel_rfl) (by kernel_rfl) (by kernel_rfl) (KM.up w w.heap.size C m) ?_
    apply Exists.intro
    refine ⟨Or.inl ⟨rfl, fun W hW => ?hy⟩, ?_⟩
    case hy =>
      exact does_eq (run_load_dfa (.tmp 1) rfl rfl hW.x)
    simp only [Act.put, List.setIfInBounds_toArray, List.set]
    refine wpW_taken (i := 1) rfl (by kernel_rfl) (by kernel_rfl) (by kernel_rfl) (by kernel_rfl) (KM.up w w.heap.size C m) ?_
    apply Exists.intro
    refine ⟨Or.inl ⟨rfl, fun W hW => ?hy⟩, ?_⟩
    case hy =>
      go_simp
      exact RegionU.does_call ((refRight24_any W 40 (by decide) hW.x.is).mono fun e w' ⟨h, hb⟩ => ⟨h.bool (b := false) ⟨fun x => (by cases x), fun x => absurd x HNO.out⟩, hb⟩)
    simp only [Act.put, List.setIfInBounds_toArray, List.set]
    refine wpW_taken (i := 2) rfl (by kernel_rfl) (by kernel_rfl) (by kernel_rfl) (by kernel_rfl) (KM.up w w.heap.size C m) ?_
    apply Exists.intro
    refine ⟨Or.inl ⟨rfl, fun W hW => ?hy⟩, ?_⟩
    case hy =>
      go_simp
      exact RegionU.does_value rfl
    simp only [Act.put, List.setIfInBounds_toArray, List.set]
    refine wpW_taken (i := 3) rfl (by kernel_rfl) (by kernel_rfl) (by kernel_rfl) (by kernel_rfl) (KM.up w w.heap.size C m) ?_
    apply Exists.intro
    refine ⟨Or.inl ⟨rfl, fun W hW => ?hy⟩, ?_⟩
    case hy =>
      go_simp
      exact RegionU.does_value rfl
    simp only [Act.put, List.setIfInBounds_toArray, List.set]
    refine wpW_taken (i := 4) rfl (by kernel_rfl) (by kernel_rfl) (by kernel_rfl) (by kernel_rfl) (KM.up w w.heap.size C m) ?_
    apply Exists.intro
    refine ⟨Or.inr ⟨rfl, rfl⟩, ?_⟩
    simp only [Act.put, List.setIfInBounds_toArray, List.set]
    refine wpW_taken (i := 5) rfl (by kernel_rfl) (by kernel_rfl) (by kernel_rfl) (by kernel_rfl) (KM.up w w.heap.size C m) ?_
    apply Exists.intro
    refine ⟨Or.inr ⟨rfl, rfl⟩, ?_⟩
    simp only [Act.put, List.setIfInBounds_toArray, List.set]
    refine wpW_taken (i := 6) rfl (by kernel_rfl) (by kernel_rfl) (by kernel_rfl) (by kernel_rfl) (KM.up w w.heap.size C m) ?_
    apply Exists.intro
    refine ⟨Or.inr ⟨rfl, rfl⟩, ?_⟩
    simp only [Act.put, List.setIfInBounds_toArray, List.set]
    refine wpW_taken (i := 7) rfl (by kernel_rfl) (by kernel_rfl) (by kernel_rfl) (by kernel_rfl) (KM.up w w.heap.size C m) ?_
    apply Exists.intro
    refine ⟨Or.inr ⟨rfl, rfl⟩, ?_⟩
    simp only [Act.put, List.setIfInBounds_toArray, List.set]
    refine wpW_taken (i := 8) rfl (by kernel_rfl) (by kernel_rfl) (by kernel_rfl) (by kernel_rfl) (KM.up w w.heap.size C m) ?_
    apply Exists.intro
    refine ⟨Or.inr ⟨rfl, rfl⟩, ?_⟩
    simp only [Act.put, List.setIfInBounds_toArray, List.set]
    refine wpW_taken (i := 9) rfl (by kernel_rfl) (by kernel_rfl) (by kernel_rfl) (by kernel_rfl) (KM.up w w.heap.size C m) ?_
    apply Exists.intro
    refine ⟨Or.inr ⟨rfl, rfl⟩, ?_⟩
    simp only [Act.put, List.setIfInBounds_toArray, List.set]
    refine wpW_taken (i := 10) rfl (by kernel_rfl) (by kernel_rfl) (by kernel_rfl) (by kernel_rfl) (KM.up w w.heap.size C m) ?_
    apply Exists.intro
    refine ⟨Or.inr ⟨rfl, rfl⟩, ?_⟩
    simp only [Act.put, List.setIfInBounds_toArray, List.set]
    refine wpW_taken (i := 11) rfl (by kernel_rfl) (by kernel_rfl) (by kernel_rfl) (by kernel_rfl) (KM.up w w.heap.size C m) ?_
    apply Exists.intro
    refine ⟨Or.inr ⟨rfl, rfl⟩, ?_⟩
    simp only [Act.put, List.setIfInBounds_toArray, List.set]
    refine wpW_taken (i := 12) rfl (by kernel_rfl) (by kernel_rfl) (by kernel_rfl) (by kernel_rfl) (KM.up w w.heap.size C m) ?_
    apply Exists.intro
    refine ⟨Or.inr ⟨rfl, rfl⟩, ?_⟩
    simp only [Act.put, List.setIfInBounds_toArray, List.set]
    refine wpW_taken (i := 13) rfl (by kernel_rfl) (by kernel_rfl) (by kernel_rfl) (by kernel_rfl) (KM.up w w.heap.size C m) ?_
    apply Exists.intro
    refine ⟨Or.inr ⟨rfl, rfl⟩, ?_⟩
    simp only [Act.put, List.setIfInBounds_toArray, List.set]
    refine wpW_taken (i := 14) rfl (by kernel_rfl) (by kernel_rfl) (by kernel_rfl) (by kernel_rfl) (KM.up w w.heap.size C m) ?_
    apply Exists.intro
    refine ⟨Or.inr ⟨rfl, rfl⟩, ?_⟩
    simp only [Act.put, List.setIfInBounds_toArray, List.set]
    refine wpW_taken (i := 15) rfl (by kernel_rfl) (by kernel_rfl) (by kernel_rfl) (by kernel_rfl) (KM.up w w.heap.size C m) ?_
    apply Exists.intro
    refine ⟨Or.inr ⟨rfl, rfl⟩, ?_⟩
    simp only [Act.put, List.setIfInBounds_toArray, List.set]
    refine wpW_taken (i := 16) rfl (by kernel_rfl) (by kernel_rfl) (by kernel_rfl) (by kernel_rfl) (KM.up w w.heap.size C m) ?_
    apply Exists.intro
    refine ⟨Or.inr ⟨rfl, rfl⟩, ?_⟩
    simp only [Act.put, List.setIfInBounds_toArray, List.set]
    refine wpW_taken (i := 17) rfl (by kernel_rfl) (by kernel_rfl) (by kernel_rfl) (by kernel_rfl) (KM.up w w.heap.size C m) ?_
    apply Exists.intro
    refine ⟨Or.inr ⟨rfl, rfl⟩, ?_⟩
    simp only [Act.put, List.setIfInBounds_toArray, List.set]
    refine wpW_taken (i := 18) rfl (by kernel_rfl) (by kernel_rfl) (by kernel_rfl) (by kernel_rfl) (KM.up w w.heap.size C m) ?_
    apply Exists.intro
    refine ⟨Or.inr ⟨rfl, rfl⟩, ?_⟩
    simp only [Act.put, List.setIfInBounds_toArray, List.set]
    refine wpW_taken (i := 19) rfl (by kernel_rfl) (by kernel_rfl) (by kernel_rfl) (by kernel_rfl) (KM.up w w.heap.size C m) ?_
    apply Exists.intro
    refine ⟨Or.inl ⟨rfl, fun W hW => ?hy⟩, ?_⟩
    case hy =>
      go_simp
      exact RegionU.does_value rfl
    simp only [Act.put, List.setIfInBounds_toArray, List.set]
    refine wpW_done1 (i := 20) rfl (by kernel_rfl) (by kernel_rfl) ?_
    intro W hW
    have HW := Lib.hid hW.lo
    clear hW
    go_wp2_with fail
    go_ret
    exact ⟨rfl, HW.out⟩
  have HLE := Lib.hid (show Ok m ∧ m.lb.length ≤ 40 from ⟨HOK.out, hle⟩)
  clear hle
  refine wp_region_W (fun i => decide (i < 20)) 20 1 (by kernel_rfl) (by kernel_rfl) (KM.up w w.heap.size C m) HKM.out ?_
  refine wpW_taken (i := 0) rfl (by kernel_rfl) (by kernel_rfl) (by kernel_rfl) (by kernel_rfl) (KM.up w w.heap.size C m) ?_
  apply Exists.intro
  refine ⟨Or.inl ⟨rfl, fun W hW => ?hy⟩, ?_⟩
  case hy =>
    exact does_eq (run_load_dfa (.tmp 1) rfl rfl hW.x)
  simp only [Act.put, List.setIfInBounds_toArray, List.set]
  refine wpW_taken (i := 1) rfl (by kernel_rfl) (by kernel_rfl) (by kernel_rfl) (by kernel_rfl) (KM.up w w.heap.size C m) ?_
  apply Exists.intro
  refine ⟨Or.inl ⟨rfl, fun W hW => ?hy⟩, ?_⟩
  case hy =>
    go_simp
    exact RegionU.does_call ((refRight24_any W 40 (by decide) hW.x.is).mono fun e w' ⟨h, hb⟩ => ⟨h.true HLE.out, hb⟩)
  simp only [Act.put, List.setIfInBounds_toArray, List.set]
  refine wpW_taken (i := 2) rfl (by kernel_rfl) (by kernel_rfl) (by kernel_rfl) (by kernel_rfl) (KM.up w w.heap.size C m) ?_
  apply Exists.intro
  refine ⟨Or.inl ⟨rfl, fun W hW => ?hy⟩, ?_⟩
  case hy =>
    go_simp
    exact RegionU.does_value rfl
  simp only [Act.put, List.setIfInBounds_toArray, List.set]
  refine wpW_taken (i := 3) rfl (by kernel_rfl) (by kernel_rfl) (by kernel_rfl) (by kernel_rfl) (KM.up w w.heap.size C m) ?_
  apply Exists.intro
  refine ⟨Or.inl ⟨rfl, fun W hW => ?hy⟩, ?_⟩
  case hy =>
    go_simp
    exact RegionU.does_value rfl
  simp only [Act.put, List.setIfInBounds_toArray, List.set]
  refine wpW_taken (i := 4) rfl (by kernel_rfl) (by kernel_rfl) (by kernel_rfl) (by kernel_rfl) (KM.up w w.heap.size C m) ?_
  apply Exists.intro
  refine ⟨Or.inl ⟨rfl, fun W hW => ?hy⟩, ?_⟩
  case hy =>
    exact does_eq (run_load_dfa (.tmp 1) rfl rfl hW.x)
  simp only [Act.put, List.setIfInBounds_toArray, List.set]
  refine wpW_taken (i := 6) rfl (by kernel_rfl) (by kernel_rfl) (by kernel_rfl) (by kernel_rfl) (KM.up w w.heap.size C m) ?_
  apply Exists.intro
  refine ⟨Or.inl ⟨rfl, fun W hW => ?hy⟩, ?_⟩
  case hy =>
    exact does_eq (run_load_dfa (.tmp 1) rfl rfl hW.x)
  simp only [Act.put, List.setIfInBounds_toArray, List.set]
  refine wpW_one (i := 5) (by kernel_rfl) (by kernel_rfl) rfl rfl (LI w.heap.size (blkN m)) (LI.up _ _) (fun W hW => ?hy) ?_
  case hy =>
    go_simp
    exact does_in ((HBL W hW.x.is).mono fun e w' ⟨v, h, ho, hb⟩ => ⟨v, h, owns_base (by rw [← HY.out.2.1]; exact ho) hW.lo.size, hb⟩)
  intro u5
  simp only [Act.put, List.setIfInBounds_toArray, List.set]
  refine wpW_one (i := 7) (by kernel_rfl) (by kernel_rfl) rfl rfl (LI w.heap.size (blkN m)) (LI.up _ _) (fun W hW => ?hy) ?_
  case hy =>
    go_simp
    exact does_in ((refBlocks_any W hW.1.x.is HOK.out).mono fun e w' ⟨v, h, ho, hb⟩ => ⟨v, h, owns_base ho hW.1.lo.size, hb⟩)
  intro u7
  simp only [Act.put, List.setIfInBounds_toArray, List.set]
  refine wpW_taken (i := 8) rfl (by kernel_rfl) (by kernel_rfl) (by kernel_rfl) (by kernel_rfl) (((KM.up w w.heap.size C m).and (LI.up _ _ u5)).and (LI.up _ _ u7)) ?_
  apply Exists.intro
  refine ⟨Or.inl ⟨rfl, fun W hW => ?hy⟩, ?_⟩
  case hy =>
    go_simp
    exact RegionU.does_call ((Same17_any W (Nat.le_refl _) (Nat.le_refl _) (show OI W _ _ _ from hW.1.2).is (show OI W _ _ _ from hW.2).is).mono fun e w' ⟨h, hb⟩ => ⟨h.true rfl, hb.below⟩)
  simp only [Act.put, List.setIfInBounds_toArray, List.set]
  refine wpW_taken (i := 9) rfl (by kernel_rfl) (by kernel_rfl) (by kernel_rfl) (by kernel_rfl) (((KM.up w w.heap.size C m).and (LI.up _ _ u5)).and (LI.up _ _ u7)) ?_
  apply Exists.intro
  refine ⟨Or.inl ⟨rfl, fun W hW => ?hy⟩, ?_⟩
  case hy =>
    go_simp
    exact RegionU.does_value rfl
  simp only [Act.put, List.setIfInBounds_toArray, List.set]
  refine wpW_taken (i := 10) rfl (by kernel_rfl) (by kernel_rfl) (by kernel_rfl) (by kernel_rfl) (((KM.up w w.heap.size C m).and (LI.up _ _ u5)).and (LI.up _ _ u7)) ?_
  apply Exists.intro
  refine ⟨Or.inl ⟨rfl, fun W hW => ?hy⟩, ?_⟩
  case hy =>
    exact does_eq (run_load_dfa (.tmp 1) rfl rfl hW.1.1.x)
  simp only [Act.put, List.setIfInBounds_toArray, List.set]
  refine wpW_taken (i := 11) rfl (by kernel_rfl) (by kernel_rfl) (by kernel_rfl) (by kernel_rfl) (((KM.up w w.heap.size C m).and (LI.up _ _ u5)).and (LI.up _ _ u7)) ?_
  apply Exists.intro
  refine ⟨Or.inl ⟨rfl, fun W hW => ?hy⟩, ?_⟩
  case hy =>
    go_simp
    exact RegionU.does_call ((HRO W hW.1.1.x.is).mono fun e w' ⟨h, hb⟩ => ⟨by rw [h, HY.out.2.2], hb⟩)
  simp only [Act.put, List.setIfInBounds_toArray, List.set]
  refine wpW_taken (i := 12) rfl (by kernel_rfl) (by kernel_rfl) (by kernel_rfl) (by kernel_rfl) (((KM.up w w.heap.size C m).and (LI.up _ _ u5)).and (LI.up _ _ u7)) ?_
  apply Exists.intro
  refine ⟨Or.inl ⟨rfl, fun W hW => ?hy⟩, ?_⟩
  case hy =>
    exact does_eq (run_load_dfa (.tmp 1) rfl rfl hW.1.1.x)
  simp only [Act.put, List.setIfInBounds_toArray, List.set]
  refine wpW_taken (i := 13) rfl (by kernel_rfl) (by kernel_rfl) (by kernel_rfl) (by kernel_rfl) (((KM.up w w.heap.size C m).and (LI.up _ _ u5)).and (LI.up _ _ u7)) ?_
  apply Exists.intro
  refine ⟨Or.inl ⟨rfl, fun W hW => ?hy⟩, ?_⟩
  case hy =>
    go_simp
    exact RegionU.does_call ((refRounds_any W hW.1.1.x.is HOK.out).mono fun e w' ⟨h, hb⟩ => ⟨h, hb⟩)
  simp only [Act.put, List.setIfInBounds_toArray, List.set]
  refine wpW_taken (i := 14) rfl (by kernel_rfl) (by kernel_rfl) (by kernel_rfl) (by kernel_rfl) (((KM.up w w.heap.size C m).and (LI.up _ _ u5)).and (LI.up _ _ u7)) ?_
  apply Exists.intro
  refine ⟨Or.inl ⟨rfl, fun W hW => ?hy⟩, ?_⟩
  case hy =>
    go_simp
    exact RegionU.does_value rfl
  simp only [Act.put, List.setIfInBounds_toArray, List.set]
  refine wpW_taken (i := 15) rfl (by kernel_rfl) (by kernel_rfl) (by kernel_rfl) (by kernel_rfl) (((KM.up w w.heap.size C m).and (LI.up _ _ u5)).and (LI.up _ _ u7)) ?_
  apply Exists.intro
  refine ⟨Or.inl ⟨rfl, fun W hW => ?hy⟩, ?_⟩
  case hy =>
    go_simp
    exact RegionU.does_value rfl
  simp only [Act.put, List.setIfInBounds_toArray, List.set]
  refine wpW_taken (i := 16) rfl (by kernel_rfl) (by kernel_rfl) (by kernel_rfl) (by kernel_rfl) (((KM.up w w.heap.size C m).and (LI.up _ _ u5)).and (LI.up _ _ u7)) ?_
  apply Exists.intro
  refine ⟨Or.inl ⟨rfl, fun W hW => ?hy⟩, ?_⟩
  case hy =>
    go_simp
    exact RegionU.does_value rfl
  simp only [Act.put, List.setIfInBounds_toArray, List.set]
  refine wpW_taken (i := 17) rfl (by kernel_rfl) (by kernel_rfl) (by kernel_rfl) (by kernel_rfl) (((KM.up w w.heap.size C m).and (LI.up _ _ u5)).and (LI.up _ _ u7)) ?_
  apply Exists.intro
  refine ⟨Or.inl ⟨rfl, fun W hW => ?hy⟩, ?_⟩
  case hy =>
    go_simp
    exact RegionU.does_call ((HKN W).mono fun e w' ⟨h, hb⟩ => ⟨h, hb⟩)
  simp only [Act.put, List.setIfInBounds_toArray, List.set]
  refine wpW_taken (i := 18) rfl (by kernel_rfl) (by kernel_rfl) (by kernel_rfl) (by kernel_rfl) (((KM.up w w.heap.size C m).and (LI.up _ _ u5)).and (LI.up _ _ u7)) ?_
  apply Exists.intro
  refine ⟨Or.inl ⟨rfl, fun W hW => ?hy⟩, ?_⟩
  case hy =>
    go_simp
    exact RegionU.does_value rfl
  simp only [Act.put, List.setIfInBounds_toArray, List.set]
  refine wpW_taken (i := 19) rfl (by kernel_rfl) (by kernel_rfl) (by kernel_rfl) (by kernel_rfl) (((KM.up w w.heap.size C m).and (LI.up _ _ u5)).and (LI.up _ _ u7)) ?_
  apply Exists.intro
  refine ⟨Or.inl ⟨rfl, fun W hW => ?hy⟩, ?_⟩
  case hy =>
    go_simp
    exact RegionU.does_value rfl
  simp only [Act.put, List.setIfInBounds_toArray, List.set]
  refine wpW_done1 (i := 20) rfl (by kernel_rfl) (by kernel_rfl) ?_
  intro W hW
  have HW := Lib.hid hW.1.1.lo
  clear hW
  go_wp2_with fail
  go_ret
  exact ⟨rfl, HW.out⟩
set_option maxRecDepth 100000 in
set_option maxHeartbeats 8000000 in
theorem MooAfter_any (HAF : AfterC 9) (HKN : KnowsC) {C : Array Value} {m : Mc} (w : World) (k : Int) (hk : (Lit.int .i64 k).wf = true) (h : IsM w.heap.size w C m) :
    Calls Try.prog 4 #[.agg C, .int .i64 k] w fun e w' => e = .returned (.bool true) ∧ Below w.heap.size w w' := by
  have HX := Lib.hid (Bx.new h)
  have HB0 := Lib.hid (al_o w (.cells C 27))
  have HWF := Lib.hid hk; have HK63 := Lib.hid (of_wf hk).2
  clear h hk
  go_enter Try.func4, Try.ntmps4
  go_wp2_with (refine wpList_load_dfa rfl (.tmp 2) rfl rfl HX.out ?_)
  refine (refRight24_any _ 40 (by decide) HX.out.is).mono ?_
  rintro e w1 ⟨hs, hb1⟩
  have HX1 := Lib.hid (HX.out.below hb1); have HB1 := Lib.hid (HB0.out.trans (hb1.mono HB0.out.size))
  clear hb1 HX HB0
  rcases hs.elim with ⟨rfl, hk⟩ | ⟨rfl, hk⟩
  case inr =>
    clear hs hk
    go_wp2_with fail
    refine (HKN _).mono ?_
    rintro e w2 ⟨rfl, hb2⟩
    have HB2 := Lib.hid (HB1.out.trans (hb2.mono HB1.out.size))
    clear hb2
    go_wp2_with fail
    go_ret
    exact ⟨rfl, HB2.out⟩
  have HOK := Lib.hid hk.1
  have HY := Lib.hid (moo_yes hk.1)
  clear hs hk
  by_cases hle : k > 100
  · have t0 : decide (k > 100) = true := by simpa using hle
    clear hle
    go_wp2_with fail
    refine (HKN _).mono ?_
    rintro e w2 ⟨rfl, hb2⟩
    have HB2 := Lib.hid (HB1.out.trans (hb2.mono HB1.out.size))
    clear hb2
    go_wp2_with fail
    go_ret
    exact ⟨rfl, HB2.out⟩
  have t0 : decide (k > 100) = false := by simpa using hle
  clear hle
  go_wp2_with fail
  clear t0
  have HKM := Lib.hid (show KM w w.heap.size C m w1.drew from ⟨HX1.out.below (Below.refl _ _).drew, HB1.out.drew⟩)
  refine wp_region_W (fun i => decide (i < 10)) 10 1 (by kernel_rfl) (by kernel_rfl) (KM.up w w.heap.size C m) HKM.out ?_
  refine wpW_taken (i := 0) rfl (by kernel_rfl) (by kernel_rfl) (by kernel_rfl) (by kernel_rfl) (KM.up w w.heap.size C m) ?_
  apply Exists.intro
  refine ⟨Or.inl ⟨rfl, fun W hW => ?hy⟩, ?_⟩
  case hy =>
    exact does_eq (run_load_dfa (.tmp 2) rfl rfl hW.x)
  simp only [Act.put, List.setIfInBounds_toArray, List.set]
  refine wpW_taken (i := 1) rfl (by kernel_rfl) (by kernel_rfl) (by kernel_rfl) (by kernel_rfl) (KM.up w w.heap.size C m) ?_
  apply Exists.intro
  refine ⟨Or.inl ⟨rfl, fun W hW => ?hy⟩, ?_⟩
  case hy =>
    go_simp
    exact RegionU.does_value rfl
  simp only [Act.put, List.setIfInBounds_toArray, List.set]
  refine wpW_taken (i := 3) rfl (by kernel_rfl) (by kernel_rfl) (by kernel_rfl) (by kernel_rfl) (KM.up w w.heap.size C m) ?_
  apply Exists.intro
  refine ⟨Or.inl ⟨rfl, fun W hW => ?hy⟩, ?_⟩
  case hy =>
    exact does_eq (run_load_dfa (.tmp 2) rfl rfl hW.x)
  simp only [Act.put, List.setIfInBounds_toArray, List.set]
  refine wpW_taken (i := 4) rfl (by kernel_rfl) (by kernel_rfl) (by kernel_rfl) (by kernel_rfl) (KM.up w w.heap.size C m) ?_
  apply Exists.intro
  refine ⟨Or.inl ⟨rfl, fun W hW => ?hy⟩, ?_⟩
  case hy =>
    go_simp
    exact RegionU.does_value rfl
  simp only [Act.put, List.setIfInBounds_toArray, List.set]
  refine wpW_one (i := 2) (by kernel_rfl) (by kernel_rfl) rfl rfl (LI w.heap.size (aftN m k.toNat)) (LI.up _ _) (fun W hW => ?hy) ?_
  case hy =>
    go_simp
    exact does_in ((HAF W k HWF.out hW.x.is).mono fun e w' ⟨v, h, ho, hb⟩ => ⟨v, h, owns_base (by rw [← HY.out.1]; exact ho) hW.lo.size, hb⟩)
  intro u2
  simp only [Act.put, List.setIfInBounds_toArray, List.set]
  refine wpW_one (i := 5) (by kernel_rfl) (by kernel_rfl) rfl rfl (LI w.heap.size (aftN m k.toNat)) (LI.up _ _) (fun W hW => ?hy) ?_
  case hy =>
    go_simp
    exact does_in ((refAfter_any W k HK63.out hW.1.x.is HOK.out).mono fun e w' ⟨v, h, ho, hb⟩ => ⟨v, h, owns_base ho hW.1.lo.size, hb⟩)
  intro u5
  simp only [Act.put, List.setIfInBounds_toArray, List.set]
  refine wpW_taken (i := 6) rfl (by kernel_rfl) (by kernel_rfl) (by kernel_rfl) (by kernel_rfl) (((KM.up w w.heap.size C m).and (LI.up _ _ u2)).and (LI.up _ _ u5)) ?_
  apply Exists.intro
  refine ⟨Or.inl ⟨rfl, fun W hW => ?hy⟩, ?_⟩
  case hy =>
    go_simp
    exact RegionU.does_call ((Same17_any W (Nat.le_refl _) (Nat.le_refl _) (show OI W _ _ _ from hW.1.2).is (show OI W _ _ _ from hW.2).is).mono fun e w' ⟨h, hb⟩ => ⟨h.true rfl, hb.below⟩)
  simp only [Act.put, List.setIfInBounds_toArray, List.set]
  refine wpW_taken (i := 7) rfl (by kernel_rfl) (by kernel_rfl) (by kernel_rfl) (by kernel_rfl) (((KM.up w w.heap.size C m).and (LI.up _ _ u2)).and (LI.up _ _ u5)) ?_
  apply Exists.intro
  refine ⟨Or.inl ⟨rfl, fun W hW => ?hy⟩, ?_⟩
  case hy =>
    go_simp
    exact RegionU.does_value rfl
  simp only [Act.put, List.setIfInBounds_toArray, List.set]
  refine wpW_taken (i := 8) rfl (by kernel_rfl) (by kernel_rfl) (by kernel_rfl) (by kernel_rfl) (((KM.up w w.heap.size C m).and (LI.up _ _ u2)).and (LI.up _ _ u5)) ?_
  apply Exists.intro
  refine ⟨Or.inl ⟨rfl, fun W hW => ?hy⟩, ?_⟩
  case hy =>
    go_simp
    exact RegionU.does_call ((HKN W).mono fun e w' ⟨h, hb⟩ => ⟨h, hb⟩)
  simp only [Act.put, List.setIfInBounds_toArray, List.set]
  refine wpW_taken (i := 9) rfl (by kernel_rfl) (by kernel_rfl) (by kernel_rfl) (by kernel_rfl) (((KM.up w w.heap.size C m).and (LI.up _ _ u2)).and (LI.up _ _ u5)) ?_
  apply Exists.intro
  refine ⟨Or.inl ⟨rfl, fun W hW => ?hy⟩, ?_⟩
  case hy =>
    go_simp
    exact RegionU.does_value rfl
  simp only [Act.put, List.setIfInBounds_toArray, List.set]
  refine wpW_done1 (i := 10) rfl (by kernel_rfl) (by kernel_rfl) ?_
  intro W hW
  have HW := Lib.hid hW.1.1.lo
  clear hW
  go_wp2_with fail
  go_ret
  exact ⟨rfl, HW.out⟩
end Go.Proofs.Ytfhddbjojpmbcaa.DfaW
