/- Walk of MooreRounds. -/
import Derived.Test.YtfhddbjojpmbcaaRefRounds
import Derived.Test.YtfhddbjojpmbcaaMooC
namespace Go.Proofs.Ytfhddbjojpmbcaa.DfaW
set_option linter.unusedVariables false
set_option linter.unusedSimpArgs false
open Go.Proofs.Ytfhddbjojpmbcaa.RegionU (Up wpW_taken wpW_takenY wpW_one wpW_two wpW_done1 wpW_done2 wpW_done3 wpW_have wp_region_W)
open Go.RowKit Go.Maps Go.Proofs.Ytfhddbjojpmbcaa.PartM Go.Proofs.Ytfhddbjojpmbcaa.PartW
set_option maxRecDepth 100000 in
set_option maxHeartbeats 8000000 in
theorem MooRounds_any (HAF : AfterC 9) (HBL : BlocksC 8) (HRO : RoundsC 10) (HFI : FinerC 17) (HKN : KnowsC) {C : Array Value} {m : Mc} (w : World) (q : Nat) (hq : q < 256) (h : IsM w.heap.size w C m) :
    Calls Try.prog 5 #[.agg C, .int .u8 q] w fun e w' => e = .returned (.bool true) ∧ Below w.heap.size w w' := by
  have HX := Lib.hid (Bx.new h)
  have HB0 := Lib.hid (al_o w (.cells C 27))
  obtain ⟨a1, a2, a3, c1, c2, c3, k1, k2, k3⟩ := h.slices
  have HQ := Lib.hid hq
  have hqi : (q : Int) < 256 := by omega
  obtain ⟨n, hn⟩ : ∃ n, n = m.lb.length := ⟨_, rfl⟩
  rw [← hn] at k2
  have HK2 := Lib.hid k2; have HN := Lib.hid hn
  clear h k1 k2 k3 hn hq
  go_enter Try.func5, Try.ntmps5
  go_wp2_with (refine wpList_load_dfa rfl (.tmp 2) rfl rfl HX.out ?_)
  refine (refRight24_any _ 200 (by decide) HX.out.is).mono ?_
  rintro e w1 ⟨hs, hb1⟩
  have HX1 := Lib.hid (HX.out.below hb1); have HB1 := Lib.hid (HB0.out.trans (hb1.mono HB0.out.size))
  clear hb1 HX HB0
  rcases hs.elim with ⟨rfl, hk⟩ | ⟨rfl, hk⟩
  case inr =>
    clear hs hk
    go_wp2_with fail
    refine (HKN _).mono ?_
    rintro e w2 ⟨rfl, hb2⟩
    have HB2 := Lib.hid (HB1.out.trans (hb2.mono HB1.out.size))
    clear hb2
    go_wp2_with fail
    go_ret
    exact ⟨rfl, HB2.out⟩
  have HOK := Lib.hid hk.1
  have HY := Lib.hid (moo_yes hk.1)
  have hn2 : n ≤ 200 := by rw [HN.out]; exact hk.2
  have HN2 := Lib.hid hn2
  have hni : (n : Int) ≤ 200 := by omega
  clear hs hk hn2
  go_wp2_with (refine wpList_load_dfa rfl (.tmp 2) rfl rfl HX1.out ?_)
  refine (HRO w1 HX1.out.is).mono ?_
  rintro e w2 ⟨rfl, hb⟩
  rw [HY.out.2.2]
  have hsp := rndN_spec HOK.out
  obtain ⟨r, hr⟩ : ∃ r, r = rndN m := ⟨_, rfl⟩
  rw [← hr] at hsp ⊢
  have hrn : r < n := by rw [HN.out]; exact hsp.2.2
  have HRN := Lib.hid hrn
  have HE1 := Lib.hid ((still_iff HOK.out).2 hsp.1)
  have HE2 := Lib.hid (show ∀ j, r ≤ j → aftN m j = blkN m from fun j hj => (aftN_still HOK.out hsp.1 hj).trans ((still_iff HOK.out).2 hsp.1))
  have HE3 := Lib.hid (show ∀ j, j < r → aftN m j ≠ blkN m from fun j hj e => hsp.2.1 j hj ((still_iff HOK.out).1 e))
  have HX2 := Lib.hid (HX1.out.below hb); have HB2 := Lib.hid (HB1.out.trans (hb.mono HB1.out.size))
  have hri : (r : Int) ≤ 200 := by omega
  clear hb HX1 HB1 hsp hr
  go_wp2_with (refine wpList_load_dfa rfl (.tmp 2) rfl rfl HX2.out ?_)
  refine (HBL w2 HX2.out.is).mono ?_
  rintro e w3 ⟨vb, rfl, ho, hb⟩
  rw [HY.out.2.1] at ho
  obtain ⟨ab, cb, rfl, _, _⟩ := ho.len
  rw [show (blkN m).length = n from by rw [HN.out]; exact aftN_len _ _] at ho ⊢
  have HBI := Lib.hid (fun W (hW : Below w3.heap.size w3 W) => (ho.is.below hW).up hW.size)
  have HX3 := Lib.hid (HX2.out.below hb); have HB3 := Lib.hid (HB2.out.trans (hb.mono HB2.out.size))
  clear hb HX2 HB2 ho
  have y2 := (HX3.out.lbv HK2.out).1
  have t0 : decide ((r : Int) < 0) = false := by simp
  have t1 : decide ((n : Int) ≤ (r : Int)) = false := by simp; omega
  have t1n : decide (n ≤ r) = false := by simp; omega
  go_wp2_with (refine wpList_load_dfa_g rfl (.tmp 2) rfl rfl HX3.out ?_)
  clear t0 t1 t1n y2
  refine (HAF w3 (r : Int) (wf_of (by omega) (by omega)) HX3.out.is).mono ?_
  rintro e w4 ⟨v4, rfl, ho, hb⟩
  rw [HY.out.1, Int.toNat_natCast, HE1.out] at ho
  obtain ⟨a4, c4, rfl, _, _⟩ := ho.len
  have HX4 := Lib.hid (HX3.out.below hb); have HB4 := Lib.hid hb; have HO4 := Lib.hid ho.is
  clear ho hb HX3
  go_wp2_with fail
  refine (Same17_any _ (Nat.le_refl _) (Nat.le_refl _) HO4.out (HBI.out _ HB4.out)).mono ?_
  rintro e w5 ⟨hs, hd⟩
  obtain rfl := hs.true rfl
  have HX5 := Lib.hid (HX4.out.below (hd.below (B := _))); have HB5 := Lib.hid (HB4.out.trans (hd.below (B := w3.heap.size)))
  clear hs hd HX4 HB4 HO4
  have hwr : IntKind.i64.wrap (q : Int) = (q : Int) := by rw [IntKind.wrap_i64]; omega
  go_wp2_with (refine wpList_load_dfa_g rfl (.tmp 2) rfl rfl HX5.out ?_)
  refine (HAF w5 ((r : Int) + (q : Int)) (wf_of (by omega) (by omega)) HX5.out.is).mono ?_
  rintro e w6 ⟨v6, rfl, ho, hb⟩
  rw [HY.out.1, show ((r : Int) + (q : Int)).toNat = r + q by omega, HE2.out _ (by omega)] at ho
  obtain ⟨a6, c6, rfl, _, _⟩ := ho.len
  have HX6 := Lib.hid (HX5.out.below hb); have HB6 := Lib.hid (HB5.out.trans (hb.mono HB5.out.size)); have HO6 := Lib.hid ho.is
  clear ho hb HX5 HB5
  go_wp2_with fail
  refine (Same17_any _ (Nat.le_refl _) (Nat.le_refl _) HO6.out (HBI.out _ HB6.out)).mono ?_
  rintro e w7 ⟨hs, hd⟩
  obtain rfl := hs.true rfl
  have HX7 := Lib.hid (HX6.out.below (hd.below (B := _))); have HB7 := Lib.hid (HB6.out.trans (hd.below (B := w3.heap.size)))
  clear hs hd HX6 HB6 HO6
  go_wp2_with fail
  have HKM := Lib.hid (show KM w3 w.heap.size C m w7.drew from ⟨HX7.out.below (Below.refl _ _).drew, HB7.out.drew⟩)
  have HFP := Lib.hid (show FinerP (aftN m (r + 1)) (aftN m (r / 2)) from aftN_finer (by omega))
  have HL2 := Lib.hid (show m.lb.length ≤ 1048576 by have := HN.out; have := HN2.out; omega)
  have HW1 := Lib.hid (show IntKind.i64.wrap ((r : Int) + 1) = (r : Int) + 1 by rw [IntKind.wrap_i64]; omega)
  have HW2 := Lib.hid (show IntKind.i64.wrap ((r : Int) - 1) = (r : Int) - 1 by rw [IntKind.wrap_i64]; omega)
  have HQ1 := Lib.hid (show IntKind.i64.wrap ((r : Int).tdiv 2) = (r : Int) / 2 by rw [Int.tdiv_eq_ediv_of_nonneg (by omega), IntKind.wrap_i64]; omega)
  have HQ2 := Lib.hid (show IntKind.i64.wrap ((r : Int) / 2) = (r : Int) / 2 by rw [IntKind.wrap_i64]; omega)
  clear hwr
  by_cases h0 : r = 0
  case pos =>
    have t0 : ((r : Int) == 0) = true := by simp [h0]
    clear h0
    refine wp_region_W (fun i => decide (i < 25)) 25 1 (by kernel_rfl) (by kernel_rfl) (KM.up w3 w.heap.size C m) HKM.out ?_
    refine wpW_taken (i := 0) rfl (by kernel_rfl) (by kernel_rfl) (by kernel_rfl) (by kernel_rfl) (KM.up w3 w.heap.size C m) ?_
    apply Exists.intro
    refine ⟨Or.inl ⟨rfl, fun W hW => ?hy⟩, ?_⟩
    case hy =>
      go_simp
      exact RegionU.does_value rfl
    simp only [Act.put, List.setIfInBounds_toArray, List.set]
    refine wpW_taken (i := 1) rfl (by kernel_rfl) (by kernel_rfl) (by kernel_rfl) (by kernel_rfl) (KM.up w3 w.heap.size C m) ?_
    apply Exists.intro
    refine ⟨Or.inl ⟨rfl, fun W hW => ?hy⟩, ?_⟩
    case hy =>
      go_simp
      exact RegionU.does_value rfl
    simp only [Act.put, List.setIfInBounds_toArray, List.set]
    refine wpW_taken (i := 2) rfl (by kernel_rfl) (by kernel_rfl) (by kernel_rfl) (by kernel_rfl) (KM.up w3 w.heap.size C m) ?_
    apply Exists.intro
    refine ⟨Or.inl ⟨rfl, fun W hW => ?hy⟩, ?_⟩
    case hy =>
      go_simp
      exact RegionU.does_value rfl
    simp only [Act.put, List.setIfInBounds_toArray, List.set]
    refine wpW_taken (i := 3) rfl (by kernel_rfl) (by kernel_rfl) (by kernel_rfl) (by kernel_rfl) (KM.up w3 w.heap.size C m) ?_
    apply Exists.intro
    refine ⟨Or.inr ⟨rfl, rfl⟩, ?_⟩
    simp only [Act.put, List.setIfInBounds_toArray, List.set]
    refine wpW_taken (i := 4) rfl (by kernel_rfl) (by kernel_rfl) (by kernel_rfl) (by kernel_rfl) (KM.up w3 w.heap.size C m) ?_
    apply Exists.intro
    refine ⟨Or.inr ⟨rfl, rfl⟩, ?_⟩
    simp only [Act.put, List.setIfInBounds_toArray, List.set]
    refine wpW_taken (i := 5) rfl (by kernel_rfl) (by kernel_rfl) (by kernel_rfl) (by kernel_rfl) (KM.up w3 w.heap.size C m) ?_
    apply Exists.intro
    refine ⟨Or.inr ⟨rfl, rfl⟩, ?_⟩
    simp only [Act.put, List.setIfInBounds_toArray, List.set]
    refine wpW_taken (i := 6) rfl (by kernel_rfl) (by kernel_rfl) (by kernel_rfl) (by kernel_rfl) (KM.up w3 w.heap.size C m) ?_
    apply Exists.intro
    refine ⟨Or.inr ⟨rfl, rfl⟩, ?_⟩
    simp only [Act.put, List.setIfInBounds_toArray, List.set]
    refine wpW_taken (i := 7) rfl (by kernel_rfl) (by kernel_rfl) (by kernel_rfl) (by kernel_rfl) (KM.up w3 w.heap.size C m) ?_
    apply Exists.intro
    refine ⟨Or.inr ⟨rfl, rfl⟩, ?_⟩
    simp only [Act.put, List.setIfInBounds_toArray, List.set]
    refine wpW_taken (i := 8) rfl (by kernel_rfl) (by kernel_rfl) (by kernel_rfl) (by kernel_rfl) (KM.up w3 w.heap.size C m) ?_
    apply Exists.intro
    refine ⟨Or.inr ⟨rfl, rfl⟩, ?_⟩
    simp only [Act.put, List.setIfInBounds_toArray, List.set]
    refine wpW_taken (i := 9) rfl (by kernel_rfl) (by kernel_rfl) (by kernel_rfl) (by kernel_rfl) (KM.up w3 w.heap.size C m) ?_
    apply Exists.intro
    refine ⟨Or.inr ⟨rfl, rfl⟩, ?_⟩
    simp only [Act.put, List.setIfInBounds_toArray, List.set]
    refine wpW_taken (i := 10) rfl (by kernel_rfl) (by kernel_rfl) (by kernel_rfl) (by kernel_rfl) (KM.up w3 w.heap.size C m) ?_
    apply Exists.intro
    refine ⟨Or.inl ⟨rfl, fun W hW => ?hy⟩, ?_⟩
    case hy =>
      go_simp
      exact RegionU.does_value rfl
    simp only [Act.put, List.setIfInBounds_toArray, List.set]
    refine wpW_taken (i := 11) rfl (by kernel_rfl) (by kernel_rfl) (by kernel_rfl) (by kernel_rfl) (KM.up w3 w.heap.size C m) ?_
    apply Exists.intro
    refine ⟨Or.inl ⟨rfl, fun W hW => ?hy⟩, ?_⟩
    case hy =>
      go_simp
      exact RegionU.does_value rfl
    simp only [Act.put, List.setIfInBounds_toArray, List.set]
    refine wpW_taken (i := 12) rfl (by kernel_rfl) (by kernel_rfl) (by kernel_rfl) (by kernel_rfl) (KM.up w3 w.heap.size C m) ?_
    apply Exists.intro
    refine ⟨Or.inl ⟨rfl, fun W hW => ?hy⟩, ?_⟩
    case hy =>
      exact does_eq (run_load_dfa (.tmp 2) rfl rfl hW.x)
    simp only [Act.put, List.setIfInBounds_toArray, List.set]
    refine wpW_taken (i := 13) rfl (by kernel_rfl) (by kernel_rfl) (by kernel_rfl) (by kernel_rfl) (KM.up w3 w.heap.size C m) ?_
    apply Exists.intro
    refine ⟨Or.inl ⟨rfl, fun W hW => ?hy⟩, ?_⟩
    case hy =>
      go_simp
      exact RegionU.does_value rfl
    simp only [Act.put, List.setIfInBounds_toArray, List.set]
    refine wpW_taken (i := 14) rfl (by kernel_rfl) (by kernel_rfl) (by kernel_rfl) (by kernel_rfl) (KM.up w3 w.heap.size C m) ?_
    apply Exists.intro
    refine ⟨Or.inl ⟨rfl, fun W hW => ?hy⟩, ?_⟩
    case hy =>
      have hwp := HW1.out
      go_simp
      exact RegionU.does_value rfl
    simp only [Act.put, List.setIfInBounds_toArray, List.set]
    refine wpW_taken (i := 16) rfl (by kernel_rfl) (by kernel_rfl) (by kernel_rfl) (by kernel_rfl) (KM.up w3 w.heap.size C m) ?_
    apply Exists.intro
    refine ⟨Or.inl ⟨rfl, fun W hW => ?hy⟩, ?_⟩
    case hy =>
      exact does_eq (run_load_dfa (.tmp 2) rfl rfl hW.x)
    simp only [Act.put, List.setIfInBounds_toArray, List.set]
    refine wpW_taken (i := 17) rfl (by kernel_rfl) (by kernel_rfl) (by kernel_rfl) (by kernel_rfl) (KM.up w3 w.heap.size C m) ?_
    apply Exists.intro
    refine ⟨Or.inl ⟨rfl, fun W hW => ?hy⟩, ?_⟩
    case hy =>
      go_simp
      exact RegionU.does_value rfl
    simp only [Act.put, List.setIfInBounds_toArray, List.set]
    refine wpW_taken (i := 18) rfl (by kernel_rfl) (by kernel_rfl) (by kernel_rfl) (by kernel_rfl) (KM.up w3 w.heap.size C m) ?_
    apply Exists.intro
    refine ⟨Or.inl ⟨rfl, fun W hW => ?hy⟩, ?_⟩
    case hy =>
      have hq1 := HQ1.out
      have hq2 := HQ2.out
      go_simp
      exact RegionU.does_value rfl
    simp only [Act.put, List.setIfInBounds_toArray, List.set]
    refine wpW_one (i := 15) (by kernel_rfl) (by kernel_rfl) rfl rfl (LI w3.heap.size (aftN m (r + 1))) (LI.up _ _) (fun W hW => ?hy) ?_
    case hy =>
      go_simp
      exact does_in ((HAF W ((r : Int) + 1) (wf_of (by omega) (by omega)) hW.x.is).mono fun e w' ⟨v, h, ho, hb⟩ => ⟨v, h, owns_base (by have := ho; rw [HY.out.1, show ((r : Int) + 1 : Int).toNat = r + 1 by omega] at this; exact this) hW.lo.size, hb⟩)
    intro u15
    simp only [Act.put, List.setIfInBounds_toArray, List.set]
    refine wpW_one (i := 19) (by kernel_rfl) (by kernel_rfl) rfl rfl (LI w3.heap.size (aftN m (r / 2))) (LI.up _ _) (fun W hW => ?hy) ?_
    case hy =>
      go_simp
      exact does_in ((HAF W ((r : Int) / 2) (wf_of (by omega) (by omega)) hW.1.x.is).mono fun e w' ⟨v, h, ho, hb⟩ => ⟨v, h, owns_base (by have := ho; rw [HY.out.1, show ((r : Int) / 2 : Int).toNat = r / 2 by omega] at this; exact this) hW.1.lo.size, hb⟩)
    intro u19
    simp only [Act.put, List.setIfInBounds_toArray, List.set]
    refine wpW_taken (i := 20) rfl (by kernel_rfl) (by kernel_rfl) (by kernel_rfl) (by kernel_rfl) (((KM.up w3 w.heap.size C m).and (LI.up _ _ u15)).and (LI.up _ _ u19)) ?_
    apply Exists.intro
    refine ⟨Or.inl ⟨rfl, fun W hW => ?hy⟩, ?_⟩
    case hy =>
      go_simp
      exact RegionU.does_call ((HFI W (show OI W _ _ _ from hW.1.2).is (show OI W _ _ _ from hW.2).is (aftN_64 _ _ HL2.out) (aftN_64 _ _ HL2.out) (by rw [aftN_len]; exact HL2.out)).mono fun e w' ⟨h, hb⟩ => ⟨h.true HFP.out, hb⟩)
    simp only [Act.put, List.setIfInBounds_toArray, List.set]
    refine wpW_taken (i := 21) rfl (by kernel_rfl) (by kernel_rfl) (by kernel_rfl) (by kernel_rfl) (((KM.up w3 w.heap.size C m).and (LI.up _ _ u15)).and (LI.up _ _ u19)) ?_
    apply Exists.intro
    refine ⟨Or.inl ⟨rfl, fun W hW => ?hy⟩, ?_⟩
    case hy =>
      go_simp
      exact RegionU.does_value rfl
    simp only [Act.put, List.setIfInBounds_toArray, List.set]
    refine wpW_taken (i := 22) rfl (by kernel_rfl) (by kernel_rfl) (by kernel_rfl) (by kernel_rfl) (((KM.up w3 w.heap.size C m).and (LI.up _ _ u15)).and (LI.up _ _ u19)) ?_
    apply Exists.intro
    refine ⟨Or.inl ⟨rfl, fun W hW => ?hy⟩, ?_⟩
    case hy =>
      go_simp
      exact RegionU.does_value rfl
    simp only [Act.put, List.setIfInBounds_toArray, List.set]
    refine wpW_taken (i := 23) rfl (by kernel_rfl) (by kernel_rfl) (by kernel_rfl) (by kernel_rfl) (((KM.up w3 w.heap.size C m).and (LI.up _ _ u15)).and (LI.up _ _ u19)) ?_
    apply Exists.intro
    refine ⟨Or.inl ⟨rfl, fun W hW => ?hy⟩, ?_⟩
    case hy =>
      go_simp
      exact RegionU.does_call ((HKN W).mono fun e w' ⟨h, hb⟩ => ⟨h, hb⟩)
    simp only [Act.put, List.setIfInBounds_toArray, List.set]
    refine wpW_taken (i := 24) rfl (by kernel_rfl) (by kernel_rfl) (by kernel_rfl) (by kernel_rfl) (((KM.up w3 w.heap.size C m).and (LI.up _ _ u15)).and (LI.up _ _ u19)) ?_
    apply Exists.intro
    refine ⟨Or.inl ⟨rfl, fun W hW => ?hy⟩, ?_⟩
    case hy =>
      go_simp
      exact RegionU.does_value rfl
    simp only [Act.put, List.setIfInBounds_toArray, List.set]
    refine wpW_done1 (i := 25) rfl (by kernel_rfl) (by kernel_rfl) ?_
    intro W hW
    have HW := Lib.hid hW.1.1.lo
    clear hW
    go_wp2_with fail
    go_ret
    exact ⟨rfl, HB3.out.trans (HW.out.mono HB3.out.size)⟩
  have t0 : ((r : Int) == 0) = false := by simp; omega
  have HR0 := Lib.hid (show 0 < r by omega)
  clear h0
  refine wp_region_W (fun i => decide (i < 25)) 25 1 (by kernel_rfl) (by kernel_rfl) (KM.up w3 w.heap.size C m) HKM.out ?_
  refine wpW_taken (i := 0) rfl (by kernel_rfl) (by kernel_rfl) (by kernel_rfl) (by kernel_rfl) (KM.up w3 w.heap.size C m) ?_
  apply Exists.intro
  refine ⟨Or.inl ⟨rfl, fun W hW => ?hy⟩, ?_⟩
  case hy =>
    go_simp
    exact RegionU.does_value rfl
  simp only [Act.put, List.setIfInBounds_toArray, List.set]
  refine wpW_taken (i := 1) rfl (by kernel_rfl) (by kernel_rfl) (by kernel_rfl) (by kernel_rfl) (KM.up w3 w.heap.size C m) ?_
  apply Exists.intro
  refine ⟨Or.inl ⟨rfl, fun W hW => ?hy⟩, ?_⟩
  case hy =>
    go_simp
    exact RegionU.does_value rfl
  simp only [Act.put, List.setIfInBounds_toArray, List.set]
  refine wpW_taken (i := 2) rfl (by kernel_rfl) (by kernel_rfl) (by kernel_rfl) (by kernel_rfl) (KM.up w3 w.heap.size C m) ?_
  apply Exists.intro
  refine ⟨Or.inl ⟨rfl, fun W hW => ?hy⟩, ?_⟩
  case hy =>
    go_simp
    exact RegionU.does_value rfl
  simp only [Act.put, List.setIfInBounds_toArray, List.set]
  refine wpW_taken (i := 3) rfl (by kernel_rfl) (by kernel_rfl) (by kernel_rfl) (by kernel_rfl) (KM.up w3 w.heap.size C m) ?_
  apply Exists.intro
  refine ⟨Or.inl ⟨rfl, fun W hW => ?hy⟩, ?_⟩
  case hy =>
    exact does_eq (run_load_dfa (.tmp 2) rfl rfl hW.x)
  simp only [Act.put, List.setIfInBounds_toArray, List.set]
  refine wpW_taken (i := 4) rfl (by kernel_rfl) (by kernel_rfl) (by kernel_rfl) (by kernel_rfl) (KM.up w3 w.heap.size C m) ?_
  apply Exists.intro
  refine ⟨Or.inl ⟨rfl, fun W hW => ?hy⟩, ?_⟩
  case hy =>
    go_simp
    exact RegionU.does_value rfl
  simp only [Act.put, List.setIfInBounds_toArray, List.set]
  refine wpW_taken (i := 5) rfl (by kernel_rfl) (by kernel_rfl) (by kernel_rfl) (by kernel_rfl) (KM.up w3 w.heap.size C m) ?_
  apply Exists.intro
  refine ⟨Or.inl ⟨rfl, fun W hW => ?hy⟩, ?_⟩
  case hy =>
    have hwm := HW2.out
    go_simp
    exact RegionU.does_value rfl
  simp only [Act.put, List.setIfInBounds_toArray, List.set]
  refine wpW_taken (i := 7) rfl (by kernel_rfl) (by kernel_rfl) (by kernel_rfl) (by kernel_rfl) (KM.up w3 w.heap.size C m) ?_
  apply Exists.intro
  refine ⟨Or.inl ⟨rfl, fun W hW => ?hy⟩, ?_⟩
  case hy =>
    go_simp
    exact RegionU.does_value rfl
  simp only [Act.put, List.setIfInBounds_toArray, List.set]
  refine wpW_one (i := 6) (by kernel_rfl) (by kernel_rfl) rfl rfl (LI w3.heap.size (aftN m (r - 1))) (LI.up _ _) (fun W hW => ?hy) ?_
  case hy =>
    go_simp
    exact does_in ((HAF W ((r : Int) - 1) (wf_of (by omega) (by omega)) hW.x.is).mono fun e w' ⟨v, h, ho, hb⟩ => ⟨v, h, owns_base (by have := ho; rw [HY.out.1, show ((r : Int) - 1 : Int).toNat = r - 1 by omega] at this; exact this) hW.lo.size, hb⟩)
  intro u6
  simp only [Act.put, List.setIfInBounds_toArray, List.set]
  refine wpW_taken (i := 8) rfl (by kernel_rfl) (by kernel_rfl) (by kernel_rfl) (by kernel_rfl) ((KM.up w3 w.heap.size C m).and (LI.up _ _ u6)) ?_
  apply Exists.intro
  refine ⟨Or.inl ⟨rfl, fun W hW => ?hy⟩, ?_⟩
  case hy =>
    go_simp
    exact RegionU.does_call ((Same17_any W (Nat.le_refl _) (Nat.le_refl _) (show OI W _ _ _ from hW.2).is (HBI.out W hW.1.lo)).mono fun e w' ⟨h, hb⟩ => ⟨h.bool (b := false) ⟨fun x => (by cases x), fun x => absurd x (HE3.out _ (by have := HR0.out; omega))⟩, hb.below⟩)
  simp only [Act.put, List.setIfInBounds_toArray, List.set]
  refine wpW_taken (i := 9) rfl (by kernel_rfl) (by kernel_rfl) (by kernel_rfl) (by kernel_rfl) ((KM.up w3 w.heap.size C m).and (LI.up _ _ u6)) ?_
  apply Exists.intro
  refine ⟨Or.inl ⟨rfl, fun W hW => ?hy⟩, ?_⟩
  case hy =>
    go_simp
    exact RegionU.does_value rfl
  simp only [Act.put, List.setIfInBounds_toArray, List.set]
  refine wpW_taken (i := 10) rfl (by kernel_rfl) (by kernel_rfl) (by kernel_rfl) (by kernel_rfl) ((KM.up w3 w.heap.size C m).and (LI.up _ _ u6)) ?_
  apply Exists.intro
  refine ⟨Or.inl ⟨rfl, fun W hW => ?hy⟩, ?_⟩
  case hy =>
    go_simp
    exact RegionU.does_value rfl
  simp only [Act.put, List.setIfInBounds_toArray, List.set]
  refine wpW_taken (i := 11) rfl (by kernel_rfl) (by kernel_rfl) (by kernel_rfl) (by kernel_rfl) ((KM.up w3 w.heap.size C m).and (LI.up _ _ u6)) ?_
  apply Exists.intro
  refine ⟨Or.inl ⟨rfl, fun W hW => ?hy⟩, ?_⟩
  case hy =>
    go_simp
    exact RegionU.does_value rfl
  simp only [Act.put, List.setIfInBounds_toArray, List.set]
  refine wpW_taken (i := 12) rfl (by kernel_rfl) (by kernel_rfl) (by kernel_rfl) (by kernel_rfl) ((KM.up w3 w.heap.size C m).and (LI.up _ _ u6)) ?_
  apply Exists.intro
  refine ⟨Or.inl ⟨rfl, fun W hW => ?hy⟩, ?_⟩
  case hy =>
    exact does_eq (run_load_dfa (.tmp 2) rfl rfl hW.1.x)
  simp only [Act.put, List.setIfInBounds_toArray, List.set]
  refine wpW_taken (i := 13) rfl (by kernel_rfl) (by kernel_rfl) (by kernel_rfl) (by kernel_rfl) ((KM.up w3 w.heap.size C m).and (LI.up _ _ u6)) ?_
  apply Exists.intro
  refine ⟨Or.inl ⟨rfl, fun W hW => ?hy⟩, ?_⟩
  case hy =>
    go_simp
    exact RegionU.does_value rfl
  simp only [Act.put, List.setIfInBounds_toArray, List.set]
  refine wpW_taken (i := 14) rfl (by kernel_rfl) (by kernel_rfl) (by kernel_rfl) (by kernel_rfl) ((KM.up w3 w.heap.size C m).and (LI.up _ _ u6)) ?_
  apply Exists.intro
  refine ⟨Or.inl ⟨rfl, fun W hW => ?hy⟩, ?_⟩
  case hy =>
    have hwp := HW1.out
    go_simp
    exact RegionU.does_value rfl
  simp only [Act.put, List.setIfInBounds_toArray, List.set]
  refine wpW_taken (i := 16) rfl (by kernel_rfl) (by kernel_rfl) (by kernel_rfl) (by kernel_rfl) ((KM.up w3 w.heap.size C m).and (LI.up _ _ u6)) ?_
  apply Exists.intro
  refine ⟨Or.inl ⟨rfl, fun W hW => ?hy⟩, ?_⟩
  case hy =>
    exact does_eq (run_load_dfa (.tmp 2) rfl rfl hW.1.x)
  simp only [Act.put, List.setIfInBounds_toArray, List.set]
  refine wpW_taken (i := 17) rfl (by kernel_rfl) (by kernel_rfl) (by kernel_rfl) (by kernel_rfl) ((KM.up w3 w.heap.size C m).and (LI.up _ _ u6)) ?_
  apply Exists.intro
  refine ⟨Or.inl ⟨rfl, fun W hW => ?hy⟩, ?_⟩
  case hy =>
    go_simp
    exact RegionU.does_value rfl
  simp only [Act.put, List.setIfInBounds_toArray, List.set]
  refine wpW_taken (i := 18) rfl (by kernel_rfl) (by kernel_rfl) (by kernel_rfl) (by kernel_rfl) ((KM.up w3 w.heap.size C m).and (LI.up _ _ u6)) ?_
  apply Exists.intro
  refine ⟨Or.inl ⟨rfl, fun W hW => ?hy⟩, ?_⟩
  case hy =>
    have hq1 := HQ1.out
    have hq2 := HQ2.out
    go_simp
    exact RegionU.does_value rfl
  simp only [Act.put, List.setIfInBounds_toArray, List.set]
  refine wpW_one (i := 15) (by kernel_rfl) (by kernel_rfl) rfl rfl (LI w3.heap.size (aftN m (r + 1))) (LI.up _ _) (fun W hW => ?hy) ?_
  case hy =>
    go_simp
    exact does_in ((HAF W ((r : Int) + 1) (wf_of (by omega) (by omega)) hW.1.x.is).mono fun e w' ⟨v, h, ho, hb⟩ => ⟨v, h, owns_base (by have := ho; rw [HY.out.1, show ((r : Int) + 1 : Int).toNat = r + 1 by omega] at this; exact this) hW.1.lo.size, hb⟩)
  intro u15
  simp only [Act.put, List.setIfInBounds_toArray, List.set]
  refine wpW_one (i := 19) (by kernel_rfl) (by kernel_rfl) rfl rfl (LI w3.heap.size (aftN m (r / 2))) (LI.up _ _) (fun W hW => ?hy) ?_
  case hy =>
    go_simp
    exact does_in ((HAF W ((r : Int) / 2) (wf_of (by omega) (by omega)) hW.1.1.x.is).mono fun e w' ⟨v, h, ho, hb⟩ => ⟨v, h, owns_base (by have := ho; rw [HY.out.1, show ((r : Int) / 2 : Int).toNat = r / 2 by omega] at this; exact this) hW.1.1.lo.size, hb⟩)
  intro u19
  simp only [Act.put, List.setIfInBounds_toArray, List.set]
  refine wpW_taken (i := 20) rfl (by kernel_rfl) (by kernel_rfl) (by kernel_rfl) (by kernel_rfl) ((((KM.up w3 w.heap.size C m).and (LI.up _ _ u6)).and (LI.up _ _ u15)).and (LI.up _ _ u19)) ?_
  apply Exists.intro
  refine ⟨Or.inl ⟨rfl, fun W hW => ?hy⟩, ?_⟩
  case hy =>
    go_simp
    exact RegionU.does_call ((HFI W (show OI W _ _ _ from hW.1.2).is (show OI W _ _ _ from hW.2).is (aftN_64 _ _ HL2.out) (aftN_64 _ _ HL2.out) (by rw [aftN_len]; exact HL2.out)).mono fun e w' ⟨h, hb⟩ => ⟨h.true HFP.out, hb⟩)
  simp only [Act.put, List.setIfInBounds_toArray, List.set]
  refine wpW_taken (i := 21) rfl (by kernel_rfl) (by kernel_rfl) (by kernel_rfl) (by kernel_rfl) ((((KM.up w3 w.heap.size C m).and (LI.up _ _ u6)).and (LI.up _ _ u15)).and (LI.up _ _ u19)) ?_
  apply Exists.intro
  refine ⟨Or.inl ⟨rfl, fun W hW => ?hy⟩, ?_⟩
  case hy =>
    go_simp
    exact RegionU.does_value rfl
  simp only [Act.put, List.setIfInBounds_toArray, List.set]
  refine wpW_taken (i := 22) rfl (by kernel_rfl) (by kernel_rfl) (by kernel_rfl) (by kernel_rfl) ((((KM.up w3 w.heap.size C m).and (LI.up _ _ u6)).and (LI.up _ _ u15)).and (LI.up _ _ u19)) ?_
  apply Exists.intro
  refine ⟨Or.inl ⟨rfl, fun W hW => ?hy⟩, ?_⟩
  case hy =>
    go_simp
    exact RegionU.does_value rfl
  simp only [Act.put, List.setIfInBounds_toArray, List.set]
  refine wpW_taken (i := 23) rfl (by kernel_rfl) (by kernel_rfl) (by kernel_rfl) (by kernel_rfl) ((((KM.up w3 w.heap.size C m).and (LI.up _ _ u6)).and (LI.up _ _ u15)).and (LI.up _ _ u19)) ?_
  apply Exists.intro
  refine ⟨Or.inl ⟨rfl, fun W hW => ?hy⟩, ?_⟩
  case hy =>
    go_simp
    exact RegionU.does_call ((HKN W).mono fun e w' ⟨h, hb⟩ => ⟨h, hb⟩)
  simp only [Act.put, List.setIfInBounds_toArray, List.set]
  refine wpW_taken (i := 24) rfl (by kernel_rfl) (by kernel_rfl) (by kernel_rfl) (by kernel_rfl) ((((KM.up w3 w.heap.size C m).and (LI.up _ _ u6)).and (LI.up _ _ u15)).and (LI.up _ _ u19)) ?_
  apply Exists.intro
  refine ⟨Or.inl ⟨rfl, fun W hW => ?hy⟩, ?_⟩
  case hy =>
    go_simp
    exact RegionU.does_value rfl
  simp only [Act.put, List.setIfInBounds_toArray, List.set]
  refine wpW_done1 (i := 25) rfl (by kernel_rfl) (by kernel_rfl) ?_
  intro W hW
  have HW := Lib.hid hW.1.1.1.lo
  clear hW
  go_wp2_with fail
  go_ret
  exact ⟨rfl, HB3.out.trans (HW.out.mono HB3.out.size)⟩
end Go.Proofs.Ytfhddbjojpmbcaa.DfaW
