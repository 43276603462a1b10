/- Walks of layer 2: the document's Two. -/
import Derived.Test.YtgmoaglanjfdmaaDoorSetWalk4
namespace Go.Proofs.YtgmoaglanjfdmaaDoor.SetW
set_option linter.unusedVariables false
open Go.RowKit Go.Proofs.YtgmoaglanjfdmaaDoor.SetM

theorem toF_zero (h : Nat → Bool) : toF h 0 = emptyF := by funext i; simp [toF, emptyF]
theorem toF_yes {h : Nat → Bool} {k : Nat} (hk : h k = true) : toF h (k + 1) = withF (toF h k) k := by
  funext i; unfold toF withF
  by_cases e : i = k
  · subst e; simp [hk]
  · have e1 : decide (i < k + 1) = decide (i < k) := by rw [Bool.eq_iff_iff]; simp; omega
    rw [e1]; simp [e]
theorem toF_no {h : Nat → Bool} {k : Nat} (hk : h k = false) : toF h (k + 1) = toF h k := by
  funext i; unfold toF
  by_cases e : i = k
  · subst e; simp [hk]
  · have e1 : decide (i < k + 1) = decide (i < k) := by rw [Bool.eq_iff_iff]; simp; omega
    rw [e1]
theorem toF_all (h : Nat → Bool) : SV (toF h 256) = SV h := SV_congr fun i hi => by simp [toF, hi]

set_option maxRecDepth 100000 in
theorem Two0_any (f g : Nat → Bool) (w : World) :
    Calls Tryd.prog 14 #[SV f, SV g, .int .i64 0] w fun e w' => e = .returned (SV (unionF f g)) ∧ Below w.heap.size w w' := by
  obtain ⟨A, hA⟩ : ∃ A, A = w.heap.size := ⟨_, rfl⟩
  have HA := Lib.hid hA; clear hA
  go_enter Tryd.func14, Tryd.ntmps14
  go_wp2_with fail
  rw [← HA.out]
  go_loopw [8, 9, 10] (fun i x y wr => ∃ k : Nat, k ≤ 256 ∧ i = .int .i64 k ∧ HoldsS wr A f ∧ HoldsS wr (A + 1) g ∧ HoldsS wr (A + 1 + 1) emptyF ∧ HoldsS wr (A + 1 + 1 + 1) (toF (unionF f g) k) ∧ Below w.heap.size w wr) (fun i _ _ _ => 256 - (intOf i).toNat)
  case atStart =>
    rw [HA.out]
    refine ⟨0, Nat.zero_le _, rfl, ?_, ?_, ?_, ?_, ?_⟩
    · exact (((HoldsS.new _ _ _).alloc _).alloc _).alloc _
    · rw [← World.size_alloc w (.cells #[.int .u64 (wd f 0), .int .u64 (wd f 1), .int .u64 (wd f 2), .int .u64 (wd f 3)] 25)]; exact ((HoldsS.new _ _ _).alloc _).alloc _
    · rw [← World.size_alloc w (.cells #[.int .u64 (wd f 0), .int .u64 (wd f 1), .int .u64 (wd f 2), .int .u64 (wd f 3)] 25), ← World.size_alloc _ (.cells #[.int .u64 (wd g 0), .int .u64 (wd g 1), .int .u64 (wd g 2), .int .u64 (wd g 3)] 25)]
      exact (HoldsS.zero _ _).alloc _
    · rw [toF_zero, ← World.size_alloc w (.cells #[.int .u64 (wd f 0), .int .u64 (wd f 1), .int .u64 (wd f 2), .int .u64 (wd f 3)] 25), ← World.size_alloc _ (.cells #[.int .u64 (wd g 0), .int .u64 (wd g 1), .int .u64 (wd g 2), .int .u64 (wd g 3)] 25)]
      exact HoldsS.zero2 _ _ _
    · exact ((((Below.refl _ _).alloc (Nat.le_refl _) _).alloc (by simp) _).alloc (by simp; omega) _).alloc (by simp; omega) _
  case round =>
    obtain ⟨k, hk, rfl, hF, hG, hR, hS, hb⟩ := hrel
    by_cases hlt : k < 256
    · have c0 := hF.c0; have c1 := hF.c1; have c2 := hF.c2; have c3 := hF.c3
      go_wp2_with fail
      refine (refHas_any _ _ hlt _).mono ?_
      rintro e w1 ⟨rfl, hb1⟩
      have hF1 := hF.below hb1; have hG1 := hG.below hb1; have hR1 := hR.below hb1; have hS1 := hS.below hb1
      have hb2 := hb.trans (hb1.mono hb.size)
      clear c0 c1 c2 c3 hF hG hR hS hb hb1
      have d0 := hG1.c0; have d1 := hG1.c1; have d2 := hG1.c2; have d3 := hG1.c3
      go_wp2_with fail
      refine (refHas_any _ _ hlt _).mono ?_
      rintro e w2 ⟨rfl, hb3⟩
      have hF2 := hF1.below hb3; have hG2 := hG1.below hb3; have hR2 := hR1.below hb3; have hS2 := hS1.below hb3
      have hb4 := hb2.trans (hb3.mono hb2.size)
      clear d0 d1 d2 d3 hF1 hG1 hR1 hS1 hb2 hb3
      have r0 := hS2.c0; have r1 := hS2.c1; have r2 := hS2.c2; have r3 := hS2.c3; have z0 := hS2.z0; have z1 := hS2.z1; have z2 := hS2.z2; have z3 := hS2.z3
      have n0 : A + 1 + 1 + 1 ≠ A := by omega
      have n1 : A + 1 + 1 + 1 ≠ A + 1 := by omega
      have n2 : A + 1 + 1 + 1 ≠ A + 1 + 1 := by omega
      have HN := Lib.hid (show (unionF f g) k = (unionF f g) k from rfl)
      cases hf : f k <;> cases hg : g k
      · have HT := Lib.hid (toF_no (h := unionF f g) (k := k) (by simp [unionF, hf, hg]))
        have HF := Lib.hid hf; have HG := Lib.hid hg
        clear hf hg
        go_wp2_with fail
        refine ⟨⟨k + 1, by omega, by go_num, hF2, hG2, hR2, ?_, hb4⟩, by simp [intOf]; omega⟩
        rw [HT.out]; exact hS2
      · have HT := Lib.hid (toF_yes (h := unionF f g) (k := k) (by simp [unionF, hf, hg]))
        have HF := Lib.hid hf; have HG := Lib.hid hg
        clear hf hg
        go_wp2_with fail
        refine (With_any _ _ hlt _).mono ?_
        rintro e w3 ⟨rfl, hb5⟩
        have hF3 := hF2.below hb5; have hG3 := hG2.below hb5; have hR3 := hR2.below hb5; have hS3 := hS2.below hb5
        have hb6 := hb4.trans (hb5.mono hb4.size)
        clear r0 r1 r2 r3 z0 z1 z2 z3
        have r0 := hS3.c0; have r1 := hS3.c1; have r2 := hS3.c2; have r3 := hS3.c3; have z0 := hS3.z0; have z1 := hS3.z1; have z2 := hS3.z2; have z3 := hS3.z3
        go_wp2_with fail
        refine ⟨⟨k + 1, by omega, by go_num, hF3.other n0 _, hG3.other n1 _, hR3.other n2 _, ?_, below_put4 hb6 (by rw [HA.out]; omega) _⟩, by simp [intOf]; omega⟩
        rw [HT.out]; exact hS3.store _
      · have HT := Lib.hid (toF_yes (h := unionF f g) (k := k) (by simp [unionF, hf, hg]))
        have HF := Lib.hid hf; have HG := Lib.hid hg
        clear hf hg
        go_wp2_with fail
        refine (With_any _ _ hlt _).mono ?_
        rintro e w3 ⟨rfl, hb5⟩
        have hF3 := hF2.below hb5; have hG3 := hG2.below hb5; have hR3 := hR2.below hb5; have hS3 := hS2.below hb5
        have hb6 := hb4.trans (hb5.mono hb4.size)
        clear r0 r1 r2 r3 z0 z1 z2 z3
        have r0 := hS3.c0; have r1 := hS3.c1; have r2 := hS3.c2; have r3 := hS3.c3; have z0 := hS3.z0; have z1 := hS3.z1; have z2 := hS3.z2; have z3 := hS3.z3
        go_wp2_with fail
        refine ⟨⟨k + 1, by omega, by go_num, hF3.other n0 _, hG3.other n1 _, hR3.other n2 _, ?_, below_put4 hb6 (by rw [HA.out]; omega) _⟩, by simp [intOf]; omega⟩
        rw [HT.out]; exact hS3.store _
      · have HT := Lib.hid (toF_yes (h := unionF f g) (k := k) (by simp [unionF, hf, hg]))
        have HF := Lib.hid hf; have HG := Lib.hid hg
        clear hf hg
        go_wp2_with fail
        refine (With_any _ _ hlt _).mono ?_
        rintro e w3 ⟨rfl, hb5⟩
        have hF3 := hF2.below hb5; have hG3 := hG2.below hb5; have hR3 := hR2.below hb5; have hS3 := hS2.below hb5
        have hb6 := hb4.trans (hb5.mono hb4.size)
        clear r0 r1 r2 r3 z0 z1 z2 z3
        have r0 := hS3.c0; have r1 := hS3.c1; have r2 := hS3.c2; have r3 := hS3.c3; have z0 := hS3.z0; have z1 := hS3.z1; have z2 := hS3.z2; have z3 := hS3.z3
        go_wp2_with fail
        refine ⟨⟨k + 1, by omega, by go_num, hF3.other n0 _, hG3.other n1 _, hR3.other n2 _, ?_, below_put4 hb6 (by rw [HA.out]; omega) _⟩, by simp [intOf]; omega⟩
        rw [HT.out]; exact hS3.store _
    · obtain rfl : k = 256 := by omega
      have c0 := hS.c0; have c1 := hS.c1; have c2 := hS.c2; have c3 := hS.c3; have z0 := hS.z0; have z1 := hS.z1; have z2 := hS.z2; have z3 := hS.z3
      have d0 := hR.c0; have d1 := hR.c1; have d2 := hR.c2; have d3 := hR.c3; have y0 := hR.z0; have y1 := hR.z1; have y2 := hR.z2; have y3 := hR.z3
      have HE := Lib.hid (toF_all (unionF f g))
      generalize toF (unionF f g) 256 = r at *
      go_wp2_with fail
      have q := hR.store r
      exact bodyPost_ret (v := SV r) (by simp [results, Tryd.results14, go_sem, q.c0, q.c1, q.c2, q.c3]) rfl ⟨congrArg Ending.returned HE.out, below_put4 hb (by rw [HA.out]; omega) _⟩

set_option maxRecDepth 100000 in
theorem Two1_any (f g : Nat → Bool) (w : World) :
    Calls Tryd.prog 14 #[SV f, SV g, .int .i64 1] w fun e w' => e = .returned (SV (meetF f g)) ∧ Below w.heap.size w w' := by
  obtain ⟨A, hA⟩ : ∃ A, A = w.heap.size := ⟨_, rfl⟩
  have HA := Lib.hid hA; clear hA
  go_enter Tryd.func14, Tryd.ntmps14
  go_wp2_with fail
  rw [← HA.out]
  go_loopw [8, 9, 10] (fun i x y wr => ∃ k : Nat, k ≤ 256 ∧ i = .int .i64 k ∧ HoldsS wr A f ∧ HoldsS wr (A + 1) g ∧ HoldsS wr (A + 1 + 1) emptyF ∧ HoldsS wr (A + 1 + 1 + 1) (toF (meetF f g) k) ∧ Below w.heap.size w wr) (fun i _ _ _ => 256 - (intOf i).toNat)
  case atStart =>
    rw [HA.out]
    refine ⟨0, Nat.zero_le _, rfl, ?_, ?_, ?_, ?_, ?_⟩
    · exact (((HoldsS.new _ _ _).alloc _).alloc _).alloc _
    · rw [← World.size_alloc w (.cells #[.int .u64 (wd f 0), .int .u64 (wd f 1), .int .u64 (wd f 2), .int .u64 (wd f 3)] 25)]; exact ((HoldsS.new _ _ _).alloc _).alloc _
    · rw [← World.size_alloc w (.cells #[.int .u64 (wd f 0), .int .u64 (wd f 1), .int .u64 (wd f 2), .int .u64 (wd f 3)] 25), ← World.size_alloc _ (.cells #[.int .u64 (wd g 0), .int .u64 (wd g 1), .int .u64 (wd g 2), .int .u64 (wd g 3)] 25)]
      exact (HoldsS.zero _ _).alloc _
    · rw [toF_zero, ← World.size_alloc w (.cells #[.int .u64 (wd f 0), .int .u64 (wd f 1), .int .u64 (wd f 2), .int .u64 (wd f 3)] 25), ← World.size_alloc _ (.cells #[.int .u64 (wd g 0), .int .u64 (wd g 1), .int .u64 (wd g 2), .int .u64 (wd g 3)] 25)]
      exact HoldsS.zero2 _ _ _
    · exact ((((Below.refl _ _).alloc (Nat.le_refl _) _).alloc (by simp) _).alloc (by simp; omega) _).alloc (by simp; omega) _
  case round =>
    obtain ⟨k, hk, rfl, hF, hG, hR, hS, hb⟩ := hrel
    by_cases hlt : k < 256
    · have c0 := hF.c0; have c1 := hF.c1; have c2 := hF.c2; have c3 := hF.c3
      go_wp2_with fail
      refine (refHas_any _ _ hlt _).mono ?_
      rintro e w1 ⟨rfl, hb1⟩
      have hF1 := hF.below hb1; have hG1 := hG.below hb1; have hR1 := hR.below hb1; have hS1 := hS.below hb1
      have hb2 := hb.trans (hb1.mono hb.size)
      clear c0 c1 c2 c3 hF hG hR hS hb hb1
      have d0 := hG1.c0; have d1 := hG1.c1; have d2 := hG1.c2; have d3 := hG1.c3
      go_wp2_with fail
      refine (refHas_any _ _ hlt _).mono ?_
      rintro e w2 ⟨rfl, hb3⟩
      have hF2 := hF1.below hb3; have hG2 := hG1.below hb3; have hR2 := hR1.below hb3; have hS2 := hS1.below hb3
      have hb4 := hb2.trans (hb3.mono hb2.size)
      clear d0 d1 d2 d3 hF1 hG1 hR1 hS1 hb2 hb3
      have r0 := hS2.c0; have r1 := hS2.c1; have r2 := hS2.c2; have r3 := hS2.c3; have z0 := hS2.z0; have z1 := hS2.z1; have z2 := hS2.z2; have z3 := hS2.z3
      have n0 : A + 1 + 1 + 1 ≠ A := by omega
      have n1 : A + 1 + 1 + 1 ≠ A + 1 := by omega
      have n2 : A + 1 + 1 + 1 ≠ A + 1 + 1 := by omega
      have HN := Lib.hid (show (meetF f g) k = (meetF f g) k from rfl)
      cases hf : f k <;> cases hg : g k
      · have HT := Lib.hid (toF_no (h := meetF f g) (k := k) (by simp [meetF, hf, hg]))
        have HF := Lib.hid hf; have HG := Lib.hid hg
        clear hf hg
        go_wp2_with fail
        refine ⟨⟨k + 1, by omega, by go_num, hF2, hG2, hR2, ?_, hb4⟩, by simp [intOf]; omega⟩
        rw [HT.out]; exact hS2
      · have HT := Lib.hid (toF_no (h := meetF f g) (k := k) (by simp [meetF, hf, hg]))
        have HF := Lib.hid hf; have HG := Lib.hid hg
        clear hf hg
        go_wp2_with fail
        refine ⟨⟨k + 1, by omega, by go_num, hF2, hG2, hR2, ?_, hb4⟩, by simp [intOf]; omega⟩
        rw [HT.out]; exact hS2
      · have HT := Lib.hid (toF_no (h := meetF f g) (k := k) (by simp [meetF, hf, hg]))
        have HF := Lib.hid hf; have HG := Lib.hid hg
        clear hf hg
        go_wp2_with fail
        refine ⟨⟨k + 1, by omega, by go_num, hF2, hG2, hR2, ?_, hb4⟩, by simp [intOf]; omega⟩
        rw [HT.out]; exact hS2
      · have HT := Lib.hid (toF_yes (h := meetF f g) (k := k) (by simp [meetF, hf, hg]))
        have HF := Lib.hid hf; have HG := Lib.hid hg
        clear hf hg
        go_wp2_with fail
        refine (With_any _ _ hlt _).mono ?_
        rintro e w3 ⟨rfl, hb5⟩
        have hF3 := hF2.below hb5; have hG3 := hG2.below hb5; have hR3 := hR2.below hb5; have hS3 := hS2.below hb5
        have hb6 := hb4.trans (hb5.mono hb4.size)
        clear r0 r1 r2 r3 z0 z1 z2 z3
        have r0 := hS3.c0; have r1 := hS3.c1; have r2 := hS3.c2; have r3 := hS3.c3; have z0 := hS3.z0; have z1 := hS3.z1; have z2 := hS3.z2; have z3 := hS3.z3
        go_wp2_with fail
        refine ⟨⟨k + 1, by omega, by go_num, hF3.other n0 _, hG3.other n1 _, hR3.other n2 _, ?_, below_put4 hb6 (by rw [HA.out]; omega) _⟩, by simp [intOf]; omega⟩
        rw [HT.out]; exact hS3.store _
    · obtain rfl : k = 256 := by omega
      have c0 := hS.c0; have c1 := hS.c1; have c2 := hS.c2; have c3 := hS.c3; have z0 := hS.z0; have z1 := hS.z1; have z2 := hS.z2; have z3 := hS.z3
      have d0 := hR.c0; have d1 := hR.c1; have d2 := hR.c2; have d3 := hR.c3; have y0 := hR.z0; have y1 := hR.z1; have y2 := hR.z2; have y3 := hR.z3
      have HE := Lib.hid (toF_all (meetF f g))
      generalize toF (meetF f g) 256 = r at *
      go_wp2_with fail
      have q := hR.store r
      exact bodyPost_ret (v := SV r) (by simp [results, Tryd.results14, go_sem, q.c0, q.c1, q.c2, q.c3]) rfl ⟨congrArg Ending.returned HE.out, below_put4 hb (by rw [HA.out]; omega) _⟩

set_option maxRecDepth 100000 in
theorem Two2_any (f g : Nat → Bool) (w : World) :
    Calls Tryd.prog 14 #[SV f, SV g, .int .i64 2] w fun e w' => e = .returned (SV (lessF f g)) ∧ Below w.heap.size w w' := by
  obtain ⟨A, hA⟩ : ∃ A, A = w.heap.size := ⟨_, rfl⟩
  have HA := Lib.hid hA; clear hA
  go_enter Tryd.func14, Tryd.ntmps14
  go_wp2_with fail
  rw [← HA.out]
  go_loopw [8, 9, 10] (fun i x y wr => ∃ k : Nat, k ≤ 256 ∧ i = .int .i64 k ∧ HoldsS wr A f ∧ HoldsS wr (A + 1) g ∧ HoldsS wr (A + 1 + 1) emptyF ∧ HoldsS wr (A + 1 + 1 + 1) (toF (lessF f g) k) ∧ Below w.heap.size w wr) (fun i _ _ _ => 256 - (intOf i).toNat)
  case atStart =>
    rw [HA.out]
    refine ⟨0, Nat.zero_le _, rfl, ?_, ?_, ?_, ?_, ?_⟩
    · exact (((HoldsS.new _ _ _).alloc _).alloc _).alloc _
    · rw [← World.size_alloc w (.cells #[.int .u64 (wd f 0), .int .u64 (wd f 1), .int .u64 (wd f 2), .int .u64 (wd f 3)] 25)]; exact ((HoldsS.new _ _ _).alloc _).alloc _
    · rw [← World.size_alloc w (.cells #[.int .u64 (wd f 0), .int .u64 (wd f 1), .int .u64 (wd f 2), .int .u64 (wd f 3)] 25), ← World.size_alloc _ (.cells #[.int .u64 (wd g 0), .int .u64 (wd g 1), .int .u64 (wd g 2), .int .u64 (wd g 3)] 25)]
      exact (HoldsS.zero _ _).alloc _
    · rw [toF_zero, ← World.size_alloc w (.cells #[.int .u64 (wd f 0), .int .u64 (wd f 1), .int .u64 (wd f 2), .int .u64 (wd f 3)] 25), ← World.size_alloc _ (.cells #[.int .u64 (wd g 0), .int .u64 (wd g 1), .int .u64 (wd g 2), .int .u64 (wd g 3)] 25)]
      exact HoldsS.zero2 _ _ _
    · exact ((((Below.refl _ _).alloc (Nat.le_refl _) _).alloc (by simp) _).alloc (by simp; omega) _).alloc (by simp; omega) _
  case round =>
    obtain ⟨k, hk, rfl, hF, hG, hR, hS, hb⟩ := hrel
    by_cases hlt : k < 256
    · have c0 := hF.c0; have c1 := hF.c1; have c2 := hF.c2; have c3 := hF.c3
      go_wp2_with fail
      refine (refHas_any _ _ hlt _).mono ?_
      rintro e w1 ⟨rfl, hb1⟩
      have hF1 := hF.below hb1; have hG1 := hG.below hb1; have hR1 := hR.below hb1; have hS1 := hS.below hb1
      have hb2 := hb.trans (hb1.mono hb.size)
      clear c0 c1 c2 c3 hF hG hR hS hb hb1
      have d0 := hG1.c0; have d1 := hG1.c1; have d2 := hG1.c2; have d3 := hG1.c3
      go_wp2_with fail
      refine (refHas_any _ _ hlt _).mono ?_
      rintro e w2 ⟨rfl, hb3⟩
      have hF2 := hF1.below hb3; have hG2 := hG1.below hb3; have hR2 := hR1.below hb3; have hS2 := hS1.below hb3
      have hb4 := hb2.trans (hb3.mono hb2.size)
      clear d0 d1 d2 d3 hF1 hG1 hR1 hS1 hb2 hb3
      have r0 := hS2.c0; have r1 := hS2.c1; have r2 := hS2.c2; have r3 := hS2.c3; have z0 := hS2.z0; have z1 := hS2.z1; have z2 := hS2.z2; have z3 := hS2.z3
      have n0 : A + 1 + 1 + 1 ≠ A := by omega
      have n1 : A + 1 + 1 + 1 ≠ A + 1 := by omega
      have n2 : A + 1 + 1 + 1 ≠ A + 1 + 1 := by omega
      have HN := Lib.hid (show (lessF f g) k = (lessF f g) k from rfl)
      cases hf : f k <;> cases hg : g k
      · have HT := Lib.hid (toF_no (h := lessF f g) (k := k) (by simp [lessF, hf, hg]))
        have HF := Lib.hid hf; have HG := Lib.hid hg
        clear hf hg
        go_wp2_with fail
        refine ⟨⟨k + 1, by omega, by go_num, hF2, hG2, hR2, ?_, hb4⟩, by simp [intOf]; omega⟩
        rw [HT.out]; exact hS2
      · have HT := Lib.hid (toF_no (h := lessF f g) (k := k) (by simp [lessF, hf, hg]))
        have HF := Lib.hid hf; have HG := Lib.hid hg
        clear hf hg
        go_wp2_with fail
        refine ⟨⟨k + 1, by omega, by go_num, hF2, hG2, hR2, ?_, hb4⟩, by simp [intOf]; omega⟩
        rw [HT.out]; exact hS2
      · have HT := Lib.hid (toF_yes (h := lessF f g) (k := k) (by simp [lessF, hf, hg]))
        have HF := Lib.hid hf; have HG := Lib.hid hg
        clear hf hg
        go_wp2_with fail
        refine (With_any _ _ hlt _).mono ?_
        rintro e w3 ⟨rfl, hb5⟩
        have hF3 := hF2.below hb5; have hG3 := hG2.below hb5; have hR3 := hR2.below hb5; have hS3 := hS2.below hb5
        have hb6 := hb4.trans (hb5.mono hb4.size)
        clear r0 r1 r2 r3 z0 z1 z2 z3
        have r0 := hS3.c0; have r1 := hS3.c1; have r2 := hS3.c2; have r3 := hS3.c3; have z0 := hS3.z0; have z1 := hS3.z1; have z2 := hS3.z2; have z3 := hS3.z3
        go_wp2_with fail
        refine ⟨⟨k + 1, by omega, by go_num, hF3.other n0 _, hG3.other n1 _, hR3.other n2 _, ?_, below_put4 hb6 (by rw [HA.out]; omega) _⟩, by simp [intOf]; omega⟩
        rw [HT.out]; exact hS3.store _
      · have HT := Lib.hid (toF_no (h := lessF f g) (k := k) (by simp [lessF, hf, hg]))
        have HF := Lib.hid hf; have HG := Lib.hid hg
        clear hf hg
        go_wp2_with fail
        refine ⟨⟨k + 1, by omega, by go_num, hF2, hG2, hR2, ?_, hb4⟩, by simp [intOf]; omega⟩
        rw [HT.out]; exact hS2
    · obtain rfl : k = 256 := by omega
      have c0 := hS.c0; have c1 := hS.c1; have c2 := hS.c2; have c3 := hS.c3; have z0 := hS.z0; have z1 := hS.z1; have z2 := hS.z2; have z3 := hS.z3
      have d0 := hR.c0; have d1 := hR.c1; have d2 := hR.c2; have d3 := hR.c3; have y0 := hR.z0; have y1 := hR.z1; have y2 := hR.z2; have y3 := hR.z3
      have HE := Lib.hid (toF_all (lessF f g))
      generalize toF (lessF f g) 256 = r at *
      go_wp2_with fail
      have q := hR.store r
      exact bodyPost_ret (v := SV r) (by simp [results, Tryd.results14, go_sem, q.c0, q.c1, q.c2, q.c3]) rfl ⟨congrArg Ending.returned HE.out, below_put4 hb (by rw [HA.out]; omega) _⟩
end Go.Proofs.YtgmoaglanjfdmaaDoor.SetW
