/- Walk of QuotientOf. -/
import Derived.Test.YthefhkgjadfhgaaQuoBlocks
namespace Go.Proofs.Ythefhkgjadfhgaa.DfaW
set_option linter.unusedVariables false
set_option linter.unusedSimpArgs false
open Go.Proofs.Ythefhkgjadfhgaa.RegionU (Up wpW_taken wpW_takenY wpW_one wpW_two wpW_done1 wpW_done2 wpW_done3 wpW_have wp_region_W)
open Go.RowKit Go.Maps Go.Proofs.Ythefhkgjadfhgaa.PartM Go.Proofs.Ythefhkgjadfhgaa.PartW
/-- A machine in its box, two answers in theirs, a list; what lay in w lies. -/
structure KQ (w : World) (b b1 b2 : Nat) (C D E : Array Value) (m k k' : Mc) (v : Value) (l : List Int) (W : World) : Prop where
  x : Bx W b C m
  x1 : Bx W b1 D k
  x2 : Bx W b2 E k'
  i : IS W.heap.size W v l
  lo : Below w.heap.size w W
theorem KQ.up (w : World) (b b1 b2 : Nat) (C D E : Array Value) (m k k' : Mc) (v : Value) (l : List Int) : Up (KQ w b b1 b2 C D E m k k' v l) := fun W W' h hr => ⟨h.x.below hr, h.x1.below hr, h.x2.below hr, (h.i.below hr).up hr.size, h.lo.trans (hr.mono h.lo.size)⟩
set_option maxRecDepth 100000 in
set_option maxHeartbeats 8000000 in
theorem QuoOf_any (HOF : OfC 13) (HST : StableC 16) (HKN : KnowsC) {C : Array Value} {m : Mc} {v : Value} {l : List Int} (w : World) (h : IsM w.heap.size w C m) (hv : IS w.heap.size w v l) (h6 : I64 l) :
    Calls Try.prog 4 #[.agg C, v] w fun e w' => e = .returned (.bool true) ∧ Below w.heap.size w w' := by
  have HZS := Lib.hid zc_size
  have H6 := Lib.hid h6
  clear h6
  have HM := Lib.hid h; have HX := Lib.hid (Bx.new h)
  have HB0 := Lib.hid (show Below w.heap.size w (w.alloc (.cells C 31)) from (Below.refl _ _).alloc (Nat.le_refl _) _)
  have HSN := Lib.hid (show w.heap.size < (w.alloc (.cells C 31)).heap.size by simp)
  have HV := Lib.hid (fun W (h : Below w.heap.size w W) => hv.on h h.size)
  obtain ⟨av, cv, rfl, _, g1, _⟩ := hv.open
  obtain ⟨a1, a2, a3, c1, c2, c3, k1, k2, k3⟩ := h.slices
  obtain ⟨L, hL⟩ : ∃ L, L = l.length := ⟨_, rfl⟩
  obtain ⟨N, hN⟩ : ∃ L, L = m.lb.length := ⟨_, rfl⟩
  rw [← hN] at k2
  rw [← hL] at HV ⊢
  have y2 := (HX.out.lbv k2).1
  have HBIG := Lib.hid (fun W (h : Below w.heap.size w W) => (HKN W).mono fun e w' (he : e = .returned (.bool true) ∧ Below W.heap.size W w') => (⟨he.1, h.trans (he.2.mono h.size)⟩ : e = .returned (.bool true) ∧ Below w.heap.size w w'))
  clear h hv g1 k1 k2 k3
  go_enter Try.func4, Try.ntmps4
  by_cases h1 : 200 < N
  · have t0 : decide ((N : Int) > 200) = true := by simp; omega
    go_wp2_with fail
    refine (HBIG.out _ HB0.out).mono ?_
    rintro e w1 ⟨rfl, hb1⟩
    go_wp2_with fail
    go_ret
    exact ⟨rfl, hb1⟩
  have t0 : decide ((N : Int) > 200) = false := by simp; omega
  by_cases h2 : 300 < L
  · have t1 : decide ((L : Int) > 300) = true := by simp; omega
    go_wp2_with fail
    refine (HBIG.out _ HB0.out).mono ?_
    rintro e w1 ⟨rfl, hb1⟩
    go_wp2_with fail
    go_ret
    exact ⟨rfl, hb1⟩
  have t1 : decide ((L : Int) > 300) = false := by simp; omega
  clear h1 h2 hL hN
  go_wp2_with (refine wpList_load_dfa rfl (.tmp 2) rfl rfl HX.out ?_)
  clear t0 t1 y2
  refine (HOF _ (HM.out.rxb (Nat.le_refl _) HB0.out) (HV.out _ HB0.out) H6.out (fun k hk => hk.2)).mono ?_
  obtain ⟨n, hn⟩ : ∃ n, n = w.heap.size := ⟨_, rfl⟩
  have HN := Lib.hid (show n ≤ w.heap.size from Nat.le_of_eq hn); have HNE := Lib.hid hn
  rw [← hn] at HM HX HB0 HSN HV HBIG ⊢
  generalize (w.alloc (.cells C 31)) = W0 at *
  clear hn
  rintro e w1 ⟨D, rfl, hD, hb1⟩
  have HX1 := Lib.hid (HX.out.below hb1)
  have HF := Lib.hid hD.fresh
  have HDS := Lib.hid hD.is.size; have HDO := Lib.hid hD.is.one
  have hb2 : Below w1.heap.size w1 ((w1.alloc (.cells Try.zeroCells31 31)).setRow w1.heap.size D) := below_row ((Below.refl _ _).alloc (Nat.le_refl _) _) (Nat.le_refl _) _
  have HX2 := Lib.hid (HX1.out.below hb2)
  have HB2 := Lib.hid (HB0.out.trans ((hb1.trans (hb2.mono hb1.size)).mono (Nat.le_of_lt HSN.out)))
  have HS1 := Lib.hid (show n < w1.heap.size from Nat.lt_of_lt_of_le HSN.out hb1.size)
  have HSZ2 := Lib.hid hb2.size
  clear hD hb1 hb2 HX HX1
  go_wp2_with (first | (refine wpList_store_dfa rfl (.tmp 5) (.tmp 23) rfl rfl rfl (Ar.new _ _ _) HZS.out HDS.out HDO.out ?_; simp only [Act.put]) | (refine wpList_load_dfa rfl (.tmp 2) rfl rfl HX2.out ?_))
  obtain ⟨ba, hba⟩ : ∃ b, b = w1.heap.size := ⟨_, rfl⟩
  rw [← hba] at HF HX2 HB2 HSZ2 HS1 ⊢
  generalize ((w1.alloc (.cells Try.zeroCells31 31)).setRow ba D) = W2 at *
  clear hba
  refine (refOfC W2 (HM.out.rxb HN.out HB2.out) (HV.out _ HB2.out) H6.out (fun k hk => hk.2)).mono ?_
  rintro e w3 ⟨E, rfl, hE, hb1⟩
  have HG := Lib.hid hE.fresh
  have HES := Lib.hid hE.is.size; have HEO := Lib.hid hE.is.one
  have hb2 : Below w3.heap.size w3 ((w3.alloc (.cells Try.zeroCells31 31)).setRow w3.heap.size E) := below_row ((Below.refl _ _).alloc (Nat.le_refl _) _) (Nat.le_refl _) _
  have hb3 := hb1.trans (hb2.mono hb1.size)
  have HD4 := Lib.hid (show Bx ((w3.alloc (.cells Try.zeroCells31 31)).setRow w3.heap.size E) ba D (ofM m l) from ⟨HF.out.1.below hb3, (HF.out.2.next hb3).is⟩)
  have HX4 := Lib.hid (HX2.out.below hb3)
  have HB4 := Lib.hid (HB2.out.trans (hb3.mono (Nat.le_of_lt (Nat.lt_of_lt_of_le HS1.out (Nat.le_of_lt HF.out.1.lt)))))
  clear hE hb1 hb2 hb3 HX2 HF
  have HE4 := Lib.hid (show Bx ((w3.alloc (.cells Try.zeroCells31 31)).setRow w3.heap.size E) w3.heap.size E (ofM m l) from ⟨HG.out.1, HG.out.2.is⟩)
  obtain ⟨k, hk⟩ : ∃ k, k = ofE m l := ⟨_, rfl⟩
  rw [← hk]
  have t0 : (k == k) = true := by simp
  clear hk HG
  obtain ⟨bt, hbt⟩ : ∃ b, b = w.heap.size := ⟨_, rfl⟩
  go_wp2_with (refine wpList_store_dfa rfl (.tmp 7) (.tmp 29) rfl rfl rfl (Ar.new _ _ _) HZS.out HES.out HEO.out ?_; simp only [Act.put])
  obtain ⟨bb, hbb⟩ : ∃ b, b = w3.heap.size := ⟨_, rfl⟩
  rw [← hbb] at HE4 HD4 HX4 HB4 ⊢
  generalize ((w3.alloc (.cells Try.zeroCells31 31)).setRow bb E) = W4 at *
  clear hbb
  have HB4w := Lib.hid (show Below w.heap.size w W4 by rw [← HNE.out]; exact HB4.out)
  have HKQ := Lib.hid (show KQ w n ba bb C D E m (ofM m l) (ofM m l) (.slice av L cv) l W4 from ⟨HX4.out, HD4.out, HE4.out, HV.out _ HB4.out, HB4w.out⟩)
  obtain ⟨f, hf⟩ : ∃ f : Bool, f = true ↔ StableP m l := by
    by_cases h : StableP m l
    · exact ⟨true, by simp [h]⟩
    · exact ⟨false, by simp [h]⟩
  have t3 : (f == f) = true := by simp
  have HFF := Lib.hid hf
  clear hf
  have HD := Lib.hid (show KQ w n ba bb C D E m (ofM m l) (ofM m l) (.slice av L cv) l W4.drew from KQ.up w n ba bb C D E m (ofM m l) (ofM m l) (.slice av L cv) l _ _ HKQ.out ((Below.refl _ _).drew))
  refine wp_region_W (fun i => decide (i < 20)) 20 1 (by kernel_rfl) (by kernel_rfl) (KQ.up w n ba bb C D E m (ofM m l) (ofM m l) (.slice av L cv) l) HD.out ?_
  refine wpW_taken (i := 0) rfl (by kernel_rfl) (by kernel_rfl) (by kernel_rfl) (by kernel_rfl) (KQ.up w n ba bb C D E m (ofM m l) (ofM m l) (.slice av L cv) l) ?_
  apply Exists.intro
  refine ⟨Or.inl ⟨rfl, fun W hW => ?hy⟩, ?_⟩
  case hy =>
    go_simp
    exact RegionU.does_value rfl
  simp only [Act.put, List.setIfInBounds_toArray, List.set]
  refine wpW_taken (i := 1) rfl (by kernel_rfl) (by kernel_rfl) (by kernel_rfl) (by kernel_rfl) (KQ.up w n ba bb C D E m (ofM m l) (ofM m l) (.slice av L cv) l) ?_
  apply Exists.intro
  refine ⟨Or.inl ⟨rfl, fun W hW => ?hy⟩, ?_⟩
  case hy =>
    go_simp
    exact RegionU.does_value rfl
  simp only [Act.put, List.setIfInBounds_toArray, List.set]
  refine wpW_taken (i := 2) rfl (by kernel_rfl) (by kernel_rfl) (by kernel_rfl) (by kernel_rfl) (KQ.up w n ba bb C D E m (ofM m l) (ofM m l) (.slice av L cv) l) ?_
  apply Exists.intro
  refine ⟨Or.inl ⟨rfl, fun W hW => ?hy⟩, ?_⟩
  case hy =>
    go_simp
    exact RegionU.does_value rfl
  simp only [Act.put, List.setIfInBounds_toArray, List.set]
  refine wpW_taken (i := 3) rfl (by kernel_rfl) (by kernel_rfl) (by kernel_rfl) (by kernel_rfl) (KQ.up w n ba bb C D E m (ofM m l) (ofM m l) (.slice av L cv) l) ?_
  apply Exists.intro
  refine ⟨Or.inl ⟨rfl, fun W hW => ?hy⟩, ?_⟩
  case hy =>
    go_simp
    exact RegionU.does_value rfl
  simp only [Act.put, List.setIfInBounds_toArray, List.set]
  refine wpW_taken (i := 4) rfl (by kernel_rfl) (by kernel_rfl) (by kernel_rfl) (by kernel_rfl) (KQ.up w n ba bb C D E m (ofM m l) (ofM m l) (.slice av L cv) l) ?_
  apply Exists.intro
  refine ⟨Or.inl ⟨rfl, fun W hW => ?hy⟩, ?_⟩
  case hy =>
    exact does_eq (run_load_dfa (.tmp 5) rfl rfl hW.x1)
  simp only [Act.put, List.setIfInBounds_toArray, List.set]
  refine wpW_taken (i := 5) rfl (by kernel_rfl) (by kernel_rfl) (by kernel_rfl) (by kernel_rfl) (KQ.up w n ba bb C D E m (ofM m l) (ofM m l) (.slice av L cv) l) ?_
  apply Exists.intro
  refine ⟨Or.inl ⟨rfl, fun W hW => ?hy⟩, ?_⟩
  case hy =>
    exact does_eq (run_load_dfa (.tmp 7) rfl rfl hW.x2)
  simp only [Act.put, List.setIfInBounds_toArray, List.set]
  refine wpW_taken (i := 6) rfl (by kernel_rfl) (by kernel_rfl) (by kernel_rfl) (by kernel_rfl) (KQ.up w n ba bb C D E m (ofM m l) (ofM m l) (.slice av L cv) l) ?_
  apply Exists.intro
  refine ⟨Or.inl ⟨rfl, fun W hW => ?hy⟩, ?_⟩
  case hy =>
    go_simp
    exact RegionU.does_call ((refSameD_any W hW.x1.is hW.x2.is).mono fun e w' ⟨h, hb⟩ => ⟨h.true (same_of _), hb⟩)
  simp only [Act.put, List.setIfInBounds_toArray, List.set]
  refine wpW_taken (i := 7) rfl (by kernel_rfl) (by kernel_rfl) (by kernel_rfl) (by kernel_rfl) (KQ.up w n ba bb C D E m (ofM m l) (ofM m l) (.slice av L cv) l) ?_
  apply Exists.intro
  refine ⟨Or.inl ⟨rfl, fun W hW => ?hy⟩, ?_⟩
  case hy =>
    go_simp
    exact RegionU.does_value rfl
  simp only [Act.put, List.setIfInBounds_toArray, List.set]
  refine wpW_taken (i := 8) rfl (by kernel_rfl) (by kernel_rfl) (by kernel_rfl) (by kernel_rfl) (KQ.up w n ba bb C D E m (ofM m l) (ofM m l) (.slice av L cv) l) ?_
  apply Exists.intro
  refine ⟨Or.inl ⟨rfl, fun W hW => ?hy⟩, ?_⟩
  case hy =>
    go_simp
    exact RegionU.does_value rfl
  simp only [Act.put, List.setIfInBounds_toArray, List.set]
  refine wpW_taken (i := 9) rfl (by kernel_rfl) (by kernel_rfl) (by kernel_rfl) (by kernel_rfl) (KQ.up w n ba bb C D E m (ofM m l) (ofM m l) (.slice av L cv) l) ?_
  apply Exists.intro
  refine ⟨Or.inl ⟨rfl, fun W hW => ?hy⟩, ?_⟩
  case hy =>
    exact does_eq (run_load_dfa (.tmp 2) rfl rfl hW.x)
  simp only [Act.put, List.setIfInBounds_toArray, List.set]
  refine wpW_taken (i := 10) rfl (by kernel_rfl) (by kernel_rfl) (by kernel_rfl) (by kernel_rfl) (KQ.up w n ba bb C D E m (ofM m l) (ofM m l) (.slice av L cv) l) ?_
  apply Exists.intro
  refine ⟨Or.inl ⟨rfl, fun W hW => ?hy⟩, ?_⟩
  case hy =>
    go_simp
    exact RegionU.does_value rfl
  simp only [Act.put, List.setIfInBounds_toArray, List.set]
  refine wpW_taken (i := 11) rfl (by kernel_rfl) (by kernel_rfl) (by kernel_rfl) (by kernel_rfl) (KQ.up w n ba bb C D E m (ofM m l) (ofM m l) (.slice av L cv) l) ?_
  apply Exists.intro
  refine ⟨Or.inl ⟨rfl, fun W hW => ?hy⟩, ?_⟩
  case hy =>
    go_simp
    exact RegionU.does_call ((HST W hW.x.is hW.i H6.out).mono fun e w' ⟨h, hb⟩ => ⟨h.bool HFF.out, hb⟩)
  simp only [Act.put, List.setIfInBounds_toArray, List.set]
  refine wpW_taken (i := 12) rfl (by kernel_rfl) (by kernel_rfl) (by kernel_rfl) (by kernel_rfl) (KQ.up w n ba bb C D E m (ofM m l) (ofM m l) (.slice av L cv) l) ?_
  apply Exists.intro
  refine ⟨Or.inl ⟨rfl, fun W hW => ?hy⟩, ?_⟩
  case hy =>
    exact does_eq (run_load_dfa (.tmp 2) rfl rfl hW.x)
  simp only [Act.put, List.setIfInBounds_toArray, List.set]
  refine wpW_taken (i := 13) rfl (by kernel_rfl) (by kernel_rfl) (by kernel_rfl) (by kernel_rfl) (KQ.up w n ba bb C D E m (ofM m l) (ofM m l) (.slice av L cv) l) ?_
  apply Exists.intro
  refine ⟨Or.inl ⟨rfl, fun W hW => ?hy⟩, ?_⟩
  case hy =>
    go_simp
    exact RegionU.does_value rfl
  simp only [Act.put, List.setIfInBounds_toArray, List.set]
  refine wpW_taken (i := 14) rfl (by kernel_rfl) (by kernel_rfl) (by kernel_rfl) (by kernel_rfl) (KQ.up w n ba bb C D E m (ofM m l) (ofM m l) (.slice av L cv) l) ?_
  apply Exists.intro
  refine ⟨Or.inl ⟨rfl, fun W hW => ?hy⟩, ?_⟩
  case hy =>
    go_simp
    exact RegionU.does_call ((refStableC W hW.x.is hW.i H6.out).mono fun e w' ⟨h, hb⟩ => ⟨h.bool HFF.out, hb⟩)
  simp only [Act.put, List.setIfInBounds_toArray, List.set]
  refine wpW_taken (i := 15) rfl (by kernel_rfl) (by kernel_rfl) (by kernel_rfl) (by kernel_rfl) (KQ.up w n ba bb C D E m (ofM m l) (ofM m l) (.slice av L cv) l) ?_
  apply Exists.intro
  refine ⟨Or.inl ⟨rfl, fun W hW => ?hy⟩, ?_⟩
  case hy =>
    go_simp
    exact RegionU.does_value rfl
  simp only [Act.put, List.setIfInBounds_toArray, List.set]
  refine wpW_taken (i := 16) rfl (by kernel_rfl) (by kernel_rfl) (by kernel_rfl) (by kernel_rfl) (KQ.up w n ba bb C D E m (ofM m l) (ofM m l) (.slice av L cv) l) ?_
  apply Exists.intro
  refine ⟨Or.inl ⟨rfl, fun W hW => ?hy⟩, ?_⟩
  case hy =>
    go_simp
    exact RegionU.does_value rfl
  simp only [Act.put, List.setIfInBounds_toArray, List.set]
  refine wpW_taken (i := 17) rfl (by kernel_rfl) (by kernel_rfl) (by kernel_rfl) (by kernel_rfl) (KQ.up w n ba bb C D E m (ofM m l) (ofM m l) (.slice av L cv) l) ?_
  apply Exists.intro
  refine ⟨Or.inl ⟨rfl, fun W hW => ?hy⟩, ?_⟩
  case hy =>
    go_simp
    exact RegionU.does_value rfl
  simp only [Act.put, List.setIfInBounds_toArray, List.set]
  refine wpW_taken (i := 18) rfl (by kernel_rfl) (by kernel_rfl) (by kernel_rfl) (by kernel_rfl) (KQ.up w n ba bb C D E m (ofM m l) (ofM m l) (.slice av L cv) l) ?_
  apply Exists.intro
  refine ⟨Or.inl ⟨rfl, fun W hW => ?hy⟩, ?_⟩
  case hy =>
    go_simp
    exact RegionU.does_call ((HKN W).mono fun e w' ⟨h, hb⟩ => ⟨h, hb⟩)
  simp only [Act.put, List.setIfInBounds_toArray, List.set]
  refine wpW_taken (i := 19) rfl (by kernel_rfl) (by kernel_rfl) (by kernel_rfl) (by kernel_rfl) (KQ.up w n ba bb C D E m (ofM m l) (ofM m l) (.slice av L cv) l) ?_
  apply Exists.intro
  refine ⟨Or.inl ⟨rfl, fun W hW => ?hy⟩, ?_⟩
  case hy =>
    go_simp
    exact RegionU.does_value rfl
  simp only [Act.put, List.setIfInBounds_toArray, List.set]
  refine wpW_done1 (i := 20) rfl (by kernel_rfl) (by kernel_rfl) ?_
  intro W hW
  have HW := Lib.hid hW.lo
  clear hW
  go_wp2_with fail
  go_ret
  exact ⟨rfl, HW.out⟩
end Go.Proofs.Ythefhkgjadfhgaa.DfaW
