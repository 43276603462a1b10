/- Walk of QuotientTells. -/
import Derived.Test.YthefhkgjadfhgaaDoorQuoMerges
import Derived.Test.YthefhkgjadfhgaaDoorTell
namespace Go.Proofs.YthefhkgjadfhgaaDoor.DfaW
set_option linter.unusedVariables false
set_option linter.unusedSimpArgs false
open Go.Proofs.YthefhkgjadfhgaaDoor.RegionU (Up wpU_taken wpU_one wpU_done wp_region_U)
open Go.RowKit Go.Maps Go.Proofs.YthefhkgjadfhgaaDoor.PartM Go.Proofs.YthefhkgjadfhgaaDoor.PartW
/-- Two machines in their boxes, a word; what lay in w lies. -/
structure KT (w : World) (b p : Nat) (C D : Array Value) (m k : Mc) (v : Value) (l : List Nat) (W : World) : Prop where
  x : Bx W b C m
  y : Bx W p D k
  z : BS W.heap.size W v l
  lo : Below w.heap.size w W
theorem KT.up (w : World) (b p : Nat) (C D : Array Value) (m k : Mc) (v : Value) (l : List Nat) : Up (KT w b p C D m k v l) := fun W W' h hr => ⟨h.x.below hr, h.y.below hr, h.z.next hr, h.lo.trans (hr.mono h.lo.size)⟩
set_option maxRecDepth 100000 in
set_option maxHeartbeats 16000000 in
theorem QuoTells_any (HME : MergeT 8) (HST : StableC 13) (HOF : OfC 14) (HJO : JoinC 15) (HFI : FinerC 16) (HKN : KnowsC)
    {C : Array Value} {m : Mc} {va vb vw : Value} {a b : List Int} {bs : List Nat} (w : World) (he : SetW.Env w) (h : IsM w.heap.size w C m) (ha : IS w.heap.size w va a) (hb : IS w.heap.size w vb b) (ha6 : I64 a) (hb6 : I64 b) (hw : BS w.heap.size w vw bs) :
    Calls Tryd.prog 4 #[.agg C, va, vb, vw] w fun e w' => e = .returned (.bool true) ∧ Below w.heap.size w w' := by
  have HZS := Lib.hid zc_size
  have HENV := Lib.hid he; have H6 := Lib.hid (show I64 a ∧ I64 b from ⟨ha6, hb6⟩)
  have HAB := Lib.hid (fun W (h : Below w.heap.size w W) => (⟨ha.on h h.size, hb.on h h.size⟩ : _ ∧ _))
  have HW := Lib.hid (fun W (h : Below w.heap.size w W) => hw.next h)
  have HBL := Lib.hid hw.2
  have HM := Lib.hid h; have HX := Lib.hid (Bx.new h)
  have HB0 := Lib.hid (show Below w.heap.size w (w.alloc (.cells C 27)) from (Below.refl _ _).alloc (Nat.le_refl _) _)
  obtain ⟨aa, ca, rfl, _, ga, _⟩ := ha.open
  obtain ⟨ab, cb, rfl, _, gb, _⟩ := hb.open
  obtain ⟨aw, cw, rfl, _, gw, _⟩ := hw.open
  obtain ⟨a1, a2, a3, c1, c2, c3, k1, k2, k3⟩ := h.slices
  obtain ⟨N, hN⟩ : ∃ L, L = m.lb.length := ⟨_, rfl⟩
  rw [← hN] at k2
  have y2 := (HX.out.lbv k2).1
  have HK2 := Lib.hid k2
  have HNL := Lib.hid hN
  clear h ha hb hw ha6 hb6 he ga gb gw k1 k2 k3 hN
  obtain ⟨La, hLa⟩ : ∃ L, L = a.length := ⟨_, rfl⟩
  obtain ⟨Lb, hLb⟩ : ∃ L, L = b.length := ⟨_, rfl⟩
  obtain ⟨Lw, hLw⟩ : ∃ L, L = bs.length := ⟨_, rfl⟩
  rw [← hLa, ← hLb] at HAB
  rw [← hLw] at HW
  rw [← hLa, ← hLb, ← hLw]
  have HLL := Lib.hid (show La = a.length ∧ Lb = b.length from ⟨hLa, hLb⟩)
  clear hLa hLb hLw
  go_enter Tryd.func4, Tryd.ntmps4
  by_cases h1 : 300 < N
  · have t0 : decide ((N : Int) > 300) = true := by simp; omega
    go_wp2_with fail
    refine (HKN _).mono ?_
    rintro e w1 ⟨rfl, hb1⟩
    have HB1 := Lib.hid (HB0.out.trans (hb1.mono HB0.out.size))
    clear hb1
    go_wp2_with fail
    go_ret
    exact ⟨rfl, HB1.out⟩
  have t0 : decide ((N : Int) > 300) = false := by simp; omega
  have HN3 := Lib.hid (show N ≤ 300 by omega)
  clear h1
  go_wp2_with (refine wpList_load_dfa_g rfl (.tmp 4) rfl rfl HX.out ?_)
  clear t0 y2
  refine (RightD_any _ HX.out.is).mono ?_
  rintro e w1 ⟨hs, hb1⟩
  have HX1 := Lib.hid (HX.out.below hb1); have HB1 := Lib.hid (HB0.out.trans (hb1.mono HB0.out.size))
  clear hb1 HX HB0
  rcases hs.elim with ⟨rfl, hk⟩ | ⟨rfl, hk⟩
  case inr =>
    clear hs hk
    go_wp2_with fail
    refine (HKN _).mono ?_
    rintro e w2 ⟨rfl, hb2⟩
    have HB2 := Lib.hid (HB1.out.trans (hb2.mono HB1.out.size))
    clear hb2
    go_wp2_with fail
    go_ret
    exact ⟨rfl, HB2.out⟩
  have HOK := Lib.hid hk
  clear hs hk
  go_wp2_with (refine wpList_load_dfa rfl (.tmp 4) rfl rfl HX1.out ?_)
  refine (HME w1 (HENV.out.below HB1.out) (show Rx (fun k => w.heap.size ≤ k ∧ k < w1.heap.size) w1 C m from ((HM.out.below HB1.out).rx HB1.out.size).mono fun k hk => hk.1) (fun k hk => hk.2)).mono ?_
  rintro e w2 ⟨D, he, hD, hb1⟩
  rw [(merge_yes HOK.out).1] at he
  rw [(merge_yes HOK.out).2] at hD
  subst he
  have HDS := Lib.hid hD.is.size; have HDO := Lib.hid hD.is.one
  have hb2 := hb1.trans ((ist_below w2 D).mono hb1.size)
  have HX2 := Lib.hid (HX1.out.below hb2); have HB2 := Lib.hid (HB1.out.trans (hb2.mono HB1.out.size))
  have HY := Lib.hid (bx_store hD.is)
  clear hD hb1 hb2 HX1 HB1
  go_wp2_with (refine wpList_store_dfa rfl (.tmp 9) (.tmp 27) rfl rfl rfl (Ar.new _ _ _) HZS.out HDS.out HDO.out ?_; simp only [Act.put])
  obtain ⟨p, hp⟩ : ∃ b, b = w2.heap.size := ⟨_, rfl⟩
  rw [← hp] at HY HX2 HB2 ⊢
  generalize ((w2.alloc (.cells Tryd.zeroCells27 27)).setRow p D) = W2 at *
  clear hp
  obtain ⟨S, hS⟩ : ∃ S, S = nameV m bs := ⟨_, rfl⟩
  have HSM := Lib.hid (show nameV (mergeN m) bs = S by rw [hS]; exact merge_name HOK.out HBL.out)
  have HSE := Lib.hid (show nameV m bs = S from hS.symm)
  have HMO := Lib.hid (mergeN_ok HOK.out)
  obtain ⟨xm, hxm⟩ : ∃ x, x = (mergeN m).wd := ⟨_, rfl⟩
  obtain ⟨xd, hxd⟩ : ∃ x, x = m.wd := ⟨_, rfl⟩
  have t0 : decide (xm > xd) = false := by have := merge_wd HOK.out; simp; omega
  have HXM := Lib.hid hxm; have HXD := Lib.hid hxd
  have tS : (S.toList != S.toList) = false := by simp [bne]
  clear hS hxm hxd
  obtain ⟨nb, hnb⟩ : ∃ n, n = w.heap.size := ⟨_, rfl⟩
  have HNB := Lib.hid hnb
  have HKT := Lib.hid (show KT w w.heap.size p C D m (mergeN m) (.slice aw Lw cw) bs W2.drew from KT.up _ _ _ _ _ _ _ _ _ W2 _ ⟨HX2.out, HY.out, HW.out _ HB2.out, HB2.out⟩ (Below.refl _ _).drew)
  refine wp_region_U (by kernel_rfl) (KT.up w w.heap.size p C D m (mergeN m) (.slice aw Lw cw) bs) HKT.out ?_
  refine wpU_taken (i := 0) rfl (by kernel_rfl) (by kernel_rfl) (by kernel_rfl) (KT.up w w.heap.size p C D m (mergeN m) (.slice aw Lw cw) bs) ?_
  apply Exists.intro
  refine ⟨Or.inl ⟨rfl, fun W hW => ?hy⟩, ?_⟩
  case hy =>
    go_simp
    exact RegionU.does_value rfl
  simp only [Act.put, List.setIfInBounds_toArray, List.set]
  refine wpU_taken (i := 1) rfl (by kernel_rfl) (by kernel_rfl) (by kernel_rfl) (KT.up w w.heap.size p C D m (mergeN m) (.slice aw Lw cw) bs) ?_
  apply Exists.intro
  refine ⟨Or.inl ⟨rfl, fun W hW => ?hy⟩, ?_⟩
  case hy =>
    go_simp
    exact RegionU.does_value rfl
  simp only [Act.put, List.setIfInBounds_toArray, List.set]
  refine wpU_taken (i := 2) rfl (by kernel_rfl) (by kernel_rfl) (by kernel_rfl) (KT.up w w.heap.size p C D m (mergeN m) (.slice aw Lw cw) bs) ?_
  apply Exists.intro
  refine ⟨Or.inl ⟨rfl, fun W hW => ?hy⟩, ?_⟩
  case hy =>
    go_simp
    exact RegionU.does_value rfl
  simp only [Act.put, List.setIfInBounds_toArray, List.set]
  refine wpU_taken (i := 3) rfl (by kernel_rfl) (by kernel_rfl) (by kernel_rfl) (KT.up w w.heap.size p C D m (mergeN m) (.slice aw Lw cw) bs) ?_
  apply Exists.intro
  refine ⟨Or.inl ⟨rfl, fun W hW => ?hy⟩, ?_⟩
  case hy =>
    exact does_eq (run_load_dfa (.tmp 9) rfl rfl hW.y)
  simp only [Act.put, List.setIfInBounds_toArray, List.set]
  refine wpU_taken (i := 4) rfl (by kernel_rfl) (by kernel_rfl) (by kernel_rfl) (KT.up w w.heap.size p C D m (mergeN m) (.slice aw Lw cw) bs) ?_
  apply Exists.intro
  refine ⟨Or.inl ⟨rfl, fun W hW => ?hy⟩, ?_⟩
  case hy =>
    go_simp
    exact RegionU.does_call ((RightD_any W hW.y.is).mono fun e w' ⟨h, hb⟩ => ⟨h.true HMO.out, hb⟩)
  simp only [Act.put, List.setIfInBounds_toArray, List.set]
  refine wpU_taken (i := 5) rfl (by kernel_rfl) (by kernel_rfl) (by kernel_rfl) (KT.up w w.heap.size p C D m (mergeN m) (.slice aw Lw cw) bs) ?_
  apply Exists.intro
  refine ⟨Or.inl ⟨rfl, fun W hW => ?hy⟩, ?_⟩
  case hy =>
    go_simp
    exact RegionU.does_value rfl
  simp only [Act.put, List.setIfInBounds_toArray, List.set]
  refine wpU_taken (i := 6) rfl (by kernel_rfl) (by kernel_rfl) (by kernel_rfl) (KT.up w w.heap.size p C D m (mergeN m) (.slice aw Lw cw) bs) ?_
  apply Exists.intro
  refine ⟨Or.inl ⟨rfl, fun W hW => ?hy⟩, ?_⟩
  case hy =>
    go_simp
    exact RegionU.does_value rfl
  simp only [Act.put, List.setIfInBounds_toArray, List.set]
  refine wpU_taken (i := 7) rfl (by kernel_rfl) (by kernel_rfl) (by kernel_rfl) (KT.up w w.heap.size p C D m (mergeN m) (.slice aw Lw cw) bs) ?_
  apply Exists.intro
  refine ⟨Or.inl ⟨rfl, fun W hW => ?hy⟩, ?_⟩
  case hy =>
    go_simp
    exact RegionU.does_value rfl
  simp only [Act.put, List.setIfInBounds_toArray, List.set]
  refine wpU_taken (i := 8) rfl (by kernel_rfl) (by kernel_rfl) (by kernel_rfl) (KT.up w w.heap.size p C D m (mergeN m) (.slice aw Lw cw) bs) ?_
  apply Exists.intro
  refine ⟨Or.inl ⟨rfl, fun W hW => ?hy⟩, ?_⟩
  case hy =>
    go_simp
    exact RegionU.does_value rfl
  simp only [Act.put, List.setIfInBounds_toArray, List.set]
  refine wpU_taken (i := 9) rfl (by kernel_rfl) (by kernel_rfl) (by kernel_rfl) (KT.up w w.heap.size p C D m (mergeN m) (.slice aw Lw cw) bs) ?_
  apply Exists.intro
  refine ⟨Or.inl ⟨rfl, fun W hW => ?hy⟩, ?_⟩
  case hy =>
    have d := hW.y.wd
    rw [← HXM.out] at d
    go_simp
    exact RegionU.does_value rfl
  simp only [Act.put, List.setIfInBounds_toArray, List.set]
  refine wpU_taken (i := 10) rfl (by kernel_rfl) (by kernel_rfl) (by kernel_rfl) (KT.up w w.heap.size p C D m (mergeN m) (.slice aw Lw cw) bs) ?_
  apply Exists.intro
  refine ⟨Or.inl ⟨rfl, fun W hW => ?hy⟩, ?_⟩
  case hy =>
    go_simp
    exact RegionU.does_value rfl
  simp only [Act.put, List.setIfInBounds_toArray, List.set]
  refine wpU_taken (i := 11) rfl (by kernel_rfl) (by kernel_rfl) (by kernel_rfl) (KT.up w w.heap.size p C D m (mergeN m) (.slice aw Lw cw) bs) ?_
  apply Exists.intro
  refine ⟨Or.inl ⟨rfl, fun W hW => ?hy⟩, ?_⟩
  case hy =>
    have d := hW.x.wd
    rw [← HXD.out] at d
    go_simp
    exact RegionU.does_value rfl
  simp only [Act.put, List.setIfInBounds_toArray, List.set]
  refine wpU_taken (i := 12) rfl (by kernel_rfl) (by kernel_rfl) (by kernel_rfl) (KT.up w w.heap.size p C D m (mergeN m) (.slice aw Lw cw) bs) ?_
  apply Exists.intro
  refine ⟨Or.inl ⟨rfl, fun W hW => ?hy⟩, ?_⟩
  case hy =>
    go_simp
    exact RegionU.does_value rfl
  simp only [Act.put, List.setIfInBounds_toArray, List.set]
  refine wpU_taken (i := 13) rfl (by kernel_rfl) (by kernel_rfl) (by kernel_rfl) (KT.up w w.heap.size p C D m (mergeN m) (.slice aw Lw cw) bs) ?_
  apply Exists.intro
  refine ⟨Or.inl ⟨rfl, fun W hW => ?hy⟩, ?_⟩
  case hy =>
    go_simp
    exact RegionU.does_value rfl
  simp only [Act.put, List.setIfInBounds_toArray, List.set]
  refine wpU_taken (i := 14) rfl (by kernel_rfl) (by kernel_rfl) (by kernel_rfl) (KT.up w w.heap.size p C D m (mergeN m) (.slice aw Lw cw) bs) ?_
  apply Exists.intro
  refine ⟨Or.inl ⟨rfl, fun W hW => ?hy⟩, ?_⟩
  case hy =>
    go_simp
    exact RegionU.does_value rfl
  simp only [Act.put, List.setIfInBounds_toArray, List.set]
  refine wpU_taken (i := 15) rfl (by kernel_rfl) (by kernel_rfl) (by kernel_rfl) (KT.up w w.heap.size p C D m (mergeN m) (.slice aw Lw cw) bs) ?_
  apply Exists.intro
  refine ⟨Or.inl ⟨rfl, fun W hW => ?hy⟩, ?_⟩
  case hy =>
    exact does_eq (run_load_dfa (.tmp 9) rfl rfl hW.y)
  simp only [Act.put, List.setIfInBounds_toArray, List.set]
  refine wpU_taken (i := 16) rfl (by kernel_rfl) (by kernel_rfl) (by kernel_rfl) (KT.up w w.heap.size p C D m (mergeN m) (.slice aw Lw cw) bs) ?_
  apply Exists.intro
  refine ⟨Or.inl ⟨rfl, fun W hW => ?hy⟩, ?_⟩
  case hy =>
    go_simp
    exact RegionU.does_value rfl
  simp only [Act.put, List.setIfInBounds_toArray, List.set]
  refine wpU_taken (i := 17) rfl (by kernel_rfl) (by kernel_rfl) (by kernel_rfl) (KT.up w w.heap.size p C D m (mergeN m) (.slice aw Lw cw) bs) ?_
  apply Exists.intro
  refine ⟨Or.inl ⟨rfl, fun W hW => ?hy⟩, ?_⟩
  case hy =>
    go_simp
    exact RegionU.does_call ((Name_any' W hW.y.is hW.z).mono fun e w' ⟨h, hb⟩ => ⟨by rw [h, HSM.out], hb⟩)
  simp only [Act.put, List.setIfInBounds_toArray, List.set]
  refine wpU_taken (i := 18) rfl (by kernel_rfl) (by kernel_rfl) (by kernel_rfl) (KT.up w w.heap.size p C D m (mergeN m) (.slice aw Lw cw) bs) ?_
  apply Exists.intro
  refine ⟨Or.inl ⟨rfl, fun W hW => ?hy⟩, ?_⟩
  case hy =>
    exact does_eq (run_load_dfa (.tmp 4) rfl rfl hW.x)
  simp only [Act.put, List.setIfInBounds_toArray, List.set]
  refine wpU_taken (i := 19) rfl (by kernel_rfl) (by kernel_rfl) (by kernel_rfl) (KT.up w w.heap.size p C D m (mergeN m) (.slice aw Lw cw) bs) ?_
  apply Exists.intro
  refine ⟨Or.inl ⟨rfl, fun W hW => ?hy⟩, ?_⟩
  case hy =>
    go_simp
    exact RegionU.does_value rfl
  simp only [Act.put, List.setIfInBounds_toArray, List.set]
  refine wpU_taken (i := 20) rfl (by kernel_rfl) (by kernel_rfl) (by kernel_rfl) (KT.up w w.heap.size p C D m (mergeN m) (.slice aw Lw cw) bs) ?_
  apply Exists.intro
  refine ⟨Or.inl ⟨rfl, fun W hW => ?hy⟩, ?_⟩
  case hy =>
    go_simp
    exact RegionU.does_call ((Name_any' W hW.x.is hW.z).mono fun e w' ⟨h, hb⟩ => ⟨by rw [h, HSE.out], hb⟩)
  simp only [Act.put, List.setIfInBounds_toArray, List.set]
  refine wpU_taken (i := 21) rfl (by kernel_rfl) (by kernel_rfl) (by kernel_rfl) (KT.up w w.heap.size p C D m (mergeN m) (.slice aw Lw cw) bs) ?_
  apply Exists.intro
  refine ⟨Or.inl ⟨rfl, fun W hW => ?hy⟩, ?_⟩
  case hy =>
    go_simp
    exact RegionU.does_value rfl
  simp only [Act.put, List.setIfInBounds_toArray, List.set]
  refine wpU_taken (i := 22) rfl (by kernel_rfl) (by kernel_rfl) (by kernel_rfl) (KT.up w w.heap.size p C D m (mergeN m) (.slice aw Lw cw) bs) ?_
  apply Exists.intro
  refine ⟨Or.inl ⟨rfl, fun W hW => ?hy⟩, ?_⟩
  case hy =>
    go_simp
    exact RegionU.does_value rfl
  simp only [Act.put, List.setIfInBounds_toArray, List.set]
  refine wpU_done (by kernel_rfl) ?_
  intro W hW
  have HX := Lib.hid hW.x; have HB := Lib.hid hW.lo
  clear hW HKT HX2 HB2 HY HXM HXD HSM HMO t0
  go_wp2_with (refine wpList_load_dfa rfl (.tmp 4) rfl rfl HX.out ?_)
  refine (HST W HX.out.is (HAB.out _ HB.out).1 H6.out.1).mono ?_
  rintro e w3 ⟨hs, hb1⟩
  have HX3 := Lib.hid (HX.out.below hb1); have HB3 := Lib.hid (HB.out.trans (hb1.mono HB.out.size))
  clear hb1 HX HB
  rcases hs.elim with ⟨rfl, hk⟩ | ⟨rfl, hk⟩
  case inr =>
    clear hs hk
    go_wp2_with fail
    refine (HKN _).mono ?_
    rintro e w4 ⟨rfl, hb2⟩
    have HB4 := Lib.hid (HB3.out.trans (hb2.mono HB3.out.size))
    clear hb2
    go_wp2_with fail
    go_ret
    exact ⟨rfl, HB4.out⟩
  have HSA := Lib.hid hk
  clear hs hk
  go_wp2_with (refine wpList_load_dfa rfl (.tmp 4) rfl rfl HX3.out ?_)
  refine (HOF w3 (show Rx (fun k => w.heap.size ≤ k ∧ k < w3.heap.size) w3 C m from ((HM.out.below HB3.out).rx HB3.out.size).mono fun k hk => hk.1) (HAB.out _ HB3.out).1 H6.out.1 (fun k hk => hk.2)).mono ?_
  rintro e w4 ⟨E, he, hE, hb1⟩
  rw [(of_yes HSA.out).1] at he
  rw [(of_yes HSA.out).2] at hE
  subst he
  have HES := Lib.hid hE.is.size; have HEO := Lib.hid hE.is.one
  have hb2 := hb1.trans ((ist_below w4 E).mono hb1.size)
  have HX4 := Lib.hid (HX3.out.below hb2); have HB4 := Lib.hid (HB3.out.trans (hb2.mono HB3.out.size))
  have HY := Lib.hid (bx_store hE.is)
  obtain ⟨e1, e2, e3, d1, d2, d3, q1, q2, q3⟩ := hE.is.slices
  have HQ2 := Lib.hid q2
  clear hE hb1 hb2 HX3 HB3 q1 q2 q3
  go_wp2_with (refine wpList_store_dfa rfl (.tmp 11) (.tmp 61) rfl rfl rfl (Ar.new _ _ _) HZS.out HES.out HEO.out ?_; simp only [Act.put])
  obtain ⟨r, hr⟩ : ∃ b, b = w4.heap.size := ⟨_, rfl⟩
  rw [← hr] at HY HX4 HB4 ⊢
  generalize ((w4.alloc (.cells Tryd.zeroCells27 27)).setRow r E) = W4 at *
  clear hr
  have HSM := Lib.hid (show nameV (ofN m a) bs = S by rw [← HSE.out]; exact of_name HSA.out HBL.out)
  have HMO := Lib.hid (ofN_ok HSA.out)
  obtain ⟨R, hR⟩ : ∃ R, R = (ofN m a).lb.length := ⟨_, rfl⟩
  rw [← hR] at HQ2
  have hRN : R ≤ N := by rw [hR, HNL.out]; exact of_less HSA.out
  have t0 : decide ((R : Int) > (N : Int)) = false := by simp; omega
  have t0n : decide (N < R) = false := by simp; omega
  clear hR hRN
  have HKT := Lib.hid (show KT w w.heap.size r C E m (ofN m a) (.slice aw Lw cw) bs W4.drew from KT.up _ _ _ _ _ _ _ _ _ W4 _ ⟨HX4.out, HY.out, HW.out _ HB4.out, HB4.out⟩ (Below.refl _ _).drew)
  refine wp_region_U (by kernel_rfl) (KT.up w w.heap.size r C E m (ofN m a) (.slice aw Lw cw) bs) HKT.out ?_
  refine wpU_taken (i := 0) rfl (by kernel_rfl) (by kernel_rfl) (by kernel_rfl) (KT.up w w.heap.size r C E m (ofN m a) (.slice aw Lw cw) bs) ?_
  apply Exists.intro
  refine ⟨Or.inl ⟨rfl, fun W hW => ?hy⟩, ?_⟩
  case hy =>
    go_simp
    exact RegionU.does_value rfl
  simp only [Act.put, List.setIfInBounds_toArray, List.set]
  refine wpU_taken (i := 1) rfl (by kernel_rfl) (by kernel_rfl) (by kernel_rfl) (KT.up w w.heap.size r C E m (ofN m a) (.slice aw Lw cw) bs) ?_
  apply Exists.intro
  refine ⟨Or.inl ⟨rfl, fun W hW => ?hy⟩, ?_⟩
  case hy =>
    go_simp
    exact RegionU.does_value rfl
  simp only [Act.put, List.setIfInBounds_toArray, List.set]
  refine wpU_taken (i := 2) rfl (by kernel_rfl) (by kernel_rfl) (by kernel_rfl) (KT.up w w.heap.size r C E m (ofN m a) (.slice aw Lw cw) bs) ?_
  apply Exists.intro
  refine ⟨Or.inl ⟨rfl, fun W hW => ?hy⟩, ?_⟩
  case hy =>
    go_simp
    exact RegionU.does_value rfl
  simp only [Act.put, List.setIfInBounds_toArray, List.set]
  refine wpU_taken (i := 3) rfl (by kernel_rfl) (by kernel_rfl) (by kernel_rfl) (KT.up w w.heap.size r C E m (ofN m a) (.slice aw Lw cw) bs) ?_
  apply Exists.intro
  refine ⟨Or.inl ⟨rfl, fun W hW => ?hy⟩, ?_⟩
  case hy =>
    exact does_eq (run_load_dfa (.tmp 11) rfl rfl hW.y)
  simp only [Act.put, List.setIfInBounds_toArray, List.set]
  refine wpU_taken (i := 4) rfl (by kernel_rfl) (by kernel_rfl) (by kernel_rfl) (KT.up w w.heap.size r C E m (ofN m a) (.slice aw Lw cw) bs) ?_
  apply Exists.intro
  refine ⟨Or.inl ⟨rfl, fun W hW => ?hy⟩, ?_⟩
  case hy =>
    go_simp
    exact RegionU.does_call ((RightD_any W hW.y.is).mono fun e w' ⟨h, hb⟩ => ⟨h.true HMO.out, hb⟩)
  simp only [Act.put, List.setIfInBounds_toArray, List.set]
  refine wpU_taken (i := 5) rfl (by kernel_rfl) (by kernel_rfl) (by kernel_rfl) (KT.up w w.heap.size r C E m (ofN m a) (.slice aw Lw cw) bs) ?_
  apply Exists.intro
  refine ⟨Or.inl ⟨rfl, fun W hW => ?hy⟩, ?_⟩
  case hy =>
    go_simp
    exact RegionU.does_value rfl
  simp only [Act.put, List.setIfInBounds_toArray, List.set]
  refine wpU_taken (i := 6) rfl (by kernel_rfl) (by kernel_rfl) (by kernel_rfl) (KT.up w w.heap.size r C E m (ofN m a) (.slice aw Lw cw) bs) ?_
  apply Exists.intro
  refine ⟨Or.inl ⟨rfl, fun W hW => ?hy⟩, ?_⟩
  case hy =>
    go_simp
    exact RegionU.does_value rfl
  simp only [Act.put, List.setIfInBounds_toArray, List.set]
  refine wpU_taken (i := 7) rfl (by kernel_rfl) (by kernel_rfl) (by kernel_rfl) (KT.up w w.heap.size r C E m (ofN m a) (.slice aw Lw cw) bs) ?_
  apply Exists.intro
  refine ⟨Or.inl ⟨rfl, fun W hW => ?hy⟩, ?_⟩
  case hy =>
    go_simp
    exact RegionU.does_value rfl
  simp only [Act.put, List.setIfInBounds_toArray, List.set]
  refine wpU_taken (i := 8) rfl (by kernel_rfl) (by kernel_rfl) (by kernel_rfl) (KT.up w w.heap.size r C E m (ofN m a) (.slice aw Lw cw) bs) ?_
  apply Exists.intro
  refine ⟨Or.inl ⟨rfl, fun W hW => ?hy⟩, ?_⟩
  case hy =>
    exact does_eq (run_load_dfa (.tmp 11) rfl rfl hW.y)
  simp only [Act.put, List.setIfInBounds_toArray, List.set]
  refine wpU_taken (i := 9) rfl (by kernel_rfl) (by kernel_rfl) (by kernel_rfl) (KT.up w w.heap.size r C E m (ofN m a) (.slice aw Lw cw) bs) ?_
  apply Exists.intro
  refine ⟨Or.inl ⟨rfl, fun W hW => ?hy⟩, ?_⟩
  case hy =>
    go_simp
    exact RegionU.does_value rfl
  simp only [Act.put, List.setIfInBounds_toArray, List.set]
  refine wpU_taken (i := 10) rfl (by kernel_rfl) (by kernel_rfl) (by kernel_rfl) (KT.up w w.heap.size r C E m (ofN m a) (.slice aw Lw cw) bs) ?_
  apply Exists.intro
  refine ⟨Or.inl ⟨rfl, fun W hW => ?hy⟩, ?_⟩
  case hy =>
    go_simp
    exact RegionU.does_call ((Name_any' W hW.y.is hW.z).mono fun e w' ⟨h, hb⟩ => ⟨by rw [h, HSM.out], hb⟩)
  simp only [Act.put, List.setIfInBounds_toArray, List.set]
  refine wpU_taken (i := 11) rfl (by kernel_rfl) (by kernel_rfl) (by kernel_rfl) (KT.up w w.heap.size r C E m (ofN m a) (.slice aw Lw cw) bs) ?_
  apply Exists.intro
  refine ⟨Or.inl ⟨rfl, fun W hW => ?hy⟩, ?_⟩
  case hy =>
    exact does_eq (run_load_dfa (.tmp 4) rfl rfl hW.x)
  simp only [Act.put, List.setIfInBounds_toArray, List.set]
  refine wpU_taken (i := 12) rfl (by kernel_rfl) (by kernel_rfl) (by kernel_rfl) (KT.up w w.heap.size r C E m (ofN m a) (.slice aw Lw cw) bs) ?_
  apply Exists.intro
  refine ⟨Or.inl ⟨rfl, fun W hW => ?hy⟩, ?_⟩
  case hy =>
    go_simp
    exact RegionU.does_value rfl
  simp only [Act.put, List.setIfInBounds_toArray, List.set]
  refine wpU_taken (i := 13) rfl (by kernel_rfl) (by kernel_rfl) (by kernel_rfl) (KT.up w w.heap.size r C E m (ofN m a) (.slice aw Lw cw) bs) ?_
  apply Exists.intro
  refine ⟨Or.inl ⟨rfl, fun W hW => ?hy⟩, ?_⟩
  case hy =>
    go_simp
    exact RegionU.does_call ((Name_any' W hW.x.is hW.z).mono fun e w' ⟨h, hb⟩ => ⟨by rw [h, HSE.out], hb⟩)
  simp only [Act.put, List.setIfInBounds_toArray, List.set]
  refine wpU_taken (i := 14) rfl (by kernel_rfl) (by kernel_rfl) (by kernel_rfl) (KT.up w w.heap.size r C E m (ofN m a) (.slice aw Lw cw) bs) ?_
  apply Exists.intro
  refine ⟨Or.inl ⟨rfl, fun W hW => ?hy⟩, ?_⟩
  case hy =>
    go_simp
    exact RegionU.does_value rfl
  simp only [Act.put, List.setIfInBounds_toArray, List.set]
  refine wpU_taken (i := 15) rfl (by kernel_rfl) (by kernel_rfl) (by kernel_rfl) (KT.up w w.heap.size r C E m (ofN m a) (.slice aw Lw cw) bs) ?_
  apply Exists.intro
  refine ⟨Or.inl ⟨rfl, fun W hW => ?hy⟩, ?_⟩
  case hy =>
    go_simp
    exact RegionU.does_value rfl
  simp only [Act.put, List.setIfInBounds_toArray, List.set]
  refine wpU_taken (i := 16) rfl (by kernel_rfl) (by kernel_rfl) (by kernel_rfl) (KT.up w w.heap.size r C E m (ofN m a) (.slice aw Lw cw) bs) ?_
  apply Exists.intro
  refine ⟨Or.inl ⟨rfl, fun W hW => ?hy⟩, ?_⟩
  case hy =>
    go_simp
    exact RegionU.does_value rfl
  simp only [Act.put, List.setIfInBounds_toArray, List.set]
  refine wpU_taken (i := 17) rfl (by kernel_rfl) (by kernel_rfl) (by kernel_rfl) (KT.up w w.heap.size r C E m (ofN m a) (.slice aw Lw cw) bs) ?_
  apply Exists.intro
  refine ⟨Or.inl ⟨rfl, fun W hW => ?hy⟩, ?_⟩
  case hy =>
    go_simp
    exact RegionU.does_value rfl
  simp only [Act.put, List.setIfInBounds_toArray, List.set]
  refine wpU_taken (i := 18) rfl (by kernel_rfl) (by kernel_rfl) (by kernel_rfl) (KT.up w w.heap.size r C E m (ofN m a) (.slice aw Lw cw) bs) ?_
  apply Exists.intro
  refine ⟨Or.inl ⟨rfl, fun W hW => ?hy⟩, ?_⟩
  case hy =>
    have d := (hW.y.lbv HQ2.out).1
    go_simp
    exact RegionU.does_value rfl
  simp only [Act.put, List.setIfInBounds_toArray, List.set]
  refine wpU_taken (i := 19) rfl (by kernel_rfl) (by kernel_rfl) (by kernel_rfl) (KT.up w w.heap.size r C E m (ofN m a) (.slice aw Lw cw) bs) ?_
  apply Exists.intro
  refine ⟨Or.inl ⟨rfl, fun W hW => ?hy⟩, ?_⟩
  case hy =>
    go_simp
    exact RegionU.does_value rfl
  simp only [Act.put, List.setIfInBounds_toArray, List.set]
  refine wpU_taken (i := 20) rfl (by kernel_rfl) (by kernel_rfl) (by kernel_rfl) (KT.up w w.heap.size r C E m (ofN m a) (.slice aw Lw cw) bs) ?_
  apply Exists.intro
  refine ⟨Or.inl ⟨rfl, fun W hW => ?hy⟩, ?_⟩
  case hy =>
    go_simp
    exact RegionU.does_value rfl
  simp only [Act.put, List.setIfInBounds_toArray, List.set]
  refine wpU_taken (i := 21) rfl (by kernel_rfl) (by kernel_rfl) (by kernel_rfl) (KT.up w w.heap.size r C E m (ofN m a) (.slice aw Lw cw) bs) ?_
  apply Exists.intro
  refine ⟨Or.inl ⟨rfl, fun W hW => ?hy⟩, ?_⟩
  case hy =>
    have d := (hW.x.lbv HK2.out).1
    go_simp
    exact RegionU.does_value rfl
  simp only [Act.put, List.setIfInBounds_toArray, List.set]
  refine wpU_taken (i := 22) rfl (by kernel_rfl) (by kernel_rfl) (by kernel_rfl) (KT.up w w.heap.size r C E m (ofN m a) (.slice aw Lw cw) bs) ?_
  apply Exists.intro
  refine ⟨Or.inl ⟨rfl, fun W hW => ?hy⟩, ?_⟩
  case hy =>
    go_simp
    exact RegionU.does_value rfl
  simp only [Act.put, List.setIfInBounds_toArray, List.set]
  refine wpU_taken (i := 23) rfl (by kernel_rfl) (by kernel_rfl) (by kernel_rfl) (KT.up w w.heap.size r C E m (ofN m a) (.slice aw Lw cw) bs) ?_
  apply Exists.intro
  refine ⟨Or.inl ⟨rfl, fun W hW => ?hy⟩, ?_⟩
  case hy =>
    go_simp
    exact RegionU.does_value rfl
  simp only [Act.put, List.setIfInBounds_toArray, List.set]
  refine wpU_taken (i := 24) rfl (by kernel_rfl) (by kernel_rfl) (by kernel_rfl) (KT.up w w.heap.size r C E m (ofN m a) (.slice aw Lw cw) bs) ?_
  apply Exists.intro
  refine ⟨Or.inl ⟨rfl, fun W hW => ?hy⟩, ?_⟩
  case hy =>
    go_simp
    exact RegionU.does_value rfl
  simp only [Act.put, List.setIfInBounds_toArray, List.set]
  refine wpU_done (by kernel_rfl) ?_
  intro W hW
  have HX := Lib.hid hW.x; have HB := Lib.hid hW.lo
  clear hW HKT HX4 HB4 HY HSM HMO t0
  have HAL := Lib.hid (show a.length ≤ 1048576 by have := HSA.out.2.1; have := HNL.out; have := HN3.out; omega)
  go_wp2_with fail
  refine (HJO W (HAB.out _ HB.out).1 (HAB.out _ HB.out).2 H6.out.1 H6.out.2 HAL.out).mono ?_
  rintro e w5 ⟨vj, rfl, hj, hb1⟩
  have HJL := Lib.hid (show (joinV a b).length ≤ 1048576 by rw [joinV_len]; have := HAL.out; omega)
  obtain ⟨aj, cj, rfl, _, _⟩ := hj.len
  have HJ := Lib.hid hj
  have HX5 := Lib.hid (HX.out.below hb1); have HB5 := Lib.hid (HB.out.trans (hb1.mono HB.out.size))
  clear hj hb1 HX HB
  go_wp2_with (refine wpList_load_dfa rfl (.tmp 4) rfl rfl HX5.out ?_)
  refine (HST w5 HX5.out.is (HAB.out _ HB5.out).2 H6.out.2).mono ?_
  rintro e w6 ⟨hs, hb1⟩
  have HX6 := Lib.hid (HX5.out.below hb1); have HB6 := Lib.hid (HB5.out.trans (hb1.mono HB5.out.size)); have HJ6 := Lib.hid (HJ.out.below hb1)
  clear hb1 HX5 HB5 HJ
  rcases hs.elim with ⟨rfl, hk⟩ | ⟨rfl, hk⟩
  case inr =>
    clear hs hk
    go_wp2_with fail
    refine (HKN _).mono ?_
    rintro e w7 ⟨rfl, hb2⟩
    have HB7 := Lib.hid (HB6.out.trans (hb2.mono HB6.out.size))
    clear hb2
    go_wp2_with fail
    go_ret
    exact ⟨rfl, HB7.out⟩
  have HSB := Lib.hid hk
  clear hs hk
  have HJ64 := Lib.hid (show I64 (joinV a b) from I64.of (numsTo_bound _ _) (by have := HJL.out; rw [joinV_len] at this; exact this))
  go_wp2_with (refine wpList_load_dfa_g rfl (.tmp 4) rfl rfl HX6.out ?_)
  refine (HST w6 HX6.out.is HJ6.out.is HJ64.out).mono ?_
  rintro e w7 ⟨hs, hb1⟩
  obtain rfl := hs.true (join_stable HSA.out HSB.out)
  have HB7 := Lib.hid (HB6.out.trans (hb1.mono HB6.out.size)); have HJ7 := Lib.hid (HJ6.out.below hb1)
  clear hb1 hs HX6 HB6 HJ6
  go_wp2_with fail
  refine (HFI w7 HJ7.out.is (HAB.out _ HB7.out).1 HJ64.out H6.out.1 HJL.out).mono ?_
  rintro e w8 ⟨hs, hb1⟩
  obtain rfl := hs.true (join_finer HSA.out HSB.out).1
  have HB8 := Lib.hid (HB7.out.trans (hb1.mono HB7.out.size)); have HJ8 := Lib.hid (HJ7.out.below hb1)
  clear hb1 hs HB7 HJ7
  go_wp2_with fail
  refine (HFI w8 HJ8.out.is (HAB.out _ HB8.out).2 HJ64.out H6.out.2 HJL.out).mono ?_
  rintro e w9 ⟨hs, hb1⟩
  obtain rfl := hs.true (join_finer HSA.out HSB.out).2
  have HB9 := Lib.hid (HB8.out.trans (hb1.mono HB8.out.size))
  clear hb1 hs HB8 HJ8
  go_wp2_with fail
  refine (HKN _).mono ?_
  rintro e w10 ⟨rfl, hb2⟩
  have HB10 := Lib.hid (HB9.out.trans (hb2.mono HB9.out.size))
  clear hb2
  go_wp2_with fail
  go_ret
  exact ⟨rfl, HB10.out⟩
end Go.Proofs.YthefhkgjadfhgaaDoor.DfaW
