/- Walk of SetsListed. -/
import Derived.Test.YtgmoaglanjfdmaaDoorRowLemmas
import Derived.Test.YtgmoaglanjfdmaaDoorRegionU
namespace Go.Proofs.YtgmoaglanjfdmaaDoor.SetW
set_option linter.unusedVariables false
open Go.RowKit Go.Proofs.YtgmoaglanjfdmaaDoor.SetM
open Go.Proofs.YtgmoaglanjfdmaaDoor.RegionU (Up wpU_taken wpU_one wpU_two wpU_done wp_region_U)

theorem up_owns (b : Nat) (e : TypeId) (size : Nat) (v : Value) (n : Nat) (xs : List Value) : Up (fun W => W.ownsRow b e size v n xs) := fun W W' h hr => owns_below h hr
/-- What the region of SetsListed knows of memory. -/
def Lst (w : World) (f : Nat → Bool) (v l m : Value) (W : World) : Prop :=
  (HoldsS W w.heap.size f ∧ Env W ∧ Below w.heap.size w W) ∧ W.ownsRow w.heap.size 5 1 v (elems f).length ((elems f).map u8) ∧
    W.ownsRow w.heap.size 44 2 l (spF f 256).length (pairCells (spF f 256)) ∧ W.ownsRow w.heap.size 44 2 m (spF f 256).length (pairCells (spF f 256))
theorem lst_up (w : World) (f : Nat → Bool) (v l m : Value) : Up (Lst w f v l m) := fun W W' ⟨⟨h1, h2, h3⟩, h4, h5, h6⟩ hr =>
  ⟨⟨h1.below hr, h2.below hr, h3.trans (hr.mono h3.size)⟩, owns_below h4 hr, owns_below h5 hr, owns_below h6 hr⟩
/-- Bytes that a call owns. -/
def IsBytes (b : Nat) (f : Nat → Bool) (v : Value) (W : World) : Prop := W.ownsRow b 5 1 v (elems f).length ((elems f).map u8)
theorem isBytes_up (b : Nat) (f : Nat → Bool) (v : Value) : Up (IsBytes b f v) := fun W W' h hr => owns_below h hr
theorem does_bytes {w W : World} {f : Nat → Bool} (hn : w.heap.size ≤ W.heap.size) : RegionU.does Tryd.prog W (IsBytes w.heap.size f) (.ok (.enter 24 #[SV f]) W) :=
  ⟨rfl, (refBytes_any f W).mono fun e W' ⟨u, he, ho, hb⟩ => ⟨u, he, owns_mono ho hn, hb⟩⟩

set_option maxRecDepth 100000 in
set_option maxHeartbeats 4000000 in
theorem SetsListed_any (f : Nat → Bool) (w : World) (he : Env w) :
    Calls Tryd.prog 5 #[SV f] w fun e w' => e = .returned (.bool true) ∧ Below w.heap.size w w' := by
  have HE := Lib.hid he
  clear he
  have hq := eqPair
  have HBY := Lib.hid (fun W h => Bytes_any f W h)
  have HSP := Lib.hid (fun W h => Spans_any f W h)
  have HRS := Lib.hid (fun W => refSpans_any f W)
  have HCO := Lib.hid (fun W => Count_any f W)
  have HLE := Lib.hid (fun W h => Least_any f W h)
  have HRL := Lib.hid (fun W => refLeast_any f W)
  have HKN := Lib.hid (fun W h => knows_any W h)
  have HF0 := Lib.hid (HoldsS.new w f 25)
  have HE0 := Lib.hid (HE.out.alloc (.cells #[.int .u64 (wd f 0), .int .u64 (wd f 1), .int .u64 (wd f 2), .int .u64 (wd f 3)] 25))
  have HB0 : Hid (Below w.heap.size w (w.alloc (.cells #[.int .u64 (wd f 0), .int .u64 (wd f 1), .int .u64 (wd f 2), .int .u64 (wd f 3)] 25))) := Lib.hid ((Below.refl _ _).alloc (Nat.le_refl _) _)
  go_enter Tryd.func5, Tryd.ntmps5
  go_wp2_with fail
  refine (HBY.out _ HE0.out.cells).mono ?_
  rintro e w1 ⟨v, rfl, ov, hb1⟩
  have HF1 := Lib.hid (HF0.out.below hb1)
  have HE1 := Lib.hid (HE0.out.below hb1)
  have HB1 := Lib.hid (HB0.out.trans (hb1.mono HB0.out.size))
  obtain ⟨av, cv, rfl⟩ := slice_form ov
  have HO1 := Lib.hid (owns_mono ov HB0.out.size)
  clear hb1 ov HF0 HE0 HB0
  have c0 := HF1.out.c0; have c1 := HF1.out.c1; have c2 := HF1.out.c2; have c3 := HF1.out.c3
  go_wp2_with fail
  refine (HSP.out _ HE1.out.cells).mono ?_
  rintro e w2 ⟨l, rfl, ol, hb2⟩
  have HF2 := Lib.hid (HF1.out.below hb2)
  have HE2 := Lib.hid (HE1.out.below hb2)
  have HB2 := Lib.hid (HB1.out.trans (hb2.mono HB1.out.size))
  have HO2 := Lib.hid (owns_below HO1.out hb2)
  obtain ⟨al, cl, rfl⟩ := slice_form ol
  have HL2 := Lib.hid (owns_mono ol HB1.out.size)
  clear hb2 ol HF1 HE1 HB1 HO1 c0 c1 c2 c3
  have c0 := HF2.out.c0; have c1 := HF2.out.c1; have c2 := HF2.out.c2; have c3 := HF2.out.c3
  go_wp2_with fail
  refine (HRS.out _).mono ?_
  rintro e w3 ⟨m, rfl, om, hb3⟩
  obtain ⟨am, cm, rfl⟩ := slice_form om
  have hC : Lst w f (.slice av (elems f).length cv) (.slice al (spF f 256).length cl) (.slice am (spF f 256).length cm) w3 :=
    ⟨⟨HF2.out.below hb3, HE2.out.below hb3, HB2.out.trans (hb3.mono HB2.out.size)⟩, owns_below HO2.out hb3, owns_below HL2.out hb3, owns_mono om HB2.out.size⟩
  clear hb3 om HF2 HE2 HB2 HO2 HL2 c0 c1 c2 c3
  have hCd := lst_up _ _ _ _ _ _ w3.drew hC (Below.refl _ _).drew
  clear hC
  have HU := Lib.hid (lst_up w f (.slice av (elems f).length cv) (.slice al (spF f 256).length cl) (.slice am (spF f 256).length cm))
  go_wp2_with fail
  refine wp_region_U (C := Lst w f (.slice av (elems f).length cv) (.slice al (spF f 256).length cl) (.slice am (spF f 256).length cm)) (by kernel_rfl) HU.out hCd ?_
  refine wpU_taken (i := 0) rfl (by kernel_rfl) (by kernel_rfl) (by kernel_rfl) HU.out ?_
  apply Exists.intro
  refine ⟨Or.inl ⟨rfl, fun W hW => ?hy⟩, ?_⟩
  case hy =>
    obtain ⟨⟨hF, hE, hB⟩, ho, hl, hm⟩ := hW
    go_simp
    exact RegionU.does_value rfl
  simp only [Act.put, List.setIfInBounds_toArray, List.set]
  refine wpU_taken (i := 2) rfl (by kernel_rfl) (by kernel_rfl) (by kernel_rfl) HU.out ?_
  apply Exists.intro
  refine ⟨Or.inl ⟨rfl, fun W hW => ?hy⟩, ?_⟩
  case hy =>
    obtain ⟨⟨hF, hE, hB⟩, ho, hl, hm⟩ := hW
    have c0 := hF.c0; have c1 := hF.c1; have c2 := hF.c2; have c3 := hF.c3
    go_simp
    exact RegionU.does_value rfl
  simp only [Act.put, List.setIfInBounds_toArray, List.set]
  refine wpU_taken (i := 1) rfl (by kernel_rfl) (by kernel_rfl) (by kernel_rfl) HU.out ?_
  apply Exists.intro
  refine ⟨Or.inl ⟨rfl, fun W hW => ?hy⟩, ?_⟩
  case hy =>
    obtain ⟨⟨hF, hE, hB⟩, ho, hl, hm⟩ := hW
    have hcv := conv_owned ho
    go_simp
    exact RegionU.does_value rfl
  simp only [Act.put, List.setIfInBounds_toArray, List.set]
  refine wpU_one (i := 3) (by kernel_rfl) rfl rfl (IsBytes w.heap.size f) (isBytes_up _ _) (fun W hW => ?hy) ?_
  case hy =>
    obtain ⟨⟨hF, hE, hB⟩, ho, hl, hm⟩ := hW
    go_simp
    exact does_bytes hB.size
  intro u
  simp only [Act.put, List.setIfInBounds_toArray, List.set]
  refine wpU_taken (i := 4) rfl (by kernel_rfl) (by kernel_rfl) (by kernel_rfl) (HU.out.and (isBytes_up _ _ _)) ?_
  apply Exists.intro
  refine ⟨Or.inl ⟨rfl, fun W hW => ?hy⟩, ?_⟩
  case hy =>
    obtain ⟨⟨⟨hF, hE, hB⟩, ho, hl, hm⟩, hu⟩ := hW
    have hcv := conv_owned hu
    go_simp
    exact RegionU.does_value rfl
  simp only [Act.put, List.setIfInBounds_toArray, List.set]
  refine wpU_taken (i := 5) rfl (by kernel_rfl) (by kernel_rfl) (by kernel_rfl) (HU.out.and (isBytes_up _ _ _)) ?_
  apply Exists.intro
  refine ⟨Or.inl ⟨rfl, fun W hW => ?hy⟩, ?_⟩
  case hy =>
    obtain ⟨⟨⟨hF, hE, hB⟩, ho, hl, hm⟩, hu⟩ := hW
    go_simp
    try simp only [beq_self_eq_true, bne_self_eq_false, Bool.not_true, Bool.not_false]
    exact RegionU.does_value rfl
  simp only [Act.put, List.setIfInBounds_toArray, List.set]
  refine wpU_taken (i := 6) rfl (by kernel_rfl) (by kernel_rfl) (by kernel_rfl) (HU.out.and (isBytes_up _ _ _)) ?_
  apply Exists.intro
  refine ⟨Or.inl ⟨rfl, fun W hW => ?hy⟩, ?_⟩
  case hy =>
    obtain ⟨⟨⟨hF, hE, hB⟩, ho, hl, hm⟩, hu⟩ := hW
    go_simp
    exact RegionU.does_value rfl
  simp only [Act.put, List.setIfInBounds_toArray, List.set]
  refine wpU_taken (i := 7) rfl (by kernel_rfl) (by kernel_rfl) (by kernel_rfl) (HU.out.and (isBytes_up _ _ _)) ?_
  apply Exists.intro
  refine ⟨Or.inl ⟨rfl, fun W hW => ?hy⟩, ?_⟩
  case hy =>
    obtain ⟨⟨⟨hF, hE, hB⟩, ho, hl, hm⟩, hu⟩ := hW
    have c0 := hF.c0; have c1 := hF.c1; have c2 := hF.c2; have c3 := hF.c3
    go_simp
    exact RegionU.does_value rfl
  simp only [Act.put, List.setIfInBounds_toArray, List.set]
  refine wpU_taken (i := 8) rfl (by kernel_rfl) (by kernel_rfl) (by kernel_rfl) (HU.out.and (isBytes_up _ _ _)) ?_
  apply Exists.intro
  refine ⟨Or.inl ⟨rfl, fun W hW => ?hy⟩, ?_⟩
  case hy =>
    obtain ⟨⟨⟨hF, hE, hB⟩, ho, hl, hm⟩, hu⟩ := hW
    go_simp
    exact RegionU.does_call (HCO.out W)
  simp only [Act.put, List.setIfInBounds_toArray, List.set]
  refine wpU_taken (i := 9) rfl (by kernel_rfl) (by kernel_rfl) (by kernel_rfl) (HU.out.and (isBytes_up _ _ _)) ?_
  apply Exists.intro
  refine ⟨Or.inl ⟨rfl, fun W hW => ?hy⟩, ?_⟩
  case hy =>
    obtain ⟨⟨⟨hF, hE, hB⟩, ho, hl, hm⟩, hu⟩ := hW
    go_simp
    exact RegionU.does_value rfl
  simp only [Act.put, List.setIfInBounds_toArray, List.set]
  refine wpU_taken (i := 10) rfl (by kernel_rfl) (by kernel_rfl) (by kernel_rfl) (HU.out.and (isBytes_up _ _ _)) ?_
  apply Exists.intro
  refine ⟨Or.inl ⟨rfl, fun W hW => ?hy⟩, ?_⟩
  case hy =>
    obtain ⟨⟨⟨hF, hE, hB⟩, ho, hl, hm⟩, hu⟩ := hW
    go_simp
    exact RegionU.does_value rfl
  simp only [Act.put, List.setIfInBounds_toArray, List.set]
  refine wpU_taken (i := 11) rfl (by kernel_rfl) (by kernel_rfl) (by kernel_rfl) (HU.out.and (isBytes_up _ _ _)) ?_
  apply Exists.intro
  refine ⟨Or.inl ⟨rfl, fun W hW => ?hy⟩, ?_⟩
  case hy =>
    obtain ⟨⟨⟨hF, hE, hB⟩, ho, hl, hm⟩, hu⟩ := hW
    go_simp
    try simp only [beq_self_eq_true, bne_self_eq_false, Bool.not_true, Bool.not_false]
    exact RegionU.does_value rfl
  simp only [Act.put, List.setIfInBounds_toArray, List.set]
  refine wpU_taken (i := 12) rfl (by kernel_rfl) (by kernel_rfl) (by kernel_rfl) (HU.out.and (isBytes_up _ _ _)) ?_
  apply Exists.intro
  refine ⟨Or.inl ⟨rfl, fun W hW => ?hy⟩, ?_⟩
  case hy =>
    obtain ⟨⟨⟨hF, hE, hB⟩, ho, hl, hm⟩, hu⟩ := hW
    go_simp
    exact RegionU.does_value rfl
  simp only [Act.put, List.setIfInBounds_toArray, List.set]
  refine wpU_taken (i := 13) rfl (by kernel_rfl) (by kernel_rfl) (by kernel_rfl) (HU.out.and (isBytes_up _ _ _)) ?_
  apply Exists.intro
  refine ⟨Or.inl ⟨rfl, fun W hW => ?hy⟩, ?_⟩
  case hy =>
    obtain ⟨⟨⟨hF, hE, hB⟩, ho, hl, hm⟩, hu⟩ := hW
    go_simp
    exact RegionU.does_value rfl
  simp only [Act.put, List.setIfInBounds_toArray, List.set]
  refine wpU_taken (i := 14) rfl (by kernel_rfl) (by kernel_rfl) (by kernel_rfl) (HU.out.and (isBytes_up _ _ _)) ?_
  apply Exists.intro
  refine ⟨Or.inl ⟨rfl, fun W hW => ?hy⟩, ?_⟩
  case hy =>
    obtain ⟨⟨⟨hF, hE, hB⟩, ho, hl, hm⟩, hu⟩ := hW
    have c0 := hF.c0; have c1 := hF.c1; have c2 := hF.c2; have c3 := hF.c3
    go_simp
    exact RegionU.does_value rfl
  simp only [Act.put, List.setIfInBounds_toArray, List.set]
  refine wpU_taken (i := 15) rfl (by kernel_rfl) (by kernel_rfl) (by kernel_rfl) (HU.out.and (isBytes_up _ _ _)) ?_
  apply Exists.intro
  refine ⟨Or.inl ⟨rfl, fun W hW => ?hy⟩, ?_⟩
  case hy =>
    obtain ⟨⟨⟨hF, hE, hB⟩, ho, hl, hm⟩, hu⟩ := hW
    go_simp
    exact RegionU.does_call (HLE.out W hE)
  simp only [Act.put, List.setIfInBounds_toArray, List.set]
  refine wpU_taken (i := 16) rfl (by kernel_rfl) (by kernel_rfl) (by kernel_rfl) (HU.out.and (isBytes_up _ _ _)) ?_
  apply Exists.intro
  refine ⟨Or.inl ⟨rfl, fun W hW => ?hy⟩, ?_⟩
  case hy =>
    obtain ⟨⟨⟨hF, hE, hB⟩, ho, hl, hm⟩, hu⟩ := hW
    have c0 := hF.c0; have c1 := hF.c1; have c2 := hF.c2; have c3 := hF.c3
    go_simp
    exact RegionU.does_value rfl
  simp only [Act.put, List.setIfInBounds_toArray, List.set]
  refine wpU_taken (i := 17) rfl (by kernel_rfl) (by kernel_rfl) (by kernel_rfl) (HU.out.and (isBytes_up _ _ _)) ?_
  apply Exists.intro
  refine ⟨Or.inl ⟨rfl, fun W hW => ?hy⟩, ?_⟩
  case hy =>
    obtain ⟨⟨⟨hF, hE, hB⟩, ho, hl, hm⟩, hu⟩ := hW
    go_simp
    exact RegionU.does_call (HRL.out W)
  simp only [Act.put, List.setIfInBounds_toArray, List.set]
  refine wpU_taken (i := 18) rfl (by kernel_rfl) (by kernel_rfl) (by kernel_rfl) (HU.out.and (isBytes_up _ _ _)) ?_
  apply Exists.intro
  refine ⟨Or.inl ⟨rfl, fun W hW => ?hy⟩, ?_⟩
  case hy =>
    obtain ⟨⟨⟨hF, hE, hB⟩, ho, hl, hm⟩, hu⟩ := hW
    go_simp
    try simp only [beq_self_eq_true, bne_self_eq_false, Bool.not_true, Bool.not_false]
    exact RegionU.does_value rfl
  simp only [Act.put, List.setIfInBounds_toArray, List.set]
  refine wpU_taken (i := 19) rfl (by kernel_rfl) (by kernel_rfl) (by kernel_rfl) (HU.out.and (isBytes_up _ _ _)) ?_
  apply Exists.intro
  refine ⟨Or.inl ⟨rfl, fun W hW => ?hy⟩, ?_⟩
  case hy =>
    obtain ⟨⟨⟨hF, hE, hB⟩, ho, hl, hm⟩, hu⟩ := hW
    go_simp
    exact RegionU.does_value rfl
  simp only [Act.put, List.setIfInBounds_toArray, List.set]
  refine wpU_taken (i := 20) rfl (by kernel_rfl) (by kernel_rfl) (by kernel_rfl) (HU.out.and (isBytes_up _ _ _)) ?_
  apply Exists.intro
  refine ⟨Or.inl ⟨rfl, fun W hW => ?hy⟩, ?_⟩
  case hy =>
    obtain ⟨⟨⟨hF, hE, hB⟩, ho, hl, hm⟩, hu⟩ := hW
    go_simp
    exact RegionU.does_value rfl
  simp only [Act.put, List.setIfInBounds_toArray, List.set]
  refine wpU_taken (i := 21) rfl (by kernel_rfl) (by kernel_rfl) (by kernel_rfl) (HU.out.and (isBytes_up _ _ _)) ?_
  apply Exists.intro
  refine ⟨Or.inl ⟨rfl, fun W hW => ?hy⟩, ?_⟩
  case hy =>
    obtain ⟨⟨⟨hF, hE, hB⟩, ho, hl, hm⟩, hu⟩ := hW
    go_simp
    exact RegionU.does_value rfl
  simp only [Act.put, List.setIfInBounds_toArray, List.set]
  refine wpU_taken (i := 22) rfl (by kernel_rfl) (by kernel_rfl) (by kernel_rfl) (HU.out.and (isBytes_up _ _ _)) ?_
  apply Exists.intro
  refine ⟨Or.inl ⟨rfl, fun W hW => ?hy⟩, ?_⟩
  case hy =>
    obtain ⟨⟨⟨hF, hE, hB⟩, ho, hl, hm⟩, hu⟩ := hW
    go_simp
    exact RegionU.does_value rfl
  simp only [Act.put, List.setIfInBounds_toArray, List.set]
  refine wpU_taken (i := 23) rfl (by kernel_rfl) (by kernel_rfl) (by kernel_rfl) (HU.out.and (isBytes_up _ _ _)) ?_
  apply Exists.intro
  refine ⟨Or.inl ⟨rfl, fun W hW => ?hy⟩, ?_⟩
  case hy =>
    obtain ⟨⟨⟨hF, hE, hB⟩, ho, hl, hm⟩, hu⟩ := hW
    go_simp
    exact RegionU.does_value rfl
  simp only [Act.put, List.setIfInBounds_toArray, List.set]
  refine wpU_taken (i := 24) rfl (by kernel_rfl) (by kernel_rfl) (by kernel_rfl) (HU.out.and (isBytes_up _ _ _)) ?_
  apply Exists.intro
  refine ⟨Or.inl ⟨rfl, fun W hW => ?hy⟩, ?_⟩
  case hy =>
    obtain ⟨⟨⟨hF, hE, hB⟩, ho, hl, hm⟩, hu⟩ := hW
    go_simp
    exact RegionU.does_value rfl
  simp only [Act.put, List.setIfInBounds_toArray, List.set]
  refine wpU_taken (i := 25) rfl (by kernel_rfl) (by kernel_rfl) (by kernel_rfl) (HU.out.and (isBytes_up _ _ _)) ?_
  apply Exists.intro
  refine ⟨Or.inl ⟨rfl, fun W hW => ?hy⟩, ?_⟩
  case hy =>
    obtain ⟨⟨⟨hF, hE, hB⟩, ho, hl, hm⟩, hu⟩ := hW
    go_simp
    try simp only [beq_self_eq_true, bne_self_eq_false, Bool.not_true, Bool.not_false]
    exact RegionU.does_value rfl
  simp only [Act.put, List.setIfInBounds_toArray, List.set]
  refine wpU_taken (i := 26) rfl (by kernel_rfl) (by kernel_rfl) (by kernel_rfl) (HU.out.and (isBytes_up _ _ _)) ?_
  apply Exists.intro
  refine ⟨Or.inl ⟨rfl, fun W hW => ?hy⟩, ?_⟩
  case hy =>
    obtain ⟨⟨⟨hF, hE, hB⟩, ho, hl, hm⟩, hu⟩ := hW
    go_simp
    exact RegionU.does_value rfl
  simp only [Act.put, List.setIfInBounds_toArray, List.set]
  refine wpU_done (by kernel_rfl) ?_
  intro W hW
  obtain ⟨⟨⟨hF, hE, hB⟩, ho, hl, hm⟩, hu⟩ := hW
  clear hu ho hF
  have hsm := spF_small (f := f)
  have HE9 := Lib.hid hE; have HB9 := Lib.hid hB; have HL9 := Lib.hid hl; have HM9 := Lib.hid hm
  clear hE hB hl hm hCd HU HE HBY HSP HRS HCO HLE HRL
  generalize hL : spF f 256 = L at *
  generalize hn : L.length = n at *
  have HN := Lib.hid hn
  clear hL hn
  go_wp2_with fail
  go_loopw [6] (fun i wr => ∃ k : Nat, k ≤ n ∧ i = .int .i64 k ∧ Below W.heap.size W wr) (fun i _ => n - (intOf i).toNat)
  case atStart => exact ⟨0, Nat.zero_le _, rfl, Below.refl _ _⟩
  case round =>
    obtain ⟨k, hk, rfl, hb⟩ := hrel
    by_cases hlt : k < n
    · have ol := owns_below HL9.out hb
      have om := owns_below HM9.out hb
      rw [← HN.out] at ol om
      obtain ⟨g1, c1, e1⟩ := pair_form ol (by rw [HN.out]; omega)
      obtain ⟨g2, c2, e2⟩ := pair_form om (by rw [HN.out]; omega)
      rw [e1] at ol
      rw [e2] at om
      simp only [Value.slice.injEq] at e1 e2
      obtain ⟨rfl, _, rfl⟩ := e1
      obtain ⟨rfl, _, rfl⟩ := e2
      obtain ⟨x1, x2⟩ := pairs_at ol k (by rw [HN.out]; exact hlt)
      obtain ⟨y1, y2⟩ := pairs_at om k (by rw [HN.out]; exact hlt)
      generalize hp : L[k]'(by rw [HN.out]; exact hlt) = p at *
      clear hp ol om
      have hki : (k : Int) < (n : Int) := by omega
      have hk0 : (0 : Int) ≤ (k : Int) := by omega
      go_wp2_with fail
      go_quiet (fail)
      go_wp2_with fail
      exact ⟨⟨k + 1, by omega, by go_num, hb.trans ⟨rfl, rfl, rfl, Nat.le_refl _, fun _ _ => rfl⟩⟩, by simp [intOf]; omega⟩
    · have hB := HB9.out.trans (hb.mono HB9.out.size)
      have hE := HE9.out.below hb
      go_wp2_with fail
      refine (HKN.out _ hE).mono ?_
      rintro e w7 ⟨rfl, hb7⟩
      go_wp2_with fail
      go_ret
      exact ⟨rfl, hB.trans (hb7.mono hB.size)⟩
end Go.Proofs.YtgmoaglanjfdmaaDoor.SetW
