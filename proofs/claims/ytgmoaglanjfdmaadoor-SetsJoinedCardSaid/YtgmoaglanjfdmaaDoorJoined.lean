/- Walk of SetsJoined. -/
import Derived.Test.YtgmoaglanjfdmaaDoorKnows
import Derived.Test.YtgmoaglanjfdmaaDoorRegionU
namespace Go.Proofs.YtgmoaglanjfdmaaDoor.SetW
set_option linter.unusedVariables false
open Go.RowKit Go.Proofs.YtgmoaglanjfdmaaDoor.SetM
open Go.Proofs.YtgmoaglanjfdmaaDoor.RegionU (Up wpU_taken wpU_one wpU_two wpU_done wp_region_U)

/-- What the statements' regions know of memory: two boxed sets, the table, what lay below. -/
def Two (w : World) (A : Nat) (f g : Nat → Bool) (W : World) : Prop := (HoldsS W A f ∧ HoldsS W (A + 1) g) ∧ Env W ∧ Below w.heap.size w W
theorem two_up (w : World) (A : Nat) (f g : Nat → Bool) : Up (Two w A f g) := fun W W' ⟨⟨h1, h2⟩, h3, h4⟩ hr => ⟨⟨h1.below hr, h2.below hr⟩, h3.below hr, h4.trans (hr.mono h4.size)⟩

/-- A slice of these sets. -/
def IsSets (fs : List (Nat → Bool)) (v : Value) (W : World) : Prop := ∃ b, v = .slice (some ⟨b, 0, none⟩) fs.length fs.length ∧ SetsAt W b fs
theorem isSets_up (fs : List (Nat → Bool)) (v : Value) : Up (IsSets fs v) := fun W W' ⟨b, h1, h2⟩ hr => ⟨b, h1, h2.below hr⟩

set_option maxRecDepth 100000 in
set_option maxHeartbeats 4000000 in
theorem SetsJoined_any (f g : Nat → Bool) (c : Nat) (hc : c < 256) (w : World) (he : Env w) :
    Calls Tryd.prog 4 #[SV f, SV g, .int .u8 c] w fun e w' => e = .returned (.bool true) ∧ Below w.heap.size w w' := by
  have HE := Lib.hid he
  clear he
  have hq := eqSet
  have HUN := Lib.hid (fun W b h => Union2_any f g W b h)
  have hu3 := fun W b h => Union3_any f g f W b h
  rw [SV_congr (f := unionF (unionF f g) f) (g := unionF f g) (fun i _ => by unfold unionF; cases f i <;> simp)] at hu3
  have HU3 := Lib.hid hu3
  have hu0 : ∀ W, Calls Tryd.prog 13 #[.slice none 0 0] W fun e w' => e = .returned (.agg #[.int .u64 0, .int .u64 0, .int .u64 0, .int .u64 0]) ∧ Below W.heap.size W w' := fun W => by
    have h := Union0_any W
    simp only [SV, wd_empty] at h
    exact h
  have HU0 := Lib.hid hu0
  have HT0 := Lib.hid (fun W => Two0_any f g W)
  have HT1 := Lib.hid (fun W => Two1_any f g W)
  have HT2 := Lib.hid (fun W => Two2_any f g W)
  have HME := Lib.hid (fun W => Meet_any f g W)
  have HLE := Lib.hid (fun W => Less_any f g W)
  have HNO := Lib.hid (fun W => Not_any f W)
  have HRN := Lib.hid (fun W => refNot_any f W)
  have HHA := Lib.hid (fun W => Has_any f c hc W)
  have HRH := Lib.hid (fun W => refHas_any f c hc W)
  have HKN := Lib.hid (fun W h => knows_any W h)
  clear hu3 hu0
  have hwc : IntKind.i64.wrap (c : Int) = (c : Int) := IntWalk.i64_in _ (by omega)
  obtain ⟨A, hA⟩ : ∃ A, A = w.heap.size := ⟨_, rfl⟩
  have HA := Lib.hid hA; clear hA
  go_enter Tryd.func4, Tryd.ntmps4
  go_wp2_with fail
  have hb0 : Below w.heap.size w ((w.alloc (.cells #[.int .u64 (wd f 0), .int .u64 (wd f 1), .int .u64 (wd f 2), .int .u64 (wd f 3)] 25)).alloc (.cells #[.int .u64 (wd g 0), .int .u64 (wd g 1), .int .u64 (wd g 2), .int .u64 (wd g 3)] 25)) :=
    ((Below.refl _ _).alloc (Nat.le_refl _) _).alloc (by simp) _
  have hF := (HoldsS.new w f 25).alloc (.cells #[.int .u64 (wd g 0), .int .u64 (wd g 1), .int .u64 (wd g 2), .int .u64 (wd g 3)] 25)
  have hG := HoldsS.new (w.alloc (.cells #[.int .u64 (wd f 0), .int .u64 (wd f 1), .int .u64 (wd f 2), .int .u64 (wd f 3)] 25)) g 25
  simp only [World.size_alloc] at hG
  generalize ((w.alloc (.cells #[.int .u64 (wd f 0), .int .u64 (wd f 1), .int .u64 (wd f 2), .int .u64 (wd f 3)] 25)).alloc (.cells #[.int .u64 (wd g 0), .int .u64 (wd g 1), .int .u64 (wd g 2), .int .u64 (wd g 3)] 25)) = W0 at *
  rw [← HA.out] at hF hG ⊢
  have hC : Two w A f g W0 := ⟨⟨hF, hG⟩, HE.out.below hb0, hb0⟩
  have hCd : Two w A f g W0.drew := ⟨⟨hF.drew, hG.drew⟩, (HE.out.below hb0).below (Below.refl _ _).drew, hb0.drew⟩
  have HU := Lib.hid (two_up w A f g)
  clear hb0 hF hG hC
  refine wp_region_U (C := Two w A f g) (by kernel_rfl) HU.out hCd ?_
  refine wpU_taken (i := 0) rfl (by kernel_rfl) (by kernel_rfl) (by kernel_rfl) HU.out ?_
  apply Exists.intro
  refine ⟨Or.inl ⟨rfl, fun W hW => ?hy⟩, ?_⟩
  case hy =>
    obtain ⟨⟨hF, hG⟩, hE, hB⟩ := hW
    have c0 := hF.c0; have c1 := hF.c1; have c2 := hF.c2; have c3 := hF.c3; have e0 := hG.c0; have e1 := hG.c1; have e2 := hG.c2; have e3 := hG.c3
    go_simp
    exact RegionU.does_value rfl
  simp only [Act.put, List.setIfInBounds_toArray, List.set]
  refine wpU_taken (i := 1) rfl (by kernel_rfl) (by kernel_rfl) (by kernel_rfl) HU.out ?_
  apply Exists.intro
  refine ⟨Or.inl ⟨rfl, fun W hW => ?hy⟩, ?_⟩
  case hy =>
    obtain ⟨⟨hF, hG⟩, hE, hB⟩ := hW
    have c0 := hF.c0; have c1 := hF.c1; have c2 := hF.c2; have c3 := hF.c3; have e0 := hG.c0; have e1 := hG.c1; have e2 := hG.c2; have e3 := hG.c3
    go_simp
    exact RegionU.does_value rfl
  simp only [Act.put, List.setIfInBounds_toArray, List.set]
  refine wpU_taken (i := 4) rfl (by kernel_rfl) (by kernel_rfl) (by kernel_rfl) HU.out ?_
  apply Exists.intro
  refine ⟨Or.inl ⟨rfl, fun W hW => ?hy⟩, ?_⟩
  case hy =>
    obtain ⟨⟨hF, hG⟩, hE, hB⟩ := hW
    have c0 := hF.c0; have c1 := hF.c1; have c2 := hF.c2; have c3 := hF.c3; have e0 := hG.c0; have e1 := hG.c1; have e2 := hG.c2; have e3 := hG.c3
    go_simp
    exact RegionU.does_value rfl
  simp only [Act.put, List.setIfInBounds_toArray, List.set]
  refine wpU_taken (i := 5) rfl (by kernel_rfl) (by kernel_rfl) (by kernel_rfl) HU.out ?_
  apply Exists.intro
  refine ⟨Or.inl ⟨rfl, fun W hW => ?hy⟩, ?_⟩
  case hy =>
    obtain ⟨⟨hF, hG⟩, hE, hB⟩ := hW
    have c0 := hF.c0; have c1 := hF.c1; have c2 := hF.c2; have c3 := hF.c3; have e0 := hG.c0; have e1 := hG.c1; have e2 := hG.c2; have e3 := hG.c3
    go_simp
    exact RegionU.does_value rfl
  simp only [Act.put, List.setIfInBounds_toArray, List.set]
  refine wpU_one (i := 2) (by kernel_rfl) rfl rfl (IsSets [f, g]) (isSets_up _) (fun W hW => ?hy) ?_
  case hy =>
    obtain ⟨⟨hF, hG⟩, hE, hB⟩ := hW
    go_simp
    exact RegionU.does_made ⟨_, rfl, SetsAt.new2 _ _ _ _⟩ ((Below.refl _ _).alloc (Nat.le_refl _) _)
  intro u
  simp only [Act.put, List.setIfInBounds_toArray, List.set]
  refine wpU_taken (i := 3) rfl (by kernel_rfl) (by kernel_rfl) (by kernel_rfl) (HU.out.and (isSets_up _ _)) ?_
  apply Exists.intro
  refine ⟨Or.inl ⟨rfl, fun W hW => ?hy⟩, ?_⟩
  case hy =>
    obtain ⟨⟨⟨hF, hG⟩, hE, hB⟩, b, hu, hs⟩ := hW
    go_simp
    exact RegionU.does_call (HUN.out W b hs)
  simp only [Act.put, List.setIfInBounds_toArray, List.set]
  refine wpU_taken (i := 6) rfl (by kernel_rfl) (by kernel_rfl) (by kernel_rfl) (HU.out.and (isSets_up _ _)) ?_
  apply Exists.intro
  refine ⟨Or.inl ⟨rfl, fun W hW => ?hy⟩, ?_⟩
  case hy =>
    obtain ⟨⟨⟨hF, hG⟩, hE, hB⟩, b, hu, hs⟩ := hW
    go_simp
    exact RegionU.does_call (HT0.out W)
  simp only [Act.put, List.setIfInBounds_toArray, List.set]
  refine wpU_taken (i := 7) rfl (by kernel_rfl) (by kernel_rfl) (by kernel_rfl) (HU.out.and (isSets_up _ _)) ?_
  apply Exists.intro
  refine ⟨Or.inl ⟨rfl, fun W hW => ?hy⟩, ?_⟩
  case hy =>
    obtain ⟨⟨⟨hF, hG⟩, hE, hB⟩, b, hu, hs⟩ := hW
    go_simp
    exact RegionU.does_value rfl
  simp only [Act.put, List.setIfInBounds_toArray, List.set]
  refine wpU_taken (i := 8) rfl (by kernel_rfl) (by kernel_rfl) (by kernel_rfl) (HU.out.and (isSets_up _ _)) ?_
  apply Exists.intro
  refine ⟨Or.inl ⟨rfl, fun W hW => ?hy⟩, ?_⟩
  case hy =>
    obtain ⟨⟨⟨hF, hG⟩, hE, hB⟩, b, hu, hs⟩ := hW
    go_simp
    exact RegionU.does_value rfl
  simp only [Act.put, List.setIfInBounds_toArray, List.set]
  refine wpU_taken (i := 9) rfl (by kernel_rfl) (by kernel_rfl) (by kernel_rfl) (HU.out.and (isSets_up _ _)) ?_
  apply Exists.intro
  refine ⟨Or.inl ⟨rfl, fun W hW => ?hy⟩, ?_⟩
  case hy =>
    obtain ⟨⟨⟨hF, hG⟩, hE, hB⟩, b, hu, hs⟩ := hW
    have c0 := hF.c0; have c1 := hF.c1; have c2 := hF.c2; have c3 := hF.c3; have e0 := hG.c0; have e1 := hG.c1; have e2 := hG.c2; have e3 := hG.c3
    go_simp
    exact RegionU.does_value rfl
  simp only [Act.put, List.setIfInBounds_toArray, List.set]
  refine wpU_taken (i := 10) rfl (by kernel_rfl) (by kernel_rfl) (by kernel_rfl) (HU.out.and (isSets_up _ _)) ?_
  apply Exists.intro
  refine ⟨Or.inl ⟨rfl, fun W hW => ?hy⟩, ?_⟩
  case hy =>
    obtain ⟨⟨⟨hF, hG⟩, hE, hB⟩, b, hu, hs⟩ := hW
    have c0 := hF.c0; have c1 := hF.c1; have c2 := hF.c2; have c3 := hF.c3; have e0 := hG.c0; have e1 := hG.c1; have e2 := hG.c2; have e3 := hG.c3
    go_simp
    exact RegionU.does_value rfl
  simp only [Act.put, List.setIfInBounds_toArray, List.set]
  refine wpU_taken (i := 11) rfl (by kernel_rfl) (by kernel_rfl) (by kernel_rfl) (HU.out.and (isSets_up _ _)) ?_
  apply Exists.intro
  refine ⟨Or.inl ⟨rfl, fun W hW => ?hy⟩, ?_⟩
  case hy =>
    obtain ⟨⟨⟨hF, hG⟩, hE, hB⟩, b, hu, hs⟩ := hW
    go_simp
    exact RegionU.does_call (HME.out W)
  simp only [Act.put, List.setIfInBounds_toArray, List.set]
  refine wpU_taken (i := 12) rfl (by kernel_rfl) (by kernel_rfl) (by kernel_rfl) (HU.out.and (isSets_up _ _)) ?_
  apply Exists.intro
  refine ⟨Or.inl ⟨rfl, fun W hW => ?hy⟩, ?_⟩
  case hy =>
    obtain ⟨⟨⟨hF, hG⟩, hE, hB⟩, b, hu, hs⟩ := hW
    have c0 := hF.c0; have c1 := hF.c1; have c2 := hF.c2; have c3 := hF.c3; have e0 := hG.c0; have e1 := hG.c1; have e2 := hG.c2; have e3 := hG.c3
    go_simp
    exact RegionU.does_value rfl
  simp only [Act.put, List.setIfInBounds_toArray, List.set]
  refine wpU_taken (i := 13) rfl (by kernel_rfl) (by kernel_rfl) (by kernel_rfl) (HU.out.and (isSets_up _ _)) ?_
  apply Exists.intro
  refine ⟨Or.inl ⟨rfl, fun W hW => ?hy⟩, ?_⟩
  case hy =>
    obtain ⟨⟨⟨hF, hG⟩, hE, hB⟩, b, hu, hs⟩ := hW
    have c0 := hF.c0; have c1 := hF.c1; have c2 := hF.c2; have c3 := hF.c3; have e0 := hG.c0; have e1 := hG.c1; have e2 := hG.c2; have e3 := hG.c3
    go_simp
    exact RegionU.does_value rfl
  simp only [Act.put, List.setIfInBounds_toArray, List.set]
  refine wpU_taken (i := 14) rfl (by kernel_rfl) (by kernel_rfl) (by kernel_rfl) (HU.out.and (isSets_up _ _)) ?_
  apply Exists.intro
  refine ⟨Or.inl ⟨rfl, fun W hW => ?hy⟩, ?_⟩
  case hy =>
    obtain ⟨⟨⟨hF, hG⟩, hE, hB⟩, b, hu, hs⟩ := hW
    go_simp
    exact RegionU.does_call (HT1.out W)
  simp only [Act.put, List.setIfInBounds_toArray, List.set]
  refine wpU_taken (i := 15) rfl (by kernel_rfl) (by kernel_rfl) (by kernel_rfl) (HU.out.and (isSets_up _ _)) ?_
  apply Exists.intro
  refine ⟨Or.inl ⟨rfl, fun W hW => ?hy⟩, ?_⟩
  case hy =>
    obtain ⟨⟨⟨hF, hG⟩, hE, hB⟩, b, hu, hs⟩ := hW
    go_simp
    exact RegionU.does_value rfl
  simp only [Act.put, List.setIfInBounds_toArray, List.set]
  refine wpU_taken (i := 16) rfl (by kernel_rfl) (by kernel_rfl) (by kernel_rfl) (HU.out.and (isSets_up _ _)) ?_
  apply Exists.intro
  refine ⟨Or.inl ⟨rfl, fun W hW => ?hy⟩, ?_⟩
  case hy =>
    obtain ⟨⟨⟨hF, hG⟩, hE, hB⟩, b, hu, hs⟩ := hW
    go_simp
    exact RegionU.does_value rfl
  simp only [Act.put, List.setIfInBounds_toArray, List.set]
  refine wpU_taken (i := 17) rfl (by kernel_rfl) (by kernel_rfl) (by kernel_rfl) (HU.out.and (isSets_up _ _)) ?_
  apply Exists.intro
  refine ⟨Or.inl ⟨rfl, fun W hW => ?hy⟩, ?_⟩
  case hy =>
    obtain ⟨⟨⟨hF, hG⟩, hE, hB⟩, b, hu, hs⟩ := hW
    go_simp
    exact RegionU.does_value rfl
  simp only [Act.put, List.setIfInBounds_toArray, List.set]
  refine wpU_taken (i := 18) rfl (by kernel_rfl) (by kernel_rfl) (by kernel_rfl) (HU.out.and (isSets_up _ _)) ?_
  apply Exists.intro
  refine ⟨Or.inl ⟨rfl, fun W hW => ?hy⟩, ?_⟩
  case hy =>
    obtain ⟨⟨⟨hF, hG⟩, hE, hB⟩, b, hu, hs⟩ := hW
    have c0 := hF.c0; have c1 := hF.c1; have c2 := hF.c2; have c3 := hF.c3; have e0 := hG.c0; have e1 := hG.c1; have e2 := hG.c2; have e3 := hG.c3
    go_simp
    exact RegionU.does_value rfl
  simp only [Act.put, List.setIfInBounds_toArray, List.set]
  refine wpU_taken (i := 19) rfl (by kernel_rfl) (by kernel_rfl) (by kernel_rfl) (HU.out.and (isSets_up _ _)) ?_
  apply Exists.intro
  refine ⟨Or.inl ⟨rfl, fun W hW => ?hy⟩, ?_⟩
  case hy =>
    obtain ⟨⟨⟨hF, hG⟩, hE, hB⟩, b, hu, hs⟩ := hW
    have c0 := hF.c0; have c1 := hF.c1; have c2 := hF.c2; have c3 := hF.c3; have e0 := hG.c0; have e1 := hG.c1; have e2 := hG.c2; have e3 := hG.c3
    go_simp
    exact RegionU.does_value rfl
  simp only [Act.put, List.setIfInBounds_toArray, List.set]
  refine wpU_taken (i := 20) rfl (by kernel_rfl) (by kernel_rfl) (by kernel_rfl) (HU.out.and (isSets_up _ _)) ?_
  apply Exists.intro
  refine ⟨Or.inl ⟨rfl, fun W hW => ?hy⟩, ?_⟩
  case hy =>
    obtain ⟨⟨⟨hF, hG⟩, hE, hB⟩, b, hu, hs⟩ := hW
    go_simp
    exact RegionU.does_call (HLE.out W)
  simp only [Act.put, List.setIfInBounds_toArray, List.set]
  refine wpU_taken (i := 21) rfl (by kernel_rfl) (by kernel_rfl) (by kernel_rfl) (HU.out.and (isSets_up _ _)) ?_
  apply Exists.intro
  refine ⟨Or.inl ⟨rfl, fun W hW => ?hy⟩, ?_⟩
  case hy =>
    obtain ⟨⟨⟨hF, hG⟩, hE, hB⟩, b, hu, hs⟩ := hW
    have c0 := hF.c0; have c1 := hF.c1; have c2 := hF.c2; have c3 := hF.c3; have e0 := hG.c0; have e1 := hG.c1; have e2 := hG.c2; have e3 := hG.c3
    go_simp
    exact RegionU.does_value rfl
  simp only [Act.put, List.setIfInBounds_toArray, List.set]
  refine wpU_taken (i := 22) rfl (by kernel_rfl) (by kernel_rfl) (by kernel_rfl) (HU.out.and (isSets_up _ _)) ?_
  apply Exists.intro
  refine ⟨Or.inl ⟨rfl, fun W hW => ?hy⟩, ?_⟩
  case hy =>
    obtain ⟨⟨⟨hF, hG⟩, hE, hB⟩, b, hu, hs⟩ := hW
    have c0 := hF.c0; have c1 := hF.c1; have c2 := hF.c2; have c3 := hF.c3; have e0 := hG.c0; have e1 := hG.c1; have e2 := hG.c2; have e3 := hG.c3
    go_simp
    exact RegionU.does_value rfl
  simp only [Act.put, List.setIfInBounds_toArray, List.set]
  refine wpU_taken (i := 23) rfl (by kernel_rfl) (by kernel_rfl) (by kernel_rfl) (HU.out.and (isSets_up _ _)) ?_
  apply Exists.intro
  refine ⟨Or.inl ⟨rfl, fun W hW => ?hy⟩, ?_⟩
  case hy =>
    obtain ⟨⟨⟨hF, hG⟩, hE, hB⟩, b, hu, hs⟩ := hW
    go_simp
    exact RegionU.does_call (HT2.out W)
  simp only [Act.put, List.setIfInBounds_toArray, List.set]
  refine wpU_taken (i := 24) rfl (by kernel_rfl) (by kernel_rfl) (by kernel_rfl) (HU.out.and (isSets_up _ _)) ?_
  apply Exists.intro
  refine ⟨Or.inl ⟨rfl, fun W hW => ?hy⟩, ?_⟩
  case hy =>
    obtain ⟨⟨⟨hF, hG⟩, hE, hB⟩, b, hu, hs⟩ := hW
    go_simp
    exact RegionU.does_value rfl
  simp only [Act.put, List.setIfInBounds_toArray, List.set]
  refine wpU_taken (i := 25) rfl (by kernel_rfl) (by kernel_rfl) (by kernel_rfl) (HU.out.and (isSets_up _ _)) ?_
  apply Exists.intro
  refine ⟨Or.inl ⟨rfl, fun W hW => ?hy⟩, ?_⟩
  case hy =>
    obtain ⟨⟨⟨hF, hG⟩, hE, hB⟩, b, hu, hs⟩ := hW
    go_simp
    exact RegionU.does_value rfl
  simp only [Act.put, List.setIfInBounds_toArray, List.set]
  refine wpU_taken (i := 26) rfl (by kernel_rfl) (by kernel_rfl) (by kernel_rfl) (HU.out.and (isSets_up _ _)) ?_
  apply Exists.intro
  refine ⟨Or.inl ⟨rfl, fun W hW => ?hy⟩, ?_⟩
  case hy =>
    obtain ⟨⟨⟨hF, hG⟩, hE, hB⟩, b, hu, hs⟩ := hW
    go_simp
    exact RegionU.does_value rfl
  simp only [Act.put, List.setIfInBounds_toArray, List.set]
  refine wpU_taken (i := 27) rfl (by kernel_rfl) (by kernel_rfl) (by kernel_rfl) (HU.out.and (isSets_up _ _)) ?_
  apply Exists.intro
  refine ⟨Or.inl ⟨rfl, fun W hW => ?hy⟩, ?_⟩
  case hy =>
    obtain ⟨⟨⟨hF, hG⟩, hE, hB⟩, b, hu, hs⟩ := hW
    have c0 := hF.c0; have c1 := hF.c1; have c2 := hF.c2; have c3 := hF.c3; have e0 := hG.c0; have e1 := hG.c1; have e2 := hG.c2; have e3 := hG.c3
    go_simp
    exact RegionU.does_value rfl
  simp only [Act.put, List.setIfInBounds_toArray, List.set]
  refine wpU_taken (i := 28) rfl (by kernel_rfl) (by kernel_rfl) (by kernel_rfl) (HU.out.and (isSets_up _ _)) ?_
  apply Exists.intro
  refine ⟨Or.inl ⟨rfl, fun W hW => ?hy⟩, ?_⟩
  case hy =>
    obtain ⟨⟨⟨hF, hG⟩, hE, hB⟩, b, hu, hs⟩ := hW
    go_simp
    exact RegionU.does_call (HNO.out W)
  simp only [Act.put, List.setIfInBounds_toArray, List.set]
  refine wpU_taken (i := 29) rfl (by kernel_rfl) (by kernel_rfl) (by kernel_rfl) (HU.out.and (isSets_up _ _)) ?_
  apply Exists.intro
  refine ⟨Or.inl ⟨rfl, fun W hW => ?hy⟩, ?_⟩
  case hy =>
    obtain ⟨⟨⟨hF, hG⟩, hE, hB⟩, b, hu, hs⟩ := hW
    have c0 := hF.c0; have c1 := hF.c1; have c2 := hF.c2; have c3 := hF.c3; have e0 := hG.c0; have e1 := hG.c1; have e2 := hG.c2; have e3 := hG.c3
    go_simp
    exact RegionU.does_value rfl
  simp only [Act.put, List.setIfInBounds_toArray, List.set]
  refine wpU_taken (i := 30) rfl (by kernel_rfl) (by kernel_rfl) (by kernel_rfl) (HU.out.and (isSets_up _ _)) ?_
  apply Exists.intro
  refine ⟨Or.inl ⟨rfl, fun W hW => ?hy⟩, ?_⟩
  case hy =>
    obtain ⟨⟨⟨hF, hG⟩, hE, hB⟩, b, hu, hs⟩ := hW
    go_simp
    exact RegionU.does_call (HRN.out W)
  simp only [Act.put, List.setIfInBounds_toArray, List.set]
  refine wpU_taken (i := 31) rfl (by kernel_rfl) (by kernel_rfl) (by kernel_rfl) (HU.out.and (isSets_up _ _)) ?_
  apply Exists.intro
  refine ⟨Or.inl ⟨rfl, fun W hW => ?hy⟩, ?_⟩
  case hy =>
    obtain ⟨⟨⟨hF, hG⟩, hE, hB⟩, b, hu, hs⟩ := hW
    go_simp
    exact RegionU.does_value rfl
  simp only [Act.put, List.setIfInBounds_toArray, List.set]
  refine wpU_taken (i := 32) rfl (by kernel_rfl) (by kernel_rfl) (by kernel_rfl) (HU.out.and (isSets_up _ _)) ?_
  apply Exists.intro
  refine ⟨Or.inl ⟨rfl, fun W hW => ?hy⟩, ?_⟩
  case hy =>
    obtain ⟨⟨⟨hF, hG⟩, hE, hB⟩, b, hu, hs⟩ := hW
    go_simp
    exact RegionU.does_value rfl
  simp only [Act.put, List.setIfInBounds_toArray, List.set]
  refine wpU_done (by kernel_rfl) ?_
  intro W hW
  obtain ⟨⟨⟨hF, hG⟩, hE, hB⟩, _⟩ := hW
  have hCd : Two w A f g W.drew := ⟨⟨hF.drew, hG.drew⟩, hE.below (Below.refl _ _).drew, hB.drew⟩
  clear hF hG hE hB
  go_wp2_with fail
  refine wp_region_U (C := Two w A f g) (by kernel_rfl) HU.out hCd ?_
  refine wpU_taken (i := 0) rfl (by kernel_rfl) (by kernel_rfl) (by kernel_rfl) HU.out ?_
  apply Exists.intro
  refine ⟨Or.inl ⟨rfl, fun W hW => ?hy⟩, ?_⟩
  case hy =>
    obtain ⟨⟨hF, hG⟩, hE, hB⟩ := hW
    have c0 := hF.c0; have c1 := hF.c1; have c2 := hF.c2; have c3 := hF.c3; have e0 := hG.c0; have e1 := hG.c1; have e2 := hG.c2; have e3 := hG.c3
    go_simp
    exact RegionU.does_value rfl
  simp only [Act.put, List.setIfInBounds_toArray, List.set]
  refine wpU_taken (i := 1) rfl (by kernel_rfl) (by kernel_rfl) (by kernel_rfl) HU.out ?_
  apply Exists.intro
  refine ⟨Or.inl ⟨rfl, fun W hW => ?hy⟩, ?_⟩
  case hy =>
    obtain ⟨⟨hF, hG⟩, hE, hB⟩ := hW
    go_simp
    exact RegionU.does_value rfl
  simp only [Act.put, List.setIfInBounds_toArray, List.set]
  refine wpU_taken (i := 2) rfl (by kernel_rfl) (by kernel_rfl) (by kernel_rfl) HU.out ?_
  apply Exists.intro
  refine ⟨Or.inl ⟨rfl, fun W hW => ?hy⟩, ?_⟩
  case hy =>
    obtain ⟨⟨hF, hG⟩, hE, hB⟩ := hW
    go_simp
    exact RegionU.does_call (HHA.out W)
  simp only [Act.put, List.setIfInBounds_toArray, List.set]
  refine wpU_taken (i := 3) rfl (by kernel_rfl) (by kernel_rfl) (by kernel_rfl) HU.out ?_
  apply Exists.intro
  refine ⟨Or.inl ⟨rfl, fun W hW => ?hy⟩, ?_⟩
  case hy =>
    obtain ⟨⟨hF, hG⟩, hE, hB⟩ := hW
    have c0 := hF.c0; have c1 := hF.c1; have c2 := hF.c2; have c3 := hF.c3; have e0 := hG.c0; have e1 := hG.c1; have e2 := hG.c2; have e3 := hG.c3
    go_simp
    exact RegionU.does_value rfl
  simp only [Act.put, List.setIfInBounds_toArray, List.set]
  refine wpU_taken (i := 4) rfl (by kernel_rfl) (by kernel_rfl) (by kernel_rfl) HU.out ?_
  apply Exists.intro
  refine ⟨Or.inl ⟨rfl, fun W hW => ?hy⟩, ?_⟩
  case hy =>
    obtain ⟨⟨hF, hG⟩, hE, hB⟩ := hW
    go_simp
    exact RegionU.does_value rfl
  simp only [Act.put, List.setIfInBounds_toArray, List.set]
  refine wpU_taken (i := 5) rfl (by kernel_rfl) (by kernel_rfl) (by kernel_rfl) HU.out ?_
  apply Exists.intro
  refine ⟨Or.inl ⟨rfl, fun W hW => ?hy⟩, ?_⟩
  case hy =>
    obtain ⟨⟨hF, hG⟩, hE, hB⟩ := hW
    go_simp
    exact RegionU.does_value rfl
  simp only [Act.put, List.setIfInBounds_toArray, List.set]
  refine wpU_taken (i := 6) rfl (by kernel_rfl) (by kernel_rfl) (by kernel_rfl) HU.out ?_
  apply Exists.intro
  refine ⟨Or.inl ⟨rfl, fun W hW => ?hy⟩, ?_⟩
  case hy =>
    obtain ⟨⟨hF, hG⟩, hE, hB⟩ := hW
    go_simp
    exact RegionU.does_call (HRH.out W)
  simp only [Act.put, List.setIfInBounds_toArray, List.set]
  refine wpU_taken (i := 7) rfl (by kernel_rfl) (by kernel_rfl) (by kernel_rfl) HU.out ?_
  apply Exists.intro
  refine ⟨Or.inl ⟨rfl, fun W hW => ?hy⟩, ?_⟩
  case hy =>
    obtain ⟨⟨hF, hG⟩, hE, hB⟩ := hW
    go_simp
    try simp only [beq_self_eq_true]
    exact RegionU.does_value rfl
  simp only [Act.put, List.setIfInBounds_toArray, List.set]
  refine wpU_taken (i := 8) rfl (by kernel_rfl) (by kernel_rfl) (by kernel_rfl) HU.out ?_
  apply Exists.intro
  refine ⟨Or.inl ⟨rfl, fun W hW => ?hy⟩, ?_⟩
  case hy =>
    obtain ⟨⟨hF, hG⟩, hE, hB⟩ := hW
    go_simp
    exact RegionU.does_value rfl
  simp only [Act.put, List.setIfInBounds_toArray, List.set]
  refine wpU_taken (i := 10) rfl (by kernel_rfl) (by kernel_rfl) (by kernel_rfl) HU.out ?_
  apply Exists.intro
  refine ⟨Or.inl ⟨rfl, fun W hW => ?hy⟩, ?_⟩
  case hy =>
    obtain ⟨⟨hF, hG⟩, hE, hB⟩ := hW
    go_simp
    exact RegionU.does_value rfl
  simp only [Act.put, List.setIfInBounds_toArray, List.set]
  refine wpU_taken (i := 9) rfl (by kernel_rfl) (by kernel_rfl) (by kernel_rfl) HU.out ?_
  apply Exists.intro
  refine ⟨Or.inl ⟨rfl, fun W hW => ?hy⟩, ?_⟩
  case hy =>
    obtain ⟨⟨hF, hG⟩, hE, hB⟩ := hW
    go_simp
    exact RegionU.does_call (HU0.out W)
  simp only [Act.put, List.setIfInBounds_toArray, List.set]
  refine wpU_taken (i := 11) rfl (by kernel_rfl) (by kernel_rfl) (by kernel_rfl) HU.out ?_
  apply Exists.intro
  refine ⟨Or.inl ⟨rfl, fun W hW => ?hy⟩, ?_⟩
  case hy =>
    obtain ⟨⟨hF, hG⟩, hE, hB⟩ := hW
    go_simp
    exact RegionU.does_value rfl
  simp only [Act.put, List.setIfInBounds_toArray, List.set]
  refine wpU_taken (i := 12) rfl (by kernel_rfl) (by kernel_rfl) (by kernel_rfl) HU.out ?_
  apply Exists.intro
  refine ⟨Or.inl ⟨rfl, fun W hW => ?hy⟩, ?_⟩
  case hy =>
    obtain ⟨⟨hF, hG⟩, hE, hB⟩ := hW
    go_simp
    exact RegionU.does_value rfl
  simp only [Act.put, List.setIfInBounds_toArray, List.set]
  refine wpU_taken (i := 13) rfl (by kernel_rfl) (by kernel_rfl) (by kernel_rfl) HU.out ?_
  apply Exists.intro
  refine ⟨Or.inl ⟨rfl, fun W hW => ?hy⟩, ?_⟩
  case hy =>
    obtain ⟨⟨hF, hG⟩, hE, hB⟩ := hW
    go_simp
    exact RegionU.does_value rfl
  simp only [Act.put, List.setIfInBounds_toArray, List.set]
  refine wpU_taken (i := 14) rfl (by kernel_rfl) (by kernel_rfl) (by kernel_rfl) HU.out ?_
  apply Exists.intro
  refine ⟨Or.inl ⟨rfl, fun W hW => ?hy⟩, ?_⟩
  case hy =>
    obtain ⟨⟨hF, hG⟩, hE, hB⟩ := hW
    have c0 := hF.c0; have c1 := hF.c1; have c2 := hF.c2; have c3 := hF.c3; have e0 := hG.c0; have e1 := hG.c1; have e2 := hG.c2; have e3 := hG.c3
    go_simp
    exact RegionU.does_value rfl
  simp only [Act.put, List.setIfInBounds_toArray, List.set]
  refine wpU_taken (i := 15) rfl (by kernel_rfl) (by kernel_rfl) (by kernel_rfl) HU.out ?_
  apply Exists.intro
  refine ⟨Or.inl ⟨rfl, fun W hW => ?hy⟩, ?_⟩
  case hy =>
    obtain ⟨⟨hF, hG⟩, hE, hB⟩ := hW
    have c0 := hF.c0; have c1 := hF.c1; have c2 := hF.c2; have c3 := hF.c3; have e0 := hG.c0; have e1 := hG.c1; have e2 := hG.c2; have e3 := hG.c3
    go_simp
    exact RegionU.does_value rfl
  simp only [Act.put, List.setIfInBounds_toArray, List.set]
  refine wpU_taken (i := 16) rfl (by kernel_rfl) (by kernel_rfl) (by kernel_rfl) HU.out ?_
  apply Exists.intro
  refine ⟨Or.inl ⟨rfl, fun W hW => ?hy⟩, ?_⟩
  case hy =>
    obtain ⟨⟨hF, hG⟩, hE, hB⟩ := hW
    have c0 := hF.c0; have c1 := hF.c1; have c2 := hF.c2; have c3 := hF.c3; have e0 := hG.c0; have e1 := hG.c1; have e2 := hG.c2; have e3 := hG.c3
    go_simp
    exact RegionU.does_value rfl
  simp only [Act.put, List.setIfInBounds_toArray, List.set]
  refine wpU_taken (i := 19) rfl (by kernel_rfl) (by kernel_rfl) (by kernel_rfl) HU.out ?_
  apply Exists.intro
  refine ⟨Or.inl ⟨rfl, fun W hW => ?hy⟩, ?_⟩
  case hy =>
    obtain ⟨⟨hF, hG⟩, hE, hB⟩ := hW
    have c0 := hF.c0; have c1 := hF.c1; have c2 := hF.c2; have c3 := hF.c3; have e0 := hG.c0; have e1 := hG.c1; have e2 := hG.c2; have e3 := hG.c3
    go_simp
    exact RegionU.does_value rfl
  simp only [Act.put, List.setIfInBounds_toArray, List.set]
  refine wpU_taken (i := 20) rfl (by kernel_rfl) (by kernel_rfl) (by kernel_rfl) HU.out ?_
  apply Exists.intro
  refine ⟨Or.inl ⟨rfl, fun W hW => ?hy⟩, ?_⟩
  case hy =>
    obtain ⟨⟨hF, hG⟩, hE, hB⟩ := hW
    have c0 := hF.c0; have c1 := hF.c1; have c2 := hF.c2; have c3 := hF.c3; have e0 := hG.c0; have e1 := hG.c1; have e2 := hG.c2; have e3 := hG.c3
    go_simp
    exact RegionU.does_value rfl
  simp only [Act.put, List.setIfInBounds_toArray, List.set]
  refine wpU_two (i := 17) (j := 21) (by kernel_rfl) rfl rfl rfl rfl (IsSets [f, g, f]) (IsSets [f, g]) (isSets_up _) (isSets_up _) (fun W hW => ?hy) (fun W hW => ?hz) ?_ ?_
  case hy =>
    obtain ⟨⟨hF, hG⟩, hE, hB⟩ := hW
    go_simp
    exact RegionU.does_made ⟨_, rfl, SetsAt.new3 _ _ _ _ _⟩ ((Below.refl _ _).alloc (Nat.le_refl _) _)
  case hz =>
    obtain ⟨⟨hF, hG⟩, hE, hB⟩ := hW
    go_simp
    exact RegionU.does_made ⟨_, rfl, SetsAt.new2 _ _ _ _⟩ ((Below.refl _ _).alloc (Nat.le_refl _) _)
  · intro u
    simp only [Act.put, List.setIfInBounds_toArray, List.set]
    refine wpU_taken (i := 18) rfl (by kernel_rfl) (by kernel_rfl) (by kernel_rfl) (HU.out.and (isSets_up _ _)) ?_
    apply Exists.intro
    refine ⟨Or.inl ⟨rfl, fun W hW => ?hy⟩, ?_⟩
    case hy =>
      obtain ⟨⟨⟨hF, hG⟩, hE, hB⟩, b, hu, hs⟩ := hW
      go_simp
      exact RegionU.does_call (HU3.out W b hs)
    simp only [Act.put, List.setIfInBounds_toArray, List.set]
    refine wpU_one (i := 21) (by kernel_rfl) rfl rfl (IsSets [f, g]) (isSets_up _) (fun W hW => ?hy) ?_
    case hy =>
      obtain ⟨⟨⟨hF, hG⟩, hE, hB⟩, b, hu, hs⟩ := hW
      go_simp
      exact RegionU.does_made ⟨_, rfl, SetsAt.new2 _ _ _ _⟩ ((Below.refl _ _).alloc (Nat.le_refl _) _)
    intro u
    simp only [Act.put, List.setIfInBounds_toArray, List.set]
    refine wpU_taken (i := 22) rfl (by kernel_rfl) (by kernel_rfl) (by kernel_rfl) ((HU.out.and (isSets_up _ _)).and (isSets_up _ _)) ?_
    apply Exists.intro
    refine ⟨Or.inl ⟨rfl, fun W hW => ?hy⟩, ?_⟩
    case hy =>
      obtain ⟨⟨⟨⟨hF, hG⟩, hE, hB⟩, b, hu, hs⟩, b2, hu2, hs2⟩ := hW
      go_simp
      exact RegionU.does_call (HUN.out W b2 hs2)
    simp only [Act.put, List.setIfInBounds_toArray, List.set]
    refine wpU_taken (i := 23) rfl (by kernel_rfl) (by kernel_rfl) (by kernel_rfl) ((HU.out.and (isSets_up _ _)).and (isSets_up _ _)) ?_
    apply Exists.intro
    refine ⟨Or.inl ⟨rfl, fun W hW => ?hy⟩, ?_⟩
    case hy =>
      obtain ⟨⟨⟨⟨hF, hG⟩, hE, hB⟩, b, hu, hs⟩, b2, hu2, hs2⟩ := hW
      go_simp
      exact RegionU.does_value rfl
    simp only [Act.put, List.setIfInBounds_toArray, List.set]
    refine wpU_taken (i := 24) rfl (by kernel_rfl) (by kernel_rfl) (by kernel_rfl) ((HU.out.and (isSets_up _ _)).and (isSets_up _ _)) ?_
    apply Exists.intro
    refine ⟨Or.inl ⟨rfl, fun W hW => ?hy⟩, ?_⟩
    case hy =>
      obtain ⟨⟨⟨⟨hF, hG⟩, hE, hB⟩, b, hu, hs⟩, b2, hu2, hs2⟩ := hW
      go_simp
      exact RegionU.does_value rfl
    simp only [Act.put, List.setIfInBounds_toArray, List.set]
    refine wpU_taken (i := 25) rfl (by kernel_rfl) (by kernel_rfl) (by kernel_rfl) ((HU.out.and (isSets_up _ _)).and (isSets_up _ _)) ?_
    apply Exists.intro
    refine ⟨Or.inl ⟨rfl, fun W hW => ?hy⟩, ?_⟩
    case hy =>
      obtain ⟨⟨⟨⟨hF, hG⟩, hE, hB⟩, b, hu, hs⟩, b2, hu2, hs2⟩ := hW
      go_simp
      exact RegionU.does_value rfl
    simp only [Act.put, List.setIfInBounds_toArray, List.set]
    refine wpU_taken (i := 26) rfl (by kernel_rfl) (by kernel_rfl) (by kernel_rfl) ((HU.out.and (isSets_up _ _)).and (isSets_up _ _)) ?_
    apply Exists.intro
    refine ⟨Or.inl ⟨rfl, fun W hW => ?hy⟩, ?_⟩
    case hy =>
      obtain ⟨⟨⟨⟨hF, hG⟩, hE, hB⟩, b, hu, hs⟩, b2, hu2, hs2⟩ := hW
      go_simp
      exact RegionU.does_call (HKN.out W hE)
    simp only [Act.put, List.setIfInBounds_toArray, List.set]
    refine wpU_taken (i := 27) rfl (by kernel_rfl) (by kernel_rfl) (by kernel_rfl) ((HU.out.and (isSets_up _ _)).and (isSets_up _ _)) ?_
    apply Exists.intro
    refine ⟨Or.inl ⟨rfl, fun W hW => ?hy⟩, ?_⟩
    case hy =>
      obtain ⟨⟨⟨⟨hF, hG⟩, hE, hB⟩, b, hu, hs⟩, b2, hu2, hs2⟩ := hW
      go_simp
      exact RegionU.does_value rfl
    simp only [Act.put, List.setIfInBounds_toArray, List.set]
    refine wpU_taken (i := 28) rfl (by kernel_rfl) (by kernel_rfl) (by kernel_rfl) ((HU.out.and (isSets_up _ _)).and (isSets_up _ _)) ?_
    apply Exists.intro
    refine ⟨Or.inl ⟨rfl, fun W hW => ?hy⟩, ?_⟩
    case hy =>
      obtain ⟨⟨⟨⟨hF, hG⟩, hE, hB⟩, b, hu, hs⟩, b2, hu2, hs2⟩ := hW
      go_simp
      exact RegionU.does_value rfl
    simp only [Act.put, List.setIfInBounds_toArray, List.set]
    refine wpU_done (by kernel_rfl) ?_
    intro W hW
    obtain ⟨⟨⟨_, _, hB⟩, _⟩, _⟩ := hW
    go_wp2_with fail
    go_ret
    exact ⟨rfl, hB⟩
  · intro u
    simp only [Act.put, List.setIfInBounds_toArray, List.set]
    refine wpU_one (i := 17) (by kernel_rfl) rfl rfl (IsSets [f, g, f]) (isSets_up _) (fun W hW => ?hy) ?_
    case hy =>
      obtain ⟨⟨⟨hF, hG⟩, hE, hB⟩, b, hu, hs⟩ := hW
      go_simp
      exact RegionU.does_made ⟨_, rfl, SetsAt.new3 _ _ _ _ _⟩ ((Below.refl _ _).alloc (Nat.le_refl _) _)
    intro u
    simp only [Act.put, List.setIfInBounds_toArray, List.set]
    refine wpU_taken (i := 18) rfl (by kernel_rfl) (by kernel_rfl) (by kernel_rfl) ((HU.out.and (isSets_up _ _)).and (isSets_up _ _)) ?_
    apply Exists.intro
    refine ⟨Or.inl ⟨rfl, fun W hW => ?hy⟩, ?_⟩
    case hy =>
      obtain ⟨⟨⟨⟨hF, hG⟩, hE, hB⟩, b, hu, hs⟩, b2, hu2, hs2⟩ := hW
      go_simp
      exact RegionU.does_call (HU3.out W b2 hs2)
    simp only [Act.put, List.setIfInBounds_toArray, List.set]
    refine wpU_taken (i := 22) rfl (by kernel_rfl) (by kernel_rfl) (by kernel_rfl) ((HU.out.and (isSets_up _ _)).and (isSets_up _ _)) ?_
    apply Exists.intro
    refine ⟨Or.inl ⟨rfl, fun W hW => ?hy⟩, ?_⟩
    case hy =>
      obtain ⟨⟨⟨⟨hF, hG⟩, hE, hB⟩, b, hu, hs⟩, b2, hu2, hs2⟩ := hW
      go_simp
      exact RegionU.does_call (HUN.out W b hs)
    simp only [Act.put, List.setIfInBounds_toArray, List.set]
    refine wpU_taken (i := 23) rfl (by kernel_rfl) (by kernel_rfl) (by kernel_rfl) ((HU.out.and (isSets_up _ _)).and (isSets_up _ _)) ?_
    apply Exists.intro
    refine ⟨Or.inl ⟨rfl, fun W hW => ?hy⟩, ?_⟩
    case hy =>
      obtain ⟨⟨⟨⟨hF, hG⟩, hE, hB⟩, b, hu, hs⟩, b2, hu2, hs2⟩ := hW
      go_simp
      exact RegionU.does_value rfl
    simp only [Act.put, List.setIfInBounds_toArray, List.set]
    refine wpU_taken (i := 24) rfl (by kernel_rfl) (by kernel_rfl) (by kernel_rfl) ((HU.out.and (isSets_up _ _)).and (isSets_up _ _)) ?_
    apply Exists.intro
    refine ⟨Or.inl ⟨rfl, fun W hW => ?hy⟩, ?_⟩
    case hy =>
      obtain ⟨⟨⟨⟨hF, hG⟩, hE, hB⟩, b, hu, hs⟩, b2, hu2, hs2⟩ := hW
      go_simp
      exact RegionU.does_value rfl
    simp only [Act.put, List.setIfInBounds_toArray, List.set]
    refine wpU_taken (i := 25) rfl (by kernel_rfl) (by kernel_rfl) (by kernel_rfl) ((HU.out.and (isSets_up _ _)).and (isSets_up _ _)) ?_
    apply Exists.intro
    refine ⟨Or.inl ⟨rfl, fun W hW => ?hy⟩, ?_⟩
    case hy =>
      obtain ⟨⟨⟨⟨hF, hG⟩, hE, hB⟩, b, hu, hs⟩, b2, hu2, hs2⟩ := hW
      go_simp
      exact RegionU.does_value rfl
    simp only [Act.put, List.setIfInBounds_toArray, List.set]
    refine wpU_taken (i := 26) rfl (by kernel_rfl) (by kernel_rfl) (by kernel_rfl) ((HU.out.and (isSets_up _ _)).and (isSets_up _ _)) ?_
    apply Exists.intro
    refine ⟨Or.inl ⟨rfl, fun W hW => ?hy⟩, ?_⟩
    case hy =>
      obtain ⟨⟨⟨⟨hF, hG⟩, hE, hB⟩, b, hu, hs⟩, b2, hu2, hs2⟩ := hW
      go_simp
      exact RegionU.does_call (HKN.out W hE)
    simp only [Act.put, List.setIfInBounds_toArray, List.set]
    refine wpU_taken (i := 27) rfl (by kernel_rfl) (by kernel_rfl) (by kernel_rfl) ((HU.out.and (isSets_up _ _)).and (isSets_up _ _)) ?_
    apply Exists.intro
    refine ⟨Or.inl ⟨rfl, fun W hW => ?hy⟩, ?_⟩
    case hy =>
      obtain ⟨⟨⟨⟨hF, hG⟩, hE, hB⟩, b, hu, hs⟩, b2, hu2, hs2⟩ := hW
      go_simp
      exact RegionU.does_value rfl
    simp only [Act.put, List.setIfInBounds_toArray, List.set]
    refine wpU_taken (i := 28) rfl (by kernel_rfl) (by kernel_rfl) (by kernel_rfl) ((HU.out.and (isSets_up _ _)).and (isSets_up _ _)) ?_
    apply Exists.intro
    refine ⟨Or.inl ⟨rfl, fun W hW => ?hy⟩, ?_⟩
    case hy =>
      obtain ⟨⟨⟨⟨hF, hG⟩, hE, hB⟩, b, hu, hs⟩, b2, hu2, hs2⟩ := hW
      go_simp
      exact RegionU.does_value rfl
    simp only [Act.put, List.setIfInBounds_toArray, List.set]
    refine wpU_done (by kernel_rfl) ?_
    intro W hW
    obtain ⟨⟨⟨_, _, hB⟩, _⟩, _⟩ := hW
    go_wp2_with fail
    go_ret
    exact ⟨rfl, hB⟩
end Go.Proofs.YtgmoaglanjfdmaaDoor.SetW
