/- Walk of the document's Rounds. -/
import Derived.Test.YtfhddbjojpmbcaaRefMoore
import Derived.Test.YtfhddbjojpmbcaaSameL
namespace Go.Proofs.Ytfhddbjojpmbcaa.DfaW
set_option linter.unusedVariables false
set_option linter.unusedSimpArgs false
open Go.Proofs.Ytfhddbjojpmbcaa.RegionU (Up wpU_taken wpU_one wpU_done wp_region_U)
open Go.RowKit Go.Maps Go.Proofs.Ytfhddbjojpmbcaa.PartM Go.Proofs.Ytfhddbjojpmbcaa.PartW
/-- A machine in its box; what lay in w lies. -/
structure KM (w : World) (b : Nat) (C : Array Value) (m : Mc) (W : World) : Prop where
  x : Bx W b C m
  lo : Below w.heap.size w W
theorem KM.up (w : World) (b : Nat) (C : Array Value) (m : Mc) : Up (KM w b C m) := fun W W' h hr => ⟨h.x.below hr, h.lo.trans (hr.mono h.lo.size)⟩
/-- A list of the call's own. -/
def LI (b : Nat) (l : List Int) (u : Value) (W : World) : Prop := OI W b u l
theorem LI.up (b : Nat) (l : List Int) (u : Value) : Up (LI b l u) := fun W W' h hr => OI.below h hr
set_option maxRecDepth 100000 in
set_option maxHeartbeats 4000000 in
theorem refRounds_any {C : Array Value} {m : Mc} (w : World) (h : IsM w.heap.size w C m) (hok : Ok m) :
    Calls Try.prog 15 #[.agg C] w fun e w' => e = .returned (.int .i64 (rndN m : Nat)) ∧ Below w.heap.size w w' := by
  have hx := Bx.new h
  have hsp := rndN_spec hok
  obtain ⟨r, hr⟩ : ∃ r, r = rndN m := ⟨_, rfl⟩
  rw [← hr] at hsp ⊢
  have hn6 := hok.lbs.2.1
  have HX := Lib.hid hx; have HOK := Lib.hid hok; have HB0 := Lib.hid (al_o w (.cells C 27))
  have HR := Lib.hid (show r ≤ 65536 by omega)
  have HSP := Lib.hid hsp
  clear h hx hok hsp hr hn6
  go_enter Try.func15, Try.ntmps15
  go_wp2_with fail
  go_loopw [3] (fun i wr => ∃ j : Nat, j ≤ r ∧ i = .int .i64 j ∧ Below w.heap.size w wr ∧ Bx wr w.heap.size C m) (fun i _ => r - (intOf i).toNat)
  case atStart => exact ⟨0, Nat.zero_le _, rfl, HB0.out, HX.out⟩
  case round =>
    obtain ⟨j, hj, rfl, hb, hx⟩ := hrel
    obtain ⟨f, hf⟩ : ∃ f : Bool, f = true ↔ aftN m j = blkN m := by
      by_cases h : aftN m j = blkN m
      · exact ⟨true, iff_of_true rfl h⟩
      · exact ⟨false, iff_of_false (by decide) h⟩
    have HF := Lib.hid hf
    have HFJ := Lib.hid (show f = true ↔ j = r from by
      rw [hf, still_iff HOK.out]
      constructor
      · intro h
        by_cases e : j < r
        · exact absurd h (HSP.out.2.1 j e)
        · omega
      · rintro rfl; exact HSP.out.1)
    have HJ := Lib.hid hj
    have HJK := Lib.hid (show ((j : Nat) : Int) ≤ 9223372036854775807 by have := HR.out; omega)
    have hji : (j : Int) ≤ 65536 := by have := HR.out; omega
    have HKM := Lib.hid (show KM w w.heap.size C m wr.drew from ⟨hx.below (Below.refl _ _).drew, hb.drew⟩)
    clear hb hx hf hj
    go_wp2_with fail
    refine wp_region_U (by kernel_rfl) (KM.up w w.heap.size C m) HKM.out ?_
    refine wpU_taken (i := 0) rfl (by kernel_rfl) (by kernel_rfl) (by kernel_rfl) (KM.up w w.heap.size C m) ?_
    apply Exists.intro
    refine ⟨Or.inl ⟨rfl, fun W hW => ?hy⟩, ?_⟩
    case hy =>
      exact does_eq (run_load_dfa (.tmp 1) rfl rfl hW.x)
    simp only [Act.put, List.setIfInBounds_toArray, List.set]
    refine wpU_taken (i := 1) rfl (by kernel_rfl) (by kernel_rfl) (by kernel_rfl) (KM.up w w.heap.size C m) ?_
    apply Exists.intro
    refine ⟨Or.inl ⟨rfl, fun W hW => ?hy⟩, ?_⟩
    case hy =>
      go_simp
      exact RegionU.does_value rfl
    simp only [Act.put, List.setIfInBounds_toArray, List.set]
    refine wpU_taken (i := 3) rfl (by kernel_rfl) (by kernel_rfl) (by kernel_rfl) (KM.up w w.heap.size C m) ?_
    apply Exists.intro
    refine ⟨Or.inl ⟨rfl, fun W hW => ?hy⟩, ?_⟩
    case hy =>
      exact does_eq (run_load_dfa (.tmp 1) rfl rfl hW.x)
    simp only [Act.put, List.setIfInBounds_toArray, List.set]
    refine wpU_one (i := 2) (by kernel_rfl) rfl rfl (LI w.heap.size (aftN m j)) (LI.up _ _) (fun W hW => ?hy) ?_
    case hy =>
      go_simp
      exact does_in ((refAfter_any W (j : Int) HJK.out hW.x.is HOK.out).mono fun e w' ⟨v, h, ho, hb⟩ => ⟨v, h, owns_base ho hW.lo.size, hb⟩)
    intro u2
    simp only [Act.put, List.setIfInBounds_toArray, List.set]
    refine wpU_one (i := 4) (by kernel_rfl) rfl rfl (LI w.heap.size (blkN m)) (LI.up _ _) (fun W hW => ?hy) ?_
    case hy =>
      go_simp
      exact does_in ((refBlocks_any W hW.1.x.is HOK.out).mono fun e w' ⟨v, h, ho, hb⟩ => ⟨v, h, owns_base ho hW.1.lo.size, hb⟩)
    intro u4
    simp only [Act.put, List.setIfInBounds_toArray, List.set]
    refine wpU_taken (i := 5) rfl (by kernel_rfl) (by kernel_rfl) (by kernel_rfl) (((KM.up w w.heap.size C m).and (LI.up _ _ u2)).and (LI.up _ _ u4)) ?_
    apply Exists.intro
    refine ⟨Or.inl ⟨rfl, fun W hW => ?hy⟩, ?_⟩
    case hy =>
      go_simp
      exact RegionU.does_call ((Same17_any W (Nat.le_refl _) (Nat.le_refl _) (show OI W _ _ _ from hW.1.2).is (show OI W _ _ _ from hW.2).is).mono fun e w' ⟨h, hb⟩ => ⟨h.bool HF.out, hb.below⟩)
    simp only [Act.put, List.setIfInBounds_toArray, List.set]
    refine wpU_taken (i := 6) rfl (by kernel_rfl) (by kernel_rfl) (by kernel_rfl) (((KM.up w w.heap.size C m).and (LI.up _ _ u2)).and (LI.up _ _ u4)) ?_
    apply Exists.intro
    refine ⟨Or.inl ⟨rfl, fun W hW => ?hy⟩, ?_⟩
    case hy =>
      go_simp
      exact RegionU.does_value rfl
    simp only [Act.put, List.setIfInBounds_toArray, List.set]
    refine wpU_done (by kernel_rfl) ?_
    intro W hW
    have HB := Lib.hid hW.1.1.lo; have HX2 := Lib.hid hW.1.1.x
    clear hW HKM
    cases f with
    | true =>
      have HJR := Lib.hid (HFJ.out.1 rfl)
      go_wp2_with fail
      go_ret
      exact ⟨by rw [← HJR.out]; rfl, HB.out⟩
    | false =>
      have HLT := Lib.hid (show j < r from by
        have h1 := HJ.out
        have h2 : j ≠ r := fun e => by have := HFJ.out.2 e; cases this
        omega)
      go_wp2_with fail
      exact ⟨⟨j + 1, HLT.out, by go_num, HB.out, HX2.out⟩, by have := HLT.out; simp [intOf]; omega⟩
end Go.Proofs.Ytfhddbjojpmbcaa.DfaW
