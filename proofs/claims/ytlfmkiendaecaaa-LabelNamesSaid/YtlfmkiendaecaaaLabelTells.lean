/- Walk of LabelTells. -/
import Derived.Test.YtlfmkiendaecaaaTellsAid
import Derived.Deep.CutRange
import Derived.Deep.CutBlock
import Derived.Deep.DeepCutAuto
namespace Go.Proofs.Ytlfmkiendaecaaa.DfaW
set_option linter.unusedVariables false
set_option linter.unusedSimpArgs false
open Go.Proofs.Ytlfmkiendaecaaa.RegionU (Up wpU_taken wpU_one wpU_mono wpU_done wp_region_U does wpS_taken wpS_takenY wpS_one wpS_two wpS_three wpS_done wpS_have wp_region_S)
open Go.RowKit Go.Maps Go.Proofs.Ytlfmkiendaecaaa.PartM Go.Proofs.Ytlfmkiendaecaaa.PartW Go.Proofs.Ytlfmkiendaecaaa.TxM
set_option maxRecDepth 100000 in
set_option maxHeartbeats 8000000 in
theorem LabelTells_any (HU : UsedC 8) (HUN : UnionC 10) (HNA : NamesC 13) (HNO : NormC 16) (HON : OnlyC 18) (HPL : PlusC 20) (HKN : KnowsC)
    {C : Array Value} {m : Mc} {v : Value} {bs : List Nat} (w : World) (h : IsM w.heap.size w C m) (hv : BS w.heap.size w v bs) (s : ByteArray) (hs : s.size ≤ 9223372036854775807) :
    Calls Try.prog 6 #[.agg C, v, .string s] w fun e w' => e = .returned (.bool true) ∧ Below w.heap.size w w' := by
  have HZS := Lib.hid zc_size
  have HSS := Lib.hid hs; have HBL := Lib.hid hv.2
  have HM := Lib.hid h; have HV := Lib.hid hv; have HX0 := Lib.hid (Bx.new h)
  obtain ⟨va, vc, rfl, _, hvm, _⟩ := hv.open
  obtain ⟨L, hL⟩ : ∃ L, L = bs.length := ⟨_, rfl⟩
  have hLi : (L : Int) ≤ 9223372036854775807 := by unfold maxLen at hvm; omega
  have HLE := Lib.hid hL
  rw [← hL] at HV ⊢
  have HB0 := Lib.hid (show Below w.heap.size w (w.alloc (.cells C 27)) from (Below.refl _ _).alloc (Nat.le_refl _) _)
  have HSN := Lib.hid (show w.heap.size < (w.alloc (.cells C 27)).heap.size by simp)
  clear h hv hs hL hvm
  go_enter Try.func6, Try.ntmps6
  go_wp2_with (refine wpList_load_dfa rfl (.tmp 3) rfl rfl HX0.out ?_)
  refine (RightD_any _ HX0.out.is).mono ?_
  obtain ⟨n, hn⟩ : ∃ n, n = w.heap.size := ⟨_, rfl⟩
  have HN := Lib.hid (show n ≤ w.heap.size from Nat.le_of_eq hn); have HNE := Lib.hid hn
  rw [← hn] at HM HV HX0 HB0 HSN ⊢
  generalize (w.alloc (.cells C 27)) = W0 at *
  clear hn
  rintro e w1 ⟨hs, hb1⟩
  have HX := Lib.hid (HX0.out.below hb1)
  have HB := Lib.hid (HB0.out.trans (hb1.mono (Nat.le_trans HN.out HB0.out.size)))
  clear hb1 HX0 HB0
  rcases hs.elim with ⟨rfl, hk⟩ | ⟨rfl, hk⟩
  case inr =>
    have HE := Lib.hid (usedV_no hk)
    clear hs hk
    go_wp2_with (refine wpList_load_dfa rfl (.tmp 3) rfl rfl HX.out ?_)
    refine (HU _ HX.out.is).mono ?_
    rintro e w2 ⟨u, rfl, hu, hb⟩
    rw [HE.out] at hu
    obtain ⟨au, cu, rfl, _, _, _⟩ := hu.is.open
    have HB2 := Lib.hid (HB.out.trans (hb.mono (Nat.le_trans HN.out HB.out.size)))
    clear hu hb
    go_wp2_with fail
    refine (HKN w2).mono ?_
    rintro e w3 ⟨rfl, hb6⟩
    have HB6 := Lib.hid (HB2.out.trans (hb6.mono (Nat.le_trans HN.out HB2.out.size)))
    clear hb6
    go_wp2_with fail
    go_ret
    exact ⟨rfl, by rw [← HNE.out]; exact HB6.out⟩
  have HOK := Lib.hid hk
  clear hs hk
  go_wp2_with (refine wpList_load_dfa rfl (.tmp 3) rfl rfl HX.out ?_)
  refine (Name_any' _ HX.out.is ((HV.out.below HB.out).up (Nat.le_trans HN.out HB.out.size))).mono ?_
  rintro e w2 ⟨rfl, hb⟩
  obtain ⟨N, hN⟩ : ∃ N, N = nameV m bs := ⟨_, rfl⟩
  have HNV := Lib.hid hN
  rw [← hN]
  have HX2 := Lib.hid (HX.out.below hb)
  have HB2 := Lib.hid (HB.out.trans (hb.mono (Nat.le_trans HN.out HB.out.size)))
  clear hb hN HX HB
  go_wp2_with (refine wpList_load_dfa rfl (.tmp 3) rfl rfl HX2.out ?_)
  refine (HNO w2 (HM.out.rxb HN.out HB2.out) (fun k hk => hk.2)).mono ?_
  rintro e w3 ⟨D, he, hD, hb1⟩
  have hnn := norm_yes HOK.out
  rw [hnn.1] at he
  rw [hnn.2] at hD
  subst he
  obtain ⟨M1, hM1⟩ : ∃ M, M = relab m (usedV m) (nameF m (usedV m)) := ⟨_, rfl⟩
  rw [← hM1] at hD
  have HM1 := Lib.hid hM1
  have HDS := Lib.hid hD.is.size; have HDO := Lib.hid hD.is.one
  have hbx := ist_below w3 D
  have hb3 := hb1.trans (hbx.mono hb1.size)
  have HXX := Lib.hid (show Bx ((w3.alloc (.cells Try.zeroCells27 27)).setRow w3.heap.size D) w3.heap.size D M1 from bx_store hD.is)
  have HX4 := Lib.hid (HX2.out.below hb3)
  have HB4 := Lib.hid (HB2.out.trans (hb3.mono (Nat.le_trans HN.out HB2.out.size)))
  have HS3 := Lib.hid (show n < w3.heap.size from Nat.lt_of_lt_of_le HX2.out.ar.lt hb1.size)
  clear hD hb1 hbx hb3 hnn hM1 HX2 HB2
  go_wp2_with (refine wpList_store_dfa rfl (.tmp 8) (.tmp 32) rfl rfl rfl (Ar.new _ _ _) HZS.out HDS.out HDO.out ?_; simp only [Act.put])
  obtain ⟨bx, hbx⟩ : ∃ b, b = w3.heap.size := ⟨_, rfl⟩
  rw [← hbx] at HXX HX4 HB4 HS3 ⊢
  generalize ((w3.alloc (.cells Try.zeroCells27 27)).setRow bx D) = W4 at *
  clear hbx
  obtain ⟨U, hU⟩ : ∃ U, U = usedV m := ⟨_, rfl⟩
  have H1 := Lib.hid (fun W h => HU.ut (C := C) hU W h)
  have HTO := Lib.hid txO_szs
  have hfl := Lib.hid (show [U, [txO]].flatten.length ≤ 4194303 by have := used_small m; rw [hU]; simp; omega)
  have hfz := Lib.hid (show ∀ x ∈ [U, [txO]].flatten, x.size ≤ maxLen from fun x hx => by
    simp only [List.flatten_cons, List.flatten_nil, List.append_nil, List.mem_append, List.mem_singleton] at hx
    rcases hx with hx | rfl
    · rw [hU] at hx; exact used_max m x hx
    · decide)
  obtain ⟨R, hR0⟩ : ∃ R, R = risen [U, [txO]].flatten := ⟨_, rfl⟩
  have hR := Lib.hid hR0
  have HRU := Lib.hid (show R = risen (usedV m ++ [txO]) by rw [hR0, hU]; simp)
  have HUE := Lib.hid hU
  obtain ⟨k2, hk20⟩ : ∃ k, k = namesE m R := ⟨_, rfl⟩
  have hk2 := Lib.hid hk20
  obtain ⟨M2, hM20⟩ : ∃ M, M = namesM m R := ⟨_, rfl⟩
  have hM2 := Lib.hid hM20
  obtain ⟨X4, hX4⟩ : ∃ X : Nat → Prop, X = fun k => n ≤ k ∧ k < W4.heap.size := ⟨_, rfl⟩
  have HX4' := Lib.hid (show ∀ k, X4 k → n ≤ k ∧ k < W4.heap.size by rw [hX4]; exact fun k h => h)
  have HNW := Lib.hid (show n ≤ W4.heap.size from Nat.le_trans HN.out HB4.out.size)
  have HKR := Lib.hid (show KR (fun k => n ≤ k) W4 n C m W4.drew from ⟨HX4.out.ar.below (Below.refl _ _).drew, ((HM.out.below HB4.out).rx HNW.out).next (Below.refl _ _).drew, (Below.refl _ _).drew⟩)
  clear hU hR0 hk20 hM20 hX4
  have HXD := HX4
  clear HX4
  have HX4 := HX4'
  clear HX4'
  go_cut [10, 11] from 34 to 44 (fun y f wx => ∃ (X : Nat) (E : Array Value), y = .pointer (some ⟨X, 0, none⟩) ∧ f = .int .i64 k2 ∧ Bx wx X E M2 ∧ Below W4.heap.size W4 wx ∧ W4.heap.size ≤ X)
  case first =>
    refine wp_region_S 11 2 (by kernel_rfl) (by kernel_rfl) (KR.up (fun k => n ≤ k) W4 n C m) HKR.out ?_
    refine wpS_taken (i := 0) rfl (by kernel_rfl) (by kernel_rfl) (by kernel_rfl) (by kernel_rfl) (KR.up (fun k => n ≤ k) W4 n C m) ?_
    apply Exists.intro
    refine ⟨Or.inl ⟨rfl, fun W hW => ?hy⟩, ?_⟩
    case hy => exact does_eq (run_load_dfa (.tmp 3) rfl rfl hW.bx)
    simp only [Act.put, List.setIfInBounds_toArray, List.set]
    refine wpS_taken (i := 1) rfl (by kernel_rfl) (by kernel_rfl) (by kernel_rfl) (by kernel_rfl) (KR.up (fun k => n ≤ k) W4 n C m) ?_
    apply Exists.intro
    refine ⟨Or.inl ⟨rfl, fun W hW => ?hy⟩, ?_⟩
    case hy => exact does_eq (run_load_dfa (.tmp 3) rfl rfl hW.bx)
    simp only [Act.put, List.setIfInBounds_toArray, List.set]
    refine wpS_three (i := 2) (j := 3) (k := 10) (by kernel_rfl) (by kernel_rfl) (by kernel_rfl) (by kernel_rfl) rfl rfl rfl rfl rfl rfl (UT U) (UT [txO]) (BxN W4) (UT.up _) (UT.up _) (BxN.up _) (fun W hW => ?y2x1) (fun W hW => ?y3x1) (fun W hW => ?y10x1) ?h2x1 ?h3x1 ?h10x1
    case y2x1 =>
      have hK := hW
      go_simp
      exact does_in (H1.out W hK.bx.is)
    case y3x1 =>
      have hK := hW
      go_simp
      exact RegionU.does_made (T := UT [txO]) (ts_new W [txO] 9 W.heap.size rfl (by decide) HTO.out) ((Below.refl _ _).alloc (Nat.le_refl _) _)
    case y10x1 =>
      have hK := hW
      go_simp
      exact RegionU.does_made (BxN.new hK.2.2.size) ((Below.refl _ _).alloc (Nat.le_refl _) _)
    case h2x1 =>
      intro u2
      simp only [Act.put, List.setIfInBounds_toArray, List.set]
      refine wpS_two (i := 3) (j := 10) (by kernel_rfl) (by kernel_rfl) (by kernel_rfl) rfl rfl rfl rfl (UT [txO]) (BxN W4) (UT.up _) (BxN.up _) (fun W hW => ?y3x2) (fun W hW => ?y10x2) ?h3x2 ?h10x2
      case y3x2 =>
        obtain ⟨hK, h2⟩ := hW
        go_simp
        exact RegionU.does_made (T := UT [txO]) (ts_new W [txO] 9 W.heap.size rfl (by decide) HTO.out) ((Below.refl _ _).alloc (Nat.le_refl _) _)
      case y10x2 =>
        obtain ⟨hK, h2⟩ := hW
        go_simp
        exact RegionU.does_made (BxN.new hK.2.2.size) ((Below.refl _ _).alloc (Nat.le_refl _) _)
      case h3x2 =>
        intro u3
        simp only [Act.put, List.setIfInBounds_toArray, List.set]
        refine wpS_two (i := 4) (j := 10) (by kernel_rfl) (by kernel_rfl) (by kernel_rfl) rfl rfl rfl rfl (ULS [U, [txO]]) (BxN W4) (ULS.up _) (BxN.up _) (fun W hW => ?y4x3) (fun W hW => ?y10x3) ?h4x3 ?h10x3
        case y4x3 =>
          obtain ⟨⟨hK, h2⟩, h3⟩ := hW
          obtain ⟨a9, c9, hf9, _⟩ := TS.open h2
          rw [hf9] at h2 ⊢
          obtain ⟨a8, c8, hf8, _⟩ := TS.open h3
          rw [hf8] at h3 ⊢
          go_simp
          exact RegionU.does_made (T := ULS [U, [txO]]) (LS.new2 W _ _ _ _ _ h2 h3) ((Below.refl _ _).alloc (Nat.le_refl _) _)
        case y10x3 =>
          obtain ⟨⟨hK, h2⟩, h3⟩ := hW
          go_simp
          exact RegionU.does_made (BxN.new hK.2.2.size) ((Below.refl _ _).alloc (Nat.le_refl _) _)
        case h4x3 =>
          intro u4
          simp only [Act.put, List.setIfInBounds_toArray, List.set]
          refine wpS_two (i := 5) (j := 10) (by kernel_rfl) (by kernel_rfl) (by kernel_rfl) rfl rfl rfl rfl (T5 X4 R) (BxN W4) (T5.up _ _) (BxN.up _) (fun W hW => ?y5x4) (fun W hW => ?y10x4) ?h5x4 ?h10x4
          case y5x4 =>
            obtain ⟨⟨⟨hK, h2⟩, h3⟩, h4⟩ := hW
            go_simp
            exact does_in ((HUN.of hfl.out hfz.out W _ h4).mono fun e w' ⟨u, h, hu, hb⟩ => ⟨u, h, T5.of HX4.out hu hR.out hK.2.2, hb⟩)
          case y10x4 =>
            obtain ⟨⟨⟨hK, h2⟩, h3⟩, h4⟩ := hW
            go_simp
            exact RegionU.does_made (BxN.new hK.2.2.size) ((Below.refl _ _).alloc (Nat.le_refl _) _)
          case h5x4 =>
            intro u5
            simp only [Act.put, List.setIfInBounds_toArray, List.set]
            refine wpS_two (i := 6) (j := 10) (by kernel_rfl) (by kernel_rfl) (by kernel_rfl) rfl rfl rfl rfl (MT X4 M2 k2) (fun u => F5 X4 W4 R u5 u) (MT.up _ _ _) (fun u => F5.up _ _ _ u5 u) (fun W hW => ?y6x5) (fun W hW => ?y10x5) ?h6x5 ?h10x5
            case y6x5 =>
              obtain ⟨⟨⟨⟨hK, h2⟩, h3⟩, h4⟩, h5⟩ := hW
              go_simp
              exact does_in ((HNA W (hK.2.1.mono fun k hk => (HX4.out k hk).1) h5 (fun k hk => Nat.lt_of_lt_of_le (HX4.out k hk).2 hK.2.2.size)).mono fun e w' ⟨D, h, hd, hb⟩ => ⟨_, by rw [h, hk2.out], ⟨D, rfl, by rw [hM2.out]; exact hd⟩, hb⟩)
            case y10x5 =>
              obtain ⟨⟨⟨⟨hK, h2⟩, h3⟩, h4⟩, h5⟩ := hW
              go_simp
              exact RegionU.does_made (F5.of2 h5 hK.2.2) ((Below.refl _ _).alloc (Nat.le_refl _) _)
            case h6x5 =>
              intro u6
              simp only [Act.put, List.setIfInBounds_toArray, List.set]
              refine wpS_have (p := ∃ D, u6 = .tuple #[.agg D, .int .i64 k2]) (fun W hW => ?_) ?_
              · obtain ⟨⟨⟨⟨⟨hK, h2⟩, h3⟩, h4⟩, h5⟩, h6⟩ := hW
                obtain ⟨D, h, _⟩ := h6; exact ⟨D, h⟩
              rintro ⟨D, rfl⟩
              refine wpS_taken (i := 7) rfl (by kernel_rfl) (by kernel_rfl) (by kernel_rfl) (by kernel_rfl) ((((((KR.up (fun k => n ≤ k) W4 n C m).and (UT.up _ u2)).and (UT.up _ u3)).and (ULS.up _ u4)).and (T5.up _ _ u5)).and (MT.up _ _ _ (Value.tuple #[.agg D, .int .i64 k2]))) ?_
              apply Exists.intro
              refine ⟨Or.inl ⟨rfl, fun W hW => ?hy⟩, ?_⟩
              case hy =>
                go_simp
                exact RegionU.does_value rfl
              simp only [Act.put, List.setIfInBounds_toArray, List.set]
              refine wpS_taken (i := 8) rfl (by kernel_rfl) (by kernel_rfl) (by kernel_rfl) (by kernel_rfl) ((((((KR.up (fun k => n ≤ k) W4 n C m).and (UT.up _ u2)).and (UT.up _ u3)).and (ULS.up _ u4)).and (T5.up _ _ u5)).and (MT.up _ _ _ (Value.tuple #[.agg D, .int .i64 k2]))) ?_
              apply Exists.intro
              refine ⟨Or.inl ⟨rfl, fun W hW => ?hy⟩, ?_⟩
              case hy =>
                go_simp
                exact RegionU.does_value rfl
              simp only [Act.put, List.setIfInBounds_toArray, List.set]
              refine wpS_takenY (i := 9) rfl (by kernel_rfl) (by kernel_rfl) (by kernel_rfl) (by kernel_rfl) ((((((KR.up (fun k => n ≤ k) W4 n C m).and (UT.up _ u2)).and (UT.up _ u3)).and (ULS.up _ u4)).and (T5.up _ _ u5)).and (MT.up _ _ _ (Value.tuple #[.agg D, .int .i64 k2]))) ?_
              apply Exists.intro
              refine ⟨fun _ _ _ h => h, Or.inl ⟨rfl, fun W => ?hy⟩, ?_⟩
              case hy =>
                go_simp
                rfl
              simp only [Act.put, List.setIfInBounds_toArray, List.set]
              refine wpS_one (i := 10) (by kernel_rfl) (by kernel_rfl) rfl rfl (fun u => F6 X4 W4 M2 k2 (Value.tuple #[.agg D, .int .i64 k2]) u) (fun u => F6.up _ _ _ _ (Value.tuple #[.agg D, .int .i64 k2]) u) (fun W hW => ?hy) ?_
              case hy =>
                obtain ⟨⟨⟨⟨⟨hK, h2⟩, h3⟩, h4⟩, h5⟩, h6⟩ := hW
                go_simp
                exact RegionU.does_made (F6.of2 h6 hK.2.2) ((Below.refl _ _).alloc (Nat.le_refl _) _)
              intro u10
              simp only [Act.put, List.setIfInBounds_toArray, List.set]
              refine wpS_done rfl (by kernel_rfl) (by kernel_rfl) ?_
              intro W hW
              obtain ⟨⟨⟨⟨⟨⟨hK, -⟩, -⟩, -⟩, -⟩, -⟩, hF⟩ := hW
              obtain ⟨D2, X, hD2, rfl, hXa, hXl, hD⟩ := hF
              have hD2 : D = D2 := by simpa using hD2
              subst hD2
              have HRX := Lib.hid (hD.row (.inr rfl) D)
              have HSZ := Lib.hid HRX.out.is.size; have HON := Lib.hid HRX.out.is.one
              have HXA := Lib.hid hXa; have HXR := Lib.hid (hXa.row D)
              have HBX := Lib.hid (hK.2.2.trans (below_row (Below.refl _ W) hXl D))
              have HXL := Lib.hid hXl
              clear hK hXa hXl hD
              refine wpList_store_dfa (B := X) (D := D) ?gA6 (.tmp 10) (.tmp 42) ?gB6 ?gC6 ?gD6 HXA.out zc_size HSZ.out HON.out ?gE6
              case gA6 => rfl
              case gB6 => rfl
              case gC6 => rfl
              case gD6 => rfl
              simp only [Act.put]
              go_wp2_with fail
              go_meet
              exact ⟨X, D, rfl, rfl, ⟨HXR.out, HRX.out.is⟩, HBX.out, HXL.out⟩
            case h10x5 =>
              intro u10
              simp only [Act.put, List.setIfInBounds_toArray, List.set]
              refine wpS_one (i := 6) (by kernel_rfl) (by kernel_rfl) rfl rfl (fun u => F6 X4 W4 M2 k2 u u10) (fun u => F6.up _ _ _ _ u u10) (fun W hW => ?hy) ?_
              case hy =>
                obtain ⟨⟨⟨⟨⟨hK, h2⟩, h3⟩, h4⟩, h5o⟩, h5⟩ := hW
                go_simp
                obtain ⟨X, rfl, hXa, hXl, hXr⟩ := h5
                exact does_in ((HNA.of hk2.out hM2.out W hK.2.1 hXr HX4.out hXa hXl hK.2.2 HNW.out).mono fun e w' ⟨u, h, hu, hb⟩ => ⟨u, h, hu, hb⟩)
              intro u6
              simp only [Act.put, List.setIfInBounds_toArray, List.set]
              refine wpS_have (p := ∃ D, u6 = .tuple #[.agg D, .int .i64 k2]) (fun W hW => ?_) ?_
              · obtain ⟨⟨⟨⟨⟨⟨hK, h2⟩, h3⟩, h4⟩, h5o⟩, h5⟩, h6⟩ := hW
                obtain ⟨D, X, h, _⟩ := h6; exact ⟨D, h⟩
              rintro ⟨D, rfl⟩
              refine wpS_taken (i := 7) rfl (by kernel_rfl) (by kernel_rfl) (by kernel_rfl) (by kernel_rfl) (((((((KR.up (fun k => n ≤ k) W4 n C m).and (UT.up _ u2)).and (UT.up _ u3)).and (ULS.up _ u4)).and (T5.up _ _ u5)).and (F5.up _ _ _ u5 u10)).and (F6.up _ _ _ _ (Value.tuple #[.agg D, .int .i64 k2]) u10)) ?_
              apply Exists.intro
              refine ⟨Or.inl ⟨rfl, fun W hW => ?hy⟩, ?_⟩
              case hy =>
                go_simp
                exact RegionU.does_value rfl
              simp only [Act.put, List.setIfInBounds_toArray, List.set]
              refine wpS_taken (i := 8) rfl (by kernel_rfl) (by kernel_rfl) (by kernel_rfl) (by kernel_rfl) (((((((KR.up (fun k => n ≤ k) W4 n C m).and (UT.up _ u2)).and (UT.up _ u3)).and (ULS.up _ u4)).and (T5.up _ _ u5)).and (F5.up _ _ _ u5 u10)).and (F6.up _ _ _ _ (Value.tuple #[.agg D, .int .i64 k2]) u10)) ?_
              apply Exists.intro
              refine ⟨Or.inl ⟨rfl, fun W hW => ?hy⟩, ?_⟩
              case hy =>
                go_simp
                exact RegionU.does_value rfl
              simp only [Act.put, List.setIfInBounds_toArray, List.set]
              refine wpS_takenY (i := 9) rfl (by kernel_rfl) (by kernel_rfl) (by kernel_rfl) (by kernel_rfl) (((((((KR.up (fun k => n ≤ k) W4 n C m).and (UT.up _ u2)).and (UT.up _ u3)).and (ULS.up _ u4)).and (T5.up _ _ u5)).and (F5.up _ _ _ u5 u10)).and (F6.up _ _ _ _ (Value.tuple #[.agg D, .int .i64 k2]) u10)) ?_
              apply Exists.intro
              refine ⟨fun _ _ _ h => h, Or.inl ⟨rfl, fun W => ?hy⟩, ?_⟩
              case hy =>
                go_simp
                rfl
              simp only [Act.put, List.setIfInBounds_toArray, List.set]
              refine wpS_done rfl (by kernel_rfl) (by kernel_rfl) ?_
              intro W hW
              obtain ⟨⟨⟨⟨⟨⟨hK, -⟩, -⟩, -⟩, -⟩, -⟩, hF⟩ := hW
              obtain ⟨D2, X, hD2, rfl, hXa, hXl, hD⟩ := hF
              have hD2 : D = D2 := by simpa using hD2
              subst hD2
              have HRX := Lib.hid (hD.row (.inr rfl) D)
              have HSZ := Lib.hid HRX.out.is.size; have HON := Lib.hid HRX.out.is.one
              have HXA := Lib.hid hXa; have HXR := Lib.hid (hXa.row D)
              have HBX := Lib.hid (hK.2.2.trans (below_row (Below.refl _ W) hXl D))
              have HXL := Lib.hid hXl
              clear hK hXa hXl hD
              refine wpList_store_dfa (B := X) (D := D) ?gA7 (.tmp 10) (.tmp 42) ?gB7 ?gC7 ?gD7 HXA.out zc_size HSZ.out HON.out ?gE7
              case gA7 => rfl
              case gB7 => rfl
              case gC7 => rfl
              case gD7 => rfl
              simp only [Act.put]
              go_wp2_with fail
              go_meet
              exact ⟨X, D, rfl, rfl, ⟨HXR.out, HRX.out.is⟩, HBX.out, HXL.out⟩
          case h10x4 =>
            intro u10
            simp only [Act.put, List.setIfInBounds_toArray, List.set]
            refine wpS_one (i := 5) (by kernel_rfl) (by kernel_rfl) rfl rfl (fun u => F5 X4 W4 R u u10) (fun u => F5.up _ _ _ u u10) (fun W hW => ?hy) ?_
            case hy =>
              obtain ⟨⟨⟨⟨hK, h2⟩, h3⟩, h4⟩, h10⟩ := hW
              go_simp
              exact does_in ((HUN.of hfl.out hfz.out W _ h4).mono fun e w' ⟨u, h, hu, hb⟩ => ⟨u, h, F5.of1 h10 HX4.out hu (hR.out) hK.2.2 hb, hb⟩)
            intro u5
            simp only [Act.put, List.setIfInBounds_toArray, List.set]
            refine wpS_one (i := 6) (by kernel_rfl) (by kernel_rfl) rfl rfl (fun u => F6 X4 W4 M2 k2 u u10) (fun u => F6.up _ _ _ _ u u10) (fun W hW => ?hy) ?_
            case hy =>
              obtain ⟨⟨⟨⟨⟨hK, h2⟩, h3⟩, h4⟩, h10⟩, h5⟩ := hW
              go_simp
              obtain ⟨X, rfl, hXa, hXl, hXr⟩ := h5
              exact does_in ((HNA.of hk2.out hM2.out W hK.2.1 hXr HX4.out hXa hXl hK.2.2 HNW.out).mono fun e w' ⟨u, h, hu, hb⟩ => ⟨u, h, hu, hb⟩)
            intro u6
            simp only [Act.put, List.setIfInBounds_toArray, List.set]
            refine wpS_have (p := ∃ D, u6 = .tuple #[.agg D, .int .i64 k2]) (fun W hW => ?_) ?_
            · obtain ⟨⟨⟨⟨⟨⟨hK, h2⟩, h3⟩, h4⟩, h10⟩, h5⟩, h6⟩ := hW
              obtain ⟨D, X, h, _⟩ := h6; exact ⟨D, h⟩
            rintro ⟨D, rfl⟩
            refine wpS_taken (i := 7) rfl (by kernel_rfl) (by kernel_rfl) (by kernel_rfl) (by kernel_rfl) (((((((KR.up (fun k => n ≤ k) W4 n C m).and (UT.up _ u2)).and (UT.up _ u3)).and (ULS.up _ u4)).and (BxN.up _ u10)).and (F5.up _ _ _ u5 u10)).and (F6.up _ _ _ _ (Value.tuple #[.agg D, .int .i64 k2]) u10)) ?_
            apply Exists.intro
            refine ⟨Or.inl ⟨rfl, fun W hW => ?hy⟩, ?_⟩
            case hy =>
              go_simp
              exact RegionU.does_value rfl
            simp only [Act.put, List.setIfInBounds_toArray, List.set]
            refine wpS_taken (i := 8) rfl (by kernel_rfl) (by kernel_rfl) (by kernel_rfl) (by kernel_rfl) (((((((KR.up (fun k => n ≤ k) W4 n C m).and (UT.up _ u2)).and (UT.up _ u3)).and (ULS.up _ u4)).and (BxN.up _ u10)).and (F5.up _ _ _ u5 u10)).and (F6.up _ _ _ _ (Value.tuple #[.agg D, .int .i64 k2]) u10)) ?_
            apply Exists.intro
            refine ⟨Or.inl ⟨rfl, fun W hW => ?hy⟩, ?_⟩
            case hy =>
              go_simp
              exact RegionU.does_value rfl
            simp only [Act.put, List.setIfInBounds_toArray, List.set]
            refine wpS_takenY (i := 9) rfl (by kernel_rfl) (by kernel_rfl) (by kernel_rfl) (by kernel_rfl) (((((((KR.up (fun k => n ≤ k) W4 n C m).and (UT.up _ u2)).and (UT.up _ u3)).and (ULS.up _ u4)).and (BxN.up _ u10)).and (F5.up _ _ _ u5 u10)).and (F6.up _ _ _ _ (Value.tuple #[.agg D, .int .i64 k2]) u10)) ?_
            apply Exists.intro
            refine ⟨fun _ _ _ h => h, Or.inl ⟨rfl, fun W => ?hy⟩, ?_⟩
            case hy =>
              go_simp
              rfl
            simp only [Act.put, List.setIfInBounds_toArray, List.set]
            refine wpS_done rfl (by kernel_rfl) (by kernel_rfl) ?_
            intro W hW
            obtain ⟨⟨⟨⟨⟨⟨hK, -⟩, -⟩, -⟩, -⟩, -⟩, hF⟩ := hW
            obtain ⟨D2, X, hD2, rfl, hXa, hXl, hD⟩ := hF
            have hD2 : D = D2 := by simpa using hD2
            subst hD2
            have HRX := Lib.hid (hD.row (.inr rfl) D)
            have HSZ := Lib.hid HRX.out.is.size; have HON := Lib.hid HRX.out.is.one
            have HXA := Lib.hid hXa; have HXR := Lib.hid (hXa.row D)
            have HBX := Lib.hid (hK.2.2.trans (below_row (Below.refl _ W) hXl D))
            have HXL := Lib.hid hXl
            clear hK hXa hXl hD
            refine wpList_store_dfa (B := X) (D := D) ?gA8 (.tmp 10) (.tmp 42) ?gB8 ?gC8 ?gD8 HXA.out zc_size HSZ.out HON.out ?gE8
            case gA8 => rfl
            case gB8 => rfl
            case gC8 => rfl
            case gD8 => rfl
            simp only [Act.put]
            go_wp2_with fail
            go_meet
            exact ⟨X, D, rfl, rfl, ⟨HXR.out, HRX.out.is⟩, HBX.out, HXL.out⟩
        case h10x3 =>
          intro u10
          simp only [Act.put, List.setIfInBounds_toArray, List.set]
          refine wpS_one (i := 4) (by kernel_rfl) (by kernel_rfl) rfl rfl (ULS [U, [txO]]) (ULS.up _) (fun W hW => ?hy) ?_
          case hy =>
            obtain ⟨⟨⟨hK, h2⟩, h3⟩, h10⟩ := hW
            obtain ⟨a9, c9, hf9, _⟩ := TS.open h2
            rw [hf9] at h2 ⊢
            obtain ⟨a8, c8, hf8, _⟩ := TS.open h3
            rw [hf8] at h3 ⊢
            go_simp
            exact RegionU.does_made (T := ULS [U, [txO]]) (LS.new2 W _ _ _ _ _ h2 h3) ((Below.refl _ _).alloc (Nat.le_refl _) _)
          intro u4
          simp only [Act.put, List.setIfInBounds_toArray, List.set]
          refine wpS_one (i := 5) (by kernel_rfl) (by kernel_rfl) rfl rfl (fun u => F5 X4 W4 R u u10) (fun u => F5.up _ _ _ u u10) (fun W hW => ?hy) ?_
          case hy =>
            obtain ⟨⟨⟨⟨hK, h2⟩, h3⟩, h10⟩, h4⟩ := hW
            go_simp
            exact does_in ((HUN.of hfl.out hfz.out W _ h4).mono fun e w' ⟨u, h, hu, hb⟩ => ⟨u, h, F5.of1 h10 HX4.out hu (hR.out) hK.2.2 hb, hb⟩)
          intro u5
          simp only [Act.put, List.setIfInBounds_toArray, List.set]
          refine wpS_one (i := 6) (by kernel_rfl) (by kernel_rfl) rfl rfl (fun u => F6 X4 W4 M2 k2 u u10) (fun u => F6.up _ _ _ _ u u10) (fun W hW => ?hy) ?_
          case hy =>
            obtain ⟨⟨⟨⟨⟨hK, h2⟩, h3⟩, h10⟩, h4⟩, h5⟩ := hW
            go_simp
            obtain ⟨X, rfl, hXa, hXl, hXr⟩ := h5
            exact does_in ((HNA.of hk2.out hM2.out W hK.2.1 hXr HX4.out hXa hXl hK.2.2 HNW.out).mono fun e w' ⟨u, h, hu, hb⟩ => ⟨u, h, hu, hb⟩)
          intro u6
          simp only [Act.put, List.setIfInBounds_toArray, List.set]
          refine wpS_have (p := ∃ D, u6 = .tuple #[.agg D, .int .i64 k2]) (fun W hW => ?_) ?_
          · obtain ⟨⟨⟨⟨⟨⟨hK, h2⟩, h3⟩, h10⟩, h4⟩, h5⟩, h6⟩ := hW
            obtain ⟨D, X, h, _⟩ := h6; exact ⟨D, h⟩
          rintro ⟨D, rfl⟩
          refine wpS_taken (i := 7) rfl (by kernel_rfl) (by kernel_rfl) (by kernel_rfl) (by kernel_rfl) (((((((KR.up (fun k => n ≤ k) W4 n C m).and (UT.up _ u2)).and (UT.up _ u3)).and (BxN.up _ u10)).and (ULS.up _ u4)).and (F5.up _ _ _ u5 u10)).and (F6.up _ _ _ _ (Value.tuple #[.agg D, .int .i64 k2]) u10)) ?_
          apply Exists.intro
          refine ⟨Or.inl ⟨rfl, fun W hW => ?hy⟩, ?_⟩
          case hy =>
            go_simp
            exact RegionU.does_value rfl
          simp only [Act.put, List.setIfInBounds_toArray, List.set]
          refine wpS_taken (i := 8) rfl (by kernel_rfl) (by kernel_rfl) (by kernel_rfl) (by kernel_rfl) (((((((KR.up (fun k => n ≤ k) W4 n C m).and (UT.up _ u2)).and (UT.up _ u3)).and (BxN.up _ u10)).and (ULS.up _ u4)).and (F5.up _ _ _ u5 u10)).and (F6.up _ _ _ _ (Value.tuple #[.agg D, .int .i64 k2]) u10)) ?_
          apply Exists.intro
          refine ⟨Or.inl ⟨rfl, fun W hW => ?hy⟩, ?_⟩
          case hy =>
            go_simp
            exact RegionU.does_value rfl
          simp only [Act.put, List.setIfInBounds_toArray, List.set]
          refine wpS_takenY (i := 9) rfl (by kernel_rfl) (by kernel_rfl) (by kernel_rfl) (by kernel_rfl) (((((((KR.up (fun k => n ≤ k) W4 n C m).and (UT.up _ u2)).and (UT.up _ u3)).and (BxN.up _ u10)).and (ULS.up _ u4)).and (F5.up _ _ _ u5 u10)).and (F6.up _ _ _ _ (Value.tuple #[.agg D, .int .i64 k2]) u10)) ?_
          apply Exists.intro
          refine ⟨fun _ _ _ h => h, Or.inl ⟨rfl, fun W => ?hy⟩, ?_⟩
          case hy =>
            go_simp
            rfl
          simp only [Act.put, List.setIfInBounds_toArray, List.set]
          refine wpS_done rfl (by kernel_rfl) (by kernel_rfl) ?_
          intro W hW
          obtain ⟨⟨⟨⟨⟨⟨hK, -⟩, -⟩, -⟩, -⟩, -⟩, hF⟩ := hW
          obtain ⟨D2, X, hD2, rfl, hXa, hXl, hD⟩ := hF
          have hD2 : D = D2 := by simpa using hD2
          subst hD2
          have HRX := Lib.hid (hD.row (.inr rfl) D)
          have HSZ := Lib.hid HRX.out.is.size; have HON := Lib.hid HRX.out.is.one
          have HXA := Lib.hid hXa; have HXR := Lib.hid (hXa.row D)
          have HBX := Lib.hid (hK.2.2.trans (below_row (Below.refl _ W) hXl D))
          have HXL := Lib.hid hXl
          clear hK hXa hXl hD
          refine wpList_store_dfa (B := X) (D := D) ?gA9 (.tmp 10) (.tmp 42) ?gB9 ?gC9 ?gD9 HXA.out zc_size HSZ.out HON.out ?gE9
          case gA9 => rfl
          case gB9 => rfl
          case gC9 => rfl
          case gD9 => rfl
          simp only [Act.put]
          go_wp2_with fail
          go_meet
          exact ⟨X, D, rfl, rfl, ⟨HXR.out, HRX.out.is⟩, HBX.out, HXL.out⟩
      case h10x2 =>
        intro u10
        simp only [Act.put, List.setIfInBounds_toArray, List.set]
        refine wpS_one (i := 3) (by kernel_rfl) (by kernel_rfl) rfl rfl (UT [txO]) (UT.up _) (fun W hW => ?hy) ?_
        case hy =>
          obtain ⟨⟨hK, h2⟩, h10⟩ := hW
          go_simp
          exact RegionU.does_made (T := UT [txO]) (ts_new W [txO] 9 W.heap.size rfl (by decide) HTO.out) ((Below.refl _ _).alloc (Nat.le_refl _) _)
        intro u3
        simp only [Act.put, List.setIfInBounds_toArray, List.set]
        refine wpS_one (i := 4) (by kernel_rfl) (by kernel_rfl) rfl rfl (ULS [U, [txO]]) (ULS.up _) (fun W hW => ?hy) ?_
        case hy =>
          obtain ⟨⟨⟨hK, h2⟩, h10⟩, h3⟩ := hW
          obtain ⟨a9, c9, hf9, _⟩ := TS.open h2
          rw [hf9] at h2 ⊢
          obtain ⟨a8, c8, hf8, _⟩ := TS.open h3
          rw [hf8] at h3 ⊢
          go_simp
          exact RegionU.does_made (T := ULS [U, [txO]]) (LS.new2 W _ _ _ _ _ h2 h3) ((Below.refl _ _).alloc (Nat.le_refl _) _)
        intro u4
        simp only [Act.put, List.setIfInBounds_toArray, List.set]
        refine wpS_one (i := 5) (by kernel_rfl) (by kernel_rfl) rfl rfl (fun u => F5 X4 W4 R u u10) (fun u => F5.up _ _ _ u u10) (fun W hW => ?hy) ?_
        case hy =>
          obtain ⟨⟨⟨⟨hK, h2⟩, h10⟩, h3⟩, h4⟩ := hW
          go_simp
          exact does_in ((HUN.of hfl.out hfz.out W _ h4).mono fun e w' ⟨u, h, hu, hb⟩ => ⟨u, h, F5.of1 h10 HX4.out hu (hR.out) hK.2.2 hb, hb⟩)
        intro u5
        simp only [Act.put, List.setIfInBounds_toArray, List.set]
        refine wpS_one (i := 6) (by kernel_rfl) (by kernel_rfl) rfl rfl (fun u => F6 X4 W4 M2 k2 u u10) (fun u => F6.up _ _ _ _ u u10) (fun W hW => ?hy) ?_
        case hy =>
          obtain ⟨⟨⟨⟨⟨hK, h2⟩, h10⟩, h3⟩, h4⟩, h5⟩ := hW
          go_simp
          obtain ⟨X, rfl, hXa, hXl, hXr⟩ := h5
          exact does_in ((HNA.of hk2.out hM2.out W hK.2.1 hXr HX4.out hXa hXl hK.2.2 HNW.out).mono fun e w' ⟨u, h, hu, hb⟩ => ⟨u, h, hu, hb⟩)
        intro u6
        simp only [Act.put, List.setIfInBounds_toArray, List.set]
        refine wpS_have (p := ∃ D, u6 = .tuple #[.agg D, .int .i64 k2]) (fun W hW => ?_) ?_
        · obtain ⟨⟨⟨⟨⟨⟨hK, h2⟩, h10⟩, h3⟩, h4⟩, h5⟩, h6⟩ := hW
          obtain ⟨D, X, h, _⟩ := h6; exact ⟨D, h⟩
        rintro ⟨D, rfl⟩
        refine wpS_taken (i := 7) rfl (by kernel_rfl) (by kernel_rfl) (by kernel_rfl) (by kernel_rfl) (((((((KR.up (fun k => n ≤ k) W4 n C m).and (UT.up _ u2)).and (BxN.up _ u10)).and (UT.up _ u3)).and (ULS.up _ u4)).and (F5.up _ _ _ u5 u10)).and (F6.up _ _ _ _ (Value.tuple #[.agg D, .int .i64 k2]) u10)) ?_
        apply Exists.intro
        refine ⟨Or.inl ⟨rfl, fun W hW => ?hy⟩, ?_⟩
        case hy =>
          go_simp
          exact RegionU.does_value rfl
        simp only [Act.put, List.setIfInBounds_toArray, List.set]
        refine wpS_taken (i := 8) rfl (by kernel_rfl) (by kernel_rfl) (by kernel_rfl) (by kernel_rfl) (((((((KR.up (fun k => n ≤ k) W4 n C m).and (UT.up _ u2)).and (BxN.up _ u10)).and (UT.up _ u3)).and (ULS.up _ u4)).and (F5.up _ _ _ u5 u10)).and (F6.up _ _ _ _ (Value.tuple #[.agg D, .int .i64 k2]) u10)) ?_
        apply Exists.intro
        refine ⟨Or.inl ⟨rfl, fun W hW => ?hy⟩, ?_⟩
        case hy =>
          go_simp
          exact RegionU.does_value rfl
        simp only [Act.put, List.setIfInBounds_toArray, List.set]
        refine wpS_takenY (i := 9) rfl (by kernel_rfl) (by kernel_rfl) (by kernel_rfl) (by kernel_rfl) (((((((KR.up (fun k => n ≤ k) W4 n C m).and (UT.up _ u2)).and (BxN.up _ u10)).and (UT.up _ u3)).and (ULS.up _ u4)).and (F5.up _ _ _ u5 u10)).and (F6.up _ _ _ _ (Value.tuple #[.agg D, .int .i64 k2]) u10)) ?_
        apply Exists.intro
        refine ⟨fun _ _ _ h => h, Or.inl ⟨rfl, fun W => ?hy⟩, ?_⟩
        case hy =>
          go_simp
          rfl
        simp only [Act.put, List.setIfInBounds_toArray, List.set]
        refine wpS_done rfl (by kernel_rfl) (by kernel_rfl) ?_
        intro W hW
        obtain ⟨⟨⟨⟨⟨⟨hK, -⟩, -⟩, -⟩, -⟩, -⟩, hF⟩ := hW
        obtain ⟨D2, X, hD2, rfl, hXa, hXl, hD⟩ := hF
        have hD2 : D = D2 := by simpa using hD2
        subst hD2
        have HRX := Lib.hid (hD.row (.inr rfl) D)
        have HSZ := Lib.hid HRX.out.is.size; have HON := Lib.hid HRX.out.is.one
        have HXA := Lib.hid hXa; have HXR := Lib.hid (hXa.row D)
        have HBX := Lib.hid (hK.2.2.trans (below_row (Below.refl _ W) hXl D))
        have HXL := Lib.hid hXl
        clear hK hXa hXl hD
        refine wpList_store_dfa (B := X) (D := D) ?gA10 (.tmp 10) (.tmp 42) ?gB10 ?gC10 ?gD10 HXA.out zc_size HSZ.out HON.out ?gE10
        case gA10 => rfl
        case gB10 => rfl
        case gC10 => rfl
        case gD10 => rfl
        simp only [Act.put]
        go_wp2_with fail
        go_meet
        exact ⟨X, D, rfl, rfl, ⟨HXR.out, HRX.out.is⟩, HBX.out, HXL.out⟩
    case h3x1 =>
      intro u3
      simp only [Act.put, List.setIfInBounds_toArray, List.set]
      refine wpS_two (i := 2) (j := 10) (by kernel_rfl) (by kernel_rfl) (by kernel_rfl) rfl rfl rfl rfl (UT U) (BxN W4) (UT.up _) (BxN.up _) (fun W hW => ?y2x11) (fun W hW => ?y10x11) ?h2x11 ?h10x11
      case y2x11 =>
        obtain ⟨hK, h3⟩ := hW
        go_simp
        exact does_in (H1.out W hK.bx.is)
      case y10x11 =>
        obtain ⟨hK, h3⟩ := hW
        go_simp
        exact RegionU.does_made (BxN.new hK.2.2.size) ((Below.refl _ _).alloc (Nat.le_refl _) _)
      case h2x11 =>
        intro u2
        simp only [Act.put, List.setIfInBounds_toArray, List.set]
        refine wpS_two (i := 4) (j := 10) (by kernel_rfl) (by kernel_rfl) (by kernel_rfl) rfl rfl rfl rfl (ULS [U, [txO]]) (BxN W4) (ULS.up _) (BxN.up _) (fun W hW => ?y4x12) (fun W hW => ?y10x12) ?h4x12 ?h10x12
        case y4x12 =>
          obtain ⟨⟨hK, h3⟩, h2⟩ := hW
          obtain ⟨a9, c9, hf9, _⟩ := TS.open h2
          rw [hf9] at h2 ⊢
          obtain ⟨a8, c8, hf8, _⟩ := TS.open h3
          rw [hf8] at h3 ⊢
          go_simp
          exact RegionU.does_made (T := ULS [U, [txO]]) (LS.new2 W _ _ _ _ _ h2 h3) ((Below.refl _ _).alloc (Nat.le_refl _) _)
        case y10x12 =>
          obtain ⟨⟨hK, h3⟩, h2⟩ := hW
          go_simp
          exact RegionU.does_made (BxN.new hK.2.2.size) ((Below.refl _ _).alloc (Nat.le_refl _) _)
        case h4x12 =>
          intro u4
          simp only [Act.put, List.setIfInBounds_toArray, List.set]
          refine wpS_two (i := 5) (j := 10) (by kernel_rfl) (by kernel_rfl) (by kernel_rfl) rfl rfl rfl rfl (T5 X4 R) (BxN W4) (T5.up _ _) (BxN.up _) (fun W hW => ?y5x13) (fun W hW => ?y10x13) ?h5x13 ?h10x13
          case y5x13 =>
            obtain ⟨⟨⟨hK, h3⟩, h2⟩, h4⟩ := hW
            go_simp
            exact does_in ((HUN.of hfl.out hfz.out W _ h4).mono fun e w' ⟨u, h, hu, hb⟩ => ⟨u, h, T5.of HX4.out hu hR.out hK.2.2, hb⟩)
          case y10x13 =>
            obtain ⟨⟨⟨hK, h3⟩, h2⟩, h4⟩ := hW
            go_simp
            exact RegionU.does_made (BxN.new hK.2.2.size) ((Below.refl _ _).alloc (Nat.le_refl _) _)
          case h5x13 =>
            intro u5
            simp only [Act.put, List.setIfInBounds_toArray, List.set]
            refine wpS_two (i := 6) (j := 10) (by kernel_rfl) (by kernel_rfl) (by kernel_rfl) rfl rfl rfl rfl (MT X4 M2 k2) (fun u => F5 X4 W4 R u5 u) (MT.up _ _ _) (fun u => F5.up _ _ _ u5 u) (fun W hW => ?y6x14) (fun W hW => ?y10x14) ?h6x14 ?h10x14
            case y6x14 =>
              obtain ⟨⟨⟨⟨hK, h3⟩, h2⟩, h4⟩, h5⟩ := hW
              go_simp
              exact does_in ((HNA W (hK.2.1.mono fun k hk => (HX4.out k hk).1) h5 (fun k hk => Nat.lt_of_lt_of_le (HX4.out k hk).2 hK.2.2.size)).mono fun e w' ⟨D, h, hd, hb⟩ => ⟨_, by rw [h, hk2.out], ⟨D, rfl, by rw [hM2.out]; exact hd⟩, hb⟩)
            case y10x14 =>
              obtain ⟨⟨⟨⟨hK, h3⟩, h2⟩, h4⟩, h5⟩ := hW
              go_simp
              exact RegionU.does_made (F5.of2 h5 hK.2.2) ((Below.refl _ _).alloc (Nat.le_refl _) _)
            case h6x14 =>
              intro u6
              simp only [Act.put, List.setIfInBounds_toArray, List.set]
              refine wpS_have (p := ∃ D, u6 = .tuple #[.agg D, .int .i64 k2]) (fun W hW => ?_) ?_
              · obtain ⟨⟨⟨⟨⟨hK, h3⟩, h2⟩, h4⟩, h5⟩, h6⟩ := hW
                obtain ⟨D, h, _⟩ := h6; exact ⟨D, h⟩
              rintro ⟨D, rfl⟩
              refine wpS_taken (i := 7) rfl (by kernel_rfl) (by kernel_rfl) (by kernel_rfl) (by kernel_rfl) ((((((KR.up (fun k => n ≤ k) W4 n C m).and (UT.up _ u3)).and (UT.up _ u2)).and (ULS.up _ u4)).and (T5.up _ _ u5)).and (MT.up _ _ _ (Value.tuple #[.agg D, .int .i64 k2]))) ?_
              apply Exists.intro
              refine ⟨Or.inl ⟨rfl, fun W hW => ?hy⟩, ?_⟩
              case hy =>
                go_simp
                exact RegionU.does_value rfl
              simp only [Act.put, List.setIfInBounds_toArray, List.set]
              refine wpS_taken (i := 8) rfl (by kernel_rfl) (by kernel_rfl) (by kernel_rfl) (by kernel_rfl) ((((((KR.up (fun k => n ≤ k) W4 n C m).and (UT.up _ u3)).and (UT.up _ u2)).and (ULS.up _ u4)).and (T5.up _ _ u5)).and (MT.up _ _ _ (Value.tuple #[.agg D, .int .i64 k2]))) ?_
              apply Exists.intro
              refine ⟨Or.inl ⟨rfl, fun W hW => ?hy⟩, ?_⟩
              case hy =>
                go_simp
                exact RegionU.does_value rfl
              simp only [Act.put, List.setIfInBounds_toArray, List.set]
              refine wpS_takenY (i := 9) rfl (by kernel_rfl) (by kernel_rfl) (by kernel_rfl) (by kernel_rfl) ((((((KR.up (fun k => n ≤ k) W4 n C m).and (UT.up _ u3)).and (UT.up _ u2)).and (ULS.up _ u4)).and (T5.up _ _ u5)).and (MT.up _ _ _ (Value.tuple #[.agg D, .int .i64 k2]))) ?_
              apply Exists.intro
              refine ⟨fun _ _ _ h => h, Or.inl ⟨rfl, fun W => ?hy⟩, ?_⟩
              case hy =>
                go_simp
                rfl
              simp only [Act.put, List.setIfInBounds_toArray, List.set]
              refine wpS_one (i := 10) (by kernel_rfl) (by kernel_rfl) rfl rfl (fun u => F6 X4 W4 M2 k2 (Value.tuple #[.agg D, .int .i64 k2]) u) (fun u => F6.up _ _ _ _ (Value.tuple #[.agg D, .int .i64 k2]) u) (fun W hW => ?hy) ?_
              case hy =>
                obtain ⟨⟨⟨⟨⟨hK, h3⟩, h2⟩, h4⟩, h5⟩, h6⟩ := hW
                go_simp
                exact RegionU.does_made (F6.of2 h6 hK.2.2) ((Below.refl _ _).alloc (Nat.le_refl _) _)
              intro u10
              simp only [Act.put, List.setIfInBounds_toArray, List.set]
              refine wpS_done rfl (by kernel_rfl) (by kernel_rfl) ?_
              intro W hW
              obtain ⟨⟨⟨⟨⟨⟨hK, -⟩, -⟩, -⟩, -⟩, -⟩, hF⟩ := hW
              obtain ⟨D2, X, hD2, rfl, hXa, hXl, hD⟩ := hF
              have hD2 : D = D2 := by simpa using hD2
              subst hD2
              have HRX := Lib.hid (hD.row (.inr rfl) D)
              have HSZ := Lib.hid HRX.out.is.size; have HON := Lib.hid HRX.out.is.one
              have HXA := Lib.hid hXa; have HXR := Lib.hid (hXa.row D)
              have HBX := Lib.hid (hK.2.2.trans (below_row (Below.refl _ W) hXl D))
              have HXL := Lib.hid hXl
              clear hK hXa hXl hD
              refine wpList_store_dfa (B := X) (D := D) ?gA15 (.tmp 10) (.tmp 42) ?gB15 ?gC15 ?gD15 HXA.out zc_size HSZ.out HON.out ?gE15
              case gA15 => rfl
              case gB15 => rfl
              case gC15 => rfl
              case gD15 => rfl
              simp only [Act.put]
              go_wp2_with fail
              go_meet
              exact ⟨X, D, rfl, rfl, ⟨HXR.out, HRX.out.is⟩, HBX.out, HXL.out⟩
            case h10x14 =>
              intro u10
              simp only [Act.put, List.setIfInBounds_toArray, List.set]
              refine wpS_one (i := 6) (by kernel_rfl) (by kernel_rfl) rfl rfl (fun u => F6 X4 W4 M2 k2 u u10) (fun u => F6.up _ _ _ _ u u10) (fun W hW => ?hy) ?_
              case hy =>
                obtain ⟨⟨⟨⟨⟨hK, h3⟩, h2⟩, h4⟩, h5o⟩, h5⟩ := hW
                go_simp
                obtain ⟨X, rfl, hXa, hXl, hXr⟩ := h5
                exact does_in ((HNA.of hk2.out hM2.out W hK.2.1 hXr HX4.out hXa hXl hK.2.2 HNW.out).mono fun e w' ⟨u, h, hu, hb⟩ => ⟨u, h, hu, hb⟩)
              intro u6
              simp only [Act.put, List.setIfInBounds_toArray, List.set]
              refine wpS_have (p := ∃ D, u6 = .tuple #[.agg D, .int .i64 k2]) (fun W hW => ?_) ?_
              · obtain ⟨⟨⟨⟨⟨⟨hK, h3⟩, h2⟩, h4⟩, h5o⟩, h5⟩, h6⟩ := hW
                obtain ⟨D, X, h, _⟩ := h6; exact ⟨D, h⟩
              rintro ⟨D, rfl⟩
              refine wpS_taken (i := 7) rfl (by kernel_rfl) (by kernel_rfl) (by kernel_rfl) (by kernel_rfl) (((((((KR.up (fun k => n ≤ k) W4 n C m).and (UT.up _ u3)).and (UT.up _ u2)).and (ULS.up _ u4)).and (T5.up _ _ u5)).and (F5.up _ _ _ u5 u10)).and (F6.up _ _ _ _ (Value.tuple #[.agg D, .int .i64 k2]) u10)) ?_
              apply Exists.intro
              refine ⟨Or.inl ⟨rfl, fun W hW => ?hy⟩, ?_⟩
              case hy =>
                go_simp
                exact RegionU.does_value rfl
              simp only [Act.put, List.setIfInBounds_toArray, List.set]
              refine wpS_taken (i := 8) rfl (by kernel_rfl) (by kernel_rfl) (by kernel_rfl) (by kernel_rfl) (((((((KR.up (fun k => n ≤ k) W4 n C m).and (UT.up _ u3)).and (UT.up _ u2)).and (ULS.up _ u4)).and (T5.up _ _ u5)).and (F5.up _ _ _ u5 u10)).and (F6.up _ _ _ _ (Value.tuple #[.agg D, .int .i64 k2]) u10)) ?_
              apply Exists.intro
              refine ⟨Or.inl ⟨rfl, fun W hW => ?hy⟩, ?_⟩
              case hy =>
                go_simp
                exact RegionU.does_value rfl
              simp only [Act.put, List.setIfInBounds_toArray, List.set]
              refine wpS_takenY (i := 9) rfl (by kernel_rfl) (by kernel_rfl) (by kernel_rfl) (by kernel_rfl) (((((((KR.up (fun k => n ≤ k) W4 n C m).and (UT.up _ u3)).and (UT.up _ u2)).and (ULS.up _ u4)).and (T5.up _ _ u5)).and (F5.up _ _ _ u5 u10)).and (F6.up _ _ _ _ (Value.tuple #[.agg D, .int .i64 k2]) u10)) ?_
              apply Exists.intro
              refine ⟨fun _ _ _ h => h, Or.inl ⟨rfl, fun W => ?hy⟩, ?_⟩
              case hy =>
                go_simp
                rfl
              simp only [Act.put, List.setIfInBounds_toArray, List.set]
              refine wpS_done rfl (by kernel_rfl) (by kernel_rfl) ?_
              intro W hW
              obtain ⟨⟨⟨⟨⟨⟨hK, -⟩, -⟩, -⟩, -⟩, -⟩, hF⟩ := hW
              obtain ⟨D2, X, hD2, rfl, hXa, hXl, hD⟩ := hF
              have hD2 : D = D2 := by simpa using hD2
              subst hD2
              have HRX := Lib.hid (hD.row (.inr rfl) D)
              have HSZ := Lib.hid HRX.out.is.size; have HON := Lib.hid HRX.out.is.one
              have HXA := Lib.hid hXa; have HXR := Lib.hid (hXa.row D)
              have HBX := Lib.hid (hK.2.2.trans (below_row (Below.refl _ W) hXl D))
              have HXL := Lib.hid hXl
              clear hK hXa hXl hD
              refine wpList_store_dfa (B := X) (D := D) ?gA16 (.tmp 10) (.tmp 42) ?gB16 ?gC16 ?gD16 HXA.out zc_size HSZ.out HON.out ?gE16
              case gA16 => rfl
              case gB16 => rfl
              case gC16 => rfl
              case gD16 => rfl
              simp only [Act.put]
              go_wp2_with fail
              go_meet
              exact ⟨X, D, rfl, rfl, ⟨HXR.out, HRX.out.is⟩, HBX.out, HXL.out⟩
          case h10x13 =>
            intro u10
            simp only [Act.put, List.setIfInBounds_toArray, List.set]
            refine wpS_one (i := 5) (by kernel_rfl) (by kernel_rfl) rfl rfl (fun u => F5 X4 W4 R u u10) (fun u => F5.up _ _ _ u u10) (fun W hW => ?hy) ?_
            case hy =>
              obtain ⟨⟨⟨⟨hK, h3⟩, h2⟩, h4⟩, h10⟩ := hW
              go_simp
              exact does_in ((HUN.of hfl.out hfz.out W _ h4).mono fun e w' ⟨u, h, hu, hb⟩ => ⟨u, h, F5.of1 h10 HX4.out hu (hR.out) hK.2.2 hb, hb⟩)
            intro u5
            simp only [Act.put, List.setIfInBounds_toArray, List.set]
            refine wpS_one (i := 6) (by kernel_rfl) (by kernel_rfl) rfl rfl (fun u => F6 X4 W4 M2 k2 u u10) (fun u => F6.up _ _ _ _ u u10) (fun W hW => ?hy) ?_
            case hy =>
              obtain ⟨⟨⟨⟨⟨hK, h3⟩, h2⟩, h4⟩, h10⟩, h5⟩ := hW
              go_simp
              obtain ⟨X, rfl, hXa, hXl, hXr⟩ := h5
              exact does_in ((HNA.of hk2.out hM2.out W hK.2.1 hXr HX4.out hXa hXl hK.2.2 HNW.out).mono fun e w' ⟨u, h, hu, hb⟩ => ⟨u, h, hu, hb⟩)
            intro u6
            simp only [Act.put, List.setIfInBounds_toArray, List.set]
            refine wpS_have (p := ∃ D, u6 = .tuple #[.agg D, .int .i64 k2]) (fun W hW => ?_) ?_
            · obtain ⟨⟨⟨⟨⟨⟨hK, h3⟩, h2⟩, h4⟩, h10⟩, h5⟩, h6⟩ := hW
              obtain ⟨D, X, h, _⟩ := h6; exact ⟨D, h⟩
            rintro ⟨D, rfl⟩
            refine wpS_taken (i := 7) rfl (by kernel_rfl) (by kernel_rfl) (by kernel_rfl) (by kernel_rfl) (((((((KR.up (fun k => n ≤ k) W4 n C m).and (UT.up _ u3)).and (UT.up _ u2)).and (ULS.up _ u4)).and (BxN.up _ u10)).and (F5.up _ _ _ u5 u10)).and (F6.up _ _ _ _ (Value.tuple #[.agg D, .int .i64 k2]) u10)) ?_
            apply Exists.intro
            refine ⟨Or.inl ⟨rfl, fun W hW => ?hy⟩, ?_⟩
            case hy =>
              go_simp
              exact RegionU.does_value rfl
            simp only [Act.put, List.setIfInBounds_toArray, List.set]
            refine wpS_taken (i := 8) rfl (by kernel_rfl) (by kernel_rfl) (by kernel_rfl) (by kernel_rfl) (((((((KR.up (fun k => n ≤ k) W4 n C m).and (UT.up _ u3)).and (UT.up _ u2)).and (ULS.up _ u4)).and (BxN.up _ u10)).and (F5.up _ _ _ u5 u10)).and (F6.up _ _ _ _ (Value.tuple #[.agg D, .int .i64 k2]) u10)) ?_
            apply Exists.intro
            refine ⟨Or.inl ⟨rfl, fun W hW => ?hy⟩, ?_⟩
            case hy =>
              go_simp
              exact RegionU.does_value rfl
            simp only [Act.put, List.setIfInBounds_toArray, List.set]
            refine wpS_takenY (i := 9) rfl (by kernel_rfl) (by kernel_rfl) (by kernel_rfl) (by kernel_rfl) (((((((KR.up (fun k => n ≤ k) W4 n C m).and (UT.up _ u3)).and (UT.up _ u2)).and (ULS.up _ u4)).and (BxN.up _ u10)).and (F5.up _ _ _ u5 u10)).and (F6.up _ _ _ _ (Value.tuple #[.agg D, .int .i64 k2]) u10)) ?_
            apply Exists.intro
            refine ⟨fun _ _ _ h => h, Or.inl ⟨rfl, fun W => ?hy⟩, ?_⟩
            case hy =>
              go_simp
              rfl
            simp only [Act.put, List.setIfInBounds_toArray, List.set]
            refine wpS_done rfl (by kernel_rfl) (by kernel_rfl) ?_
            intro W hW
            obtain ⟨⟨⟨⟨⟨⟨hK, -⟩, -⟩, -⟩, -⟩, -⟩, hF⟩ := hW
            obtain ⟨D2, X, hD2, rfl, hXa, hXl, hD⟩ := hF
            have hD2 : D = D2 := by simpa using hD2
            subst hD2
            have HRX := Lib.hid (hD.row (.inr rfl) D)
            have HSZ := Lib.hid HRX.out.is.size; have HON := Lib.hid HRX.out.is.one
            have HXA := Lib.hid hXa; have HXR := Lib.hid (hXa.row D)
            have HBX := Lib.hid (hK.2.2.trans (below_row (Below.refl _ W) hXl D))
            have HXL := Lib.hid hXl
            clear hK hXa hXl hD
            refine wpList_store_dfa (B := X) (D := D) ?gA17 (.tmp 10) (.tmp 42) ?gB17 ?gC17 ?gD17 HXA.out zc_size HSZ.out HON.out ?gE17
            case gA17 => rfl
            case gB17 => rfl
            case gC17 => rfl
            case gD17 => rfl
            simp only [Act.put]
            go_wp2_with fail
            go_meet
            exact ⟨X, D, rfl, rfl, ⟨HXR.out, HRX.out.is⟩, HBX.out, HXL.out⟩
        case h10x12 =>
          intro u10
          simp only [Act.put, List.setIfInBounds_toArray, List.set]
          refine wpS_one (i := 4) (by kernel_rfl) (by kernel_rfl) rfl rfl (ULS [U, [txO]]) (ULS.up _) (fun W hW => ?hy) ?_
          case hy =>
            obtain ⟨⟨⟨hK, h3⟩, h2⟩, h10⟩ := hW
            obtain ⟨a9, c9, hf9, _⟩ := TS.open h2
            rw [hf9] at h2 ⊢
            obtain ⟨a8, c8, hf8, _⟩ := TS.open h3
            rw [hf8] at h3 ⊢
            go_simp
            exact RegionU.does_made (T := ULS [U, [txO]]) (LS.new2 W _ _ _ _ _ h2 h3) ((Below.refl _ _).alloc (Nat.le_refl _) _)
          intro u4
          simp only [Act.put, List.setIfInBounds_toArray, List.set]
          refine wpS_one (i := 5) (by kernel_rfl) (by kernel_rfl) rfl rfl (fun u => F5 X4 W4 R u u10) (fun u => F5.up _ _ _ u u10) (fun W hW => ?hy) ?_
          case hy =>
            obtain ⟨⟨⟨⟨hK, h3⟩, h2⟩, h10⟩, h4⟩ := hW
            go_simp
            exact does_in ((HUN.of hfl.out hfz.out W _ h4).mono fun e w' ⟨u, h, hu, hb⟩ => ⟨u, h, F5.of1 h10 HX4.out hu (hR.out) hK.2.2 hb, hb⟩)
          intro u5
          simp only [Act.put, List.setIfInBounds_toArray, List.set]
          refine wpS_one (i := 6) (by kernel_rfl) (by kernel_rfl) rfl rfl (fun u => F6 X4 W4 M2 k2 u u10) (fun u => F6.up _ _ _ _ u u10) (fun W hW => ?hy) ?_
          case hy =>
            obtain ⟨⟨⟨⟨⟨hK, h3⟩, h2⟩, h10⟩, h4⟩, h5⟩ := hW
            go_simp
            obtain ⟨X, rfl, hXa, hXl, hXr⟩ := h5
            exact does_in ((HNA.of hk2.out hM2.out W hK.2.1 hXr HX4.out hXa hXl hK.2.2 HNW.out).mono fun e w' ⟨u, h, hu, hb⟩ => ⟨u, h, hu, hb⟩)
          intro u6
          simp only [Act.put, List.setIfInBounds_toArray, List.set]
          refine wpS_have (p := ∃ D, u6 = .tuple #[.agg D, .int .i64 k2]) (fun W hW => ?_) ?_
          · obtain ⟨⟨⟨⟨⟨⟨hK, h3⟩, h2⟩, h10⟩, h4⟩, h5⟩, h6⟩ := hW
            obtain ⟨D, X, h, _⟩ := h6; exact ⟨D, h⟩
          rintro ⟨D, rfl⟩
          refine wpS_taken (i := 7) rfl (by kernel_rfl) (by kernel_rfl) (by kernel_rfl) (by kernel_rfl) (((((((KR.up (fun k => n ≤ k) W4 n C m).and (UT.up _ u3)).and (UT.up _ u2)).and (BxN.up _ u10)).and (ULS.up _ u4)).and (F5.up _ _ _ u5 u10)).and (F6.up _ _ _ _ (Value.tuple #[.agg D, .int .i64 k2]) u10)) ?_
          apply Exists.intro
          refine ⟨Or.inl ⟨rfl, fun W hW => ?hy⟩, ?_⟩
          case hy =>
            go_simp
            exact RegionU.does_value rfl
          simp only [Act.put, List.setIfInBounds_toArray, List.set]
          refine wpS_taken (i := 8) rfl (by kernel_rfl) (by kernel_rfl) (by kernel_rfl) (by kernel_rfl) (((((((KR.up (fun k => n ≤ k) W4 n C m).and (UT.up _ u3)).and (UT.up _ u2)).and (BxN.up _ u10)).and (ULS.up _ u4)).and (F5.up _ _ _ u5 u10)).and (F6.up _ _ _ _ (Value.tuple #[.agg D, .int .i64 k2]) u10)) ?_
          apply Exists.intro
          refine ⟨Or.inl ⟨rfl, fun W hW => ?hy⟩, ?_⟩
          case hy =>
            go_simp
            exact RegionU.does_value rfl
          simp only [Act.put, List.setIfInBounds_toArray, List.set]
          refine wpS_takenY (i := 9) rfl (by kernel_rfl) (by kernel_rfl) (by kernel_rfl) (by kernel_rfl) (((((((KR.up (fun k => n ≤ k) W4 n C m).and (UT.up _ u3)).and (UT.up _ u2)).and (BxN.up _ u10)).and (ULS.up _ u4)).and (F5.up _ _ _ u5 u10)).and (F6.up _ _ _ _ (Value.tuple #[.agg D, .int .i64 k2]) u10)) ?_
          apply Exists.intro
          refine ⟨fun _ _ _ h => h, Or.inl ⟨rfl, fun W => ?hy⟩, ?_⟩
          case hy =>
            go_simp
            rfl
          simp only [Act.put, List.setIfInBounds_toArray, List.set]
          refine wpS_done rfl (by kernel_rfl) (by kernel_rfl) ?_
          intro W hW
          obtain ⟨⟨⟨⟨⟨⟨hK, -⟩, -⟩, -⟩, -⟩, -⟩, hF⟩ := hW
          obtain ⟨D2, X, hD2, rfl, hXa, hXl, hD⟩ := hF
          have hD2 : D = D2 := by simpa using hD2
          subst hD2
          have HRX := Lib.hid (hD.row (.inr rfl) D)
          have HSZ := Lib.hid HRX.out.is.size; have HON := Lib.hid HRX.out.is.one
          have HXA := Lib.hid hXa; have HXR := Lib.hid (hXa.row D)
          have HBX := Lib.hid (hK.2.2.trans (below_row (Below.refl _ W) hXl D))
          have HXL := Lib.hid hXl
          clear hK hXa hXl hD
          refine wpList_store_dfa (B := X) (D := D) ?gA18 (.tmp 10) (.tmp 42) ?gB18 ?gC18 ?gD18 HXA.out zc_size HSZ.out HON.out ?gE18
          case gA18 => rfl
          case gB18 => rfl
          case gC18 => rfl
          case gD18 => rfl
          simp only [Act.put]
          go_wp2_with fail
          go_meet
          exact ⟨X, D, rfl, rfl, ⟨HXR.out, HRX.out.is⟩, HBX.out, HXL.out⟩
      case h10x11 =>
        intro u10
        simp only [Act.put, List.setIfInBounds_toArray, List.set]
        refine wpS_one (i := 2) (by kernel_rfl) (by kernel_rfl) rfl rfl (UT U) (UT.up _) (fun W hW => ?hy) ?_
        case hy =>
          obtain ⟨⟨hK, h3⟩, h10⟩ := hW
          go_simp
          exact does_in (H1.out W hK.bx.is)
        intro u2
        simp only [Act.put, List.setIfInBounds_toArray, List.set]
        refine wpS_one (i := 4) (by kernel_rfl) (by kernel_rfl) rfl rfl (ULS [U, [txO]]) (ULS.up _) (fun W hW => ?hy) ?_
        case hy =>
          obtain ⟨⟨⟨hK, h3⟩, h10⟩, h2⟩ := hW
          obtain ⟨a9, c9, hf9, _⟩ := TS.open h2
          rw [hf9] at h2 ⊢
          obtain ⟨a8, c8, hf8, _⟩ := TS.open h3
          rw [hf8] at h3 ⊢
          go_simp
          exact RegionU.does_made (T := ULS [U, [txO]]) (LS.new2 W _ _ _ _ _ h2 h3) ((Below.refl _ _).alloc (Nat.le_refl _) _)
        intro u4
        simp only [Act.put, List.setIfInBounds_toArray, List.set]
        refine wpS_one (i := 5) (by kernel_rfl) (by kernel_rfl) rfl rfl (fun u => F5 X4 W4 R u u10) (fun u => F5.up _ _ _ u u10) (fun W hW => ?hy) ?_
        case hy =>
          obtain ⟨⟨⟨⟨hK, h3⟩, h10⟩, h2⟩, h4⟩ := hW
          go_simp
          exact does_in ((HUN.of hfl.out hfz.out W _ h4).mono fun e w' ⟨u, h, hu, hb⟩ => ⟨u, h, F5.of1 h10 HX4.out hu (hR.out) hK.2.2 hb, hb⟩)
        intro u5
        simp only [Act.put, List.setIfInBounds_toArray, List.set]
        refine wpS_one (i := 6) (by kernel_rfl) (by kernel_rfl) rfl rfl (fun u => F6 X4 W4 M2 k2 u u10) (fun u => F6.up _ _ _ _ u u10) (fun W hW => ?hy) ?_
        case hy =>
          obtain ⟨⟨⟨⟨⟨hK, h3⟩, h10⟩, h2⟩, h4⟩, h5⟩ := hW
          go_simp
          obtain ⟨X, rfl, hXa, hXl, hXr⟩ := h5
          exact does_in ((HNA.of hk2.out hM2.out W hK.2.1 hXr HX4.out hXa hXl hK.2.2 HNW.out).mono fun e w' ⟨u, h, hu, hb⟩ => ⟨u, h, hu, hb⟩)
        intro u6
        simp only [Act.put, List.setIfInBounds_toArray, List.set]
        refine wpS_have (p := ∃ D, u6 = .tuple #[.agg D, .int .i64 k2]) (fun W hW => ?_) ?_
        · obtain ⟨⟨⟨⟨⟨⟨hK, h3⟩, h10⟩, h2⟩, h4⟩, h5⟩, h6⟩ := hW
          obtain ⟨D, X, h, _⟩ := h6; exact ⟨D, h⟩
        rintro ⟨D, rfl⟩
        refine wpS_taken (i := 7) rfl (by kernel_rfl) (by kernel_rfl) (by kernel_rfl) (by kernel_rfl) (((((((KR.up (fun k => n ≤ k) W4 n C m).and (UT.up _ u3)).and (BxN.up _ u10)).and (UT.up _ u2)).and (ULS.up _ u4)).and (F5.up _ _ _ u5 u10)).and (F6.up _ _ _ _ (Value.tuple #[.agg D, .int .i64 k2]) u10)) ?_
        apply Exists.intro
        refine ⟨Or.inl ⟨rfl, fun W hW => ?hy⟩, ?_⟩
        case hy =>
          go_simp
          exact RegionU.does_value rfl
        simp only [Act.put, List.setIfInBounds_toArray, List.set]
        refine wpS_taken (i := 8) rfl (by kernel_rfl) (by kernel_rfl) (by kernel_rfl) (by kernel_rfl) (((((((KR.up (fun k => n ≤ k) W4 n C m).and (UT.up _ u3)).and (BxN.up _ u10)).and (UT.up _ u2)).and (ULS.up _ u4)).and (F5.up _ _ _ u5 u10)).and (F6.up _ _ _ _ (Value.tuple #[.agg D, .int .i64 k2]) u10)) ?_
        apply Exists.intro
        refine ⟨Or.inl ⟨rfl, fun W hW => ?hy⟩, ?_⟩
        case hy =>
          go_simp
          exact RegionU.does_value rfl
        simp only [Act.put, List.setIfInBounds_toArray, List.set]
        refine wpS_takenY (i := 9) rfl (by kernel_rfl) (by kernel_rfl) (by kernel_rfl) (by kernel_rfl) (((((((KR.up (fun k => n ≤ k) W4 n C m).and (UT.up _ u3)).and (BxN.up _ u10)).and (UT.up _ u2)).and (ULS.up _ u4)).and (F5.up _ _ _ u5 u10)).and (F6.up _ _ _ _ (Value.tuple #[.agg D, .int .i64 k2]) u10)) ?_
        apply Exists.intro
        refine ⟨fun _ _ _ h => h, Or.inl ⟨rfl, fun W => ?hy⟩, ?_⟩
        case hy =>
          go_simp
          rfl
        simp only [Act.put, List.setIfInBounds_toArray, List.set]
        refine wpS_done rfl (by kernel_rfl) (by kernel_rfl) ?_
        intro W hW
        obtain ⟨⟨⟨⟨⟨⟨hK, -⟩, -⟩, -⟩, -⟩, -⟩, hF⟩ := hW
        obtain ⟨D2, X, hD2, rfl, hXa, hXl, hD⟩ := hF
        have hD2 : D = D2 := by simpa using hD2
        subst hD2
        have HRX := Lib.hid (hD.row (.inr rfl) D)
        have HSZ := Lib.hid HRX.out.is.size; have HON := Lib.hid HRX.out.is.one
        have HXA := Lib.hid hXa; have HXR := Lib.hid (hXa.row D)
        have HBX := Lib.hid (hK.2.2.trans (below_row (Below.refl _ W) hXl D))
        have HXL := Lib.hid hXl
        clear hK hXa hXl hD
        refine wpList_store_dfa (B := X) (D := D) ?gA19 (.tmp 10) (.tmp 42) ?gB19 ?gC19 ?gD19 HXA.out zc_size HSZ.out HON.out ?gE19
        case gA19 => rfl
        case gB19 => rfl
        case gC19 => rfl
        case gD19 => rfl
        simp only [Act.put]
        go_wp2_with fail
        go_meet
        exact ⟨X, D, rfl, rfl, ⟨HXR.out, HRX.out.is⟩, HBX.out, HXL.out⟩
    case h10x1 =>
      intro u10
      simp only [Act.put, List.setIfInBounds_toArray, List.set]
      refine wpS_two (i := 2) (j := 3) (by kernel_rfl) (by kernel_rfl) (by kernel_rfl) rfl rfl rfl rfl (UT U) (UT [txO]) (UT.up _) (UT.up _) (fun W hW => ?y2x20) (fun W hW => ?y3x20) ?h2x20 ?h3x20
      case y2x20 =>
        obtain ⟨hK, h10⟩ := hW
        go_simp
        exact does_in (H1.out W hK.bx.is)
      case y3x20 =>
        obtain ⟨hK, h10⟩ := hW
        go_simp
        exact RegionU.does_made (T := UT [txO]) (ts_new W [txO] 9 W.heap.size rfl (by decide) HTO.out) ((Below.refl _ _).alloc (Nat.le_refl _) _)
      case h2x20 =>
        intro u2
        simp only [Act.put, List.setIfInBounds_toArray, List.set]
        refine wpS_one (i := 3) (by kernel_rfl) (by kernel_rfl) rfl rfl (UT [txO]) (UT.up _) (fun W hW => ?hy) ?_
        case hy =>
          obtain ⟨⟨hK, h10⟩, h2⟩ := hW
          go_simp
          exact RegionU.does_made (T := UT [txO]) (ts_new W [txO] 9 W.heap.size rfl (by decide) HTO.out) ((Below.refl _ _).alloc (Nat.le_refl _) _)
        intro u3
        simp only [Act.put, List.setIfInBounds_toArray, List.set]
        refine wpS_one (i := 4) (by kernel_rfl) (by kernel_rfl) rfl rfl (ULS [U, [txO]]) (ULS.up _) (fun W hW => ?hy) ?_
        case hy =>
          obtain ⟨⟨⟨hK, h10⟩, h2⟩, h3⟩ := hW
          obtain ⟨a9, c9, hf9, _⟩ := TS.open h2
          rw [hf9] at h2 ⊢
          obtain ⟨a8, c8, hf8, _⟩ := TS.open h3
          rw [hf8] at h3 ⊢
          go_simp
          exact RegionU.does_made (T := ULS [U, [txO]]) (LS.new2 W _ _ _ _ _ h2 h3) ((Below.refl _ _).alloc (Nat.le_refl _) _)
        intro u4
        simp only [Act.put, List.setIfInBounds_toArray, List.set]
        refine wpS_one (i := 5) (by kernel_rfl) (by kernel_rfl) rfl rfl (fun u => F5 X4 W4 R u u10) (fun u => F5.up _ _ _ u u10) (fun W hW => ?hy) ?_
        case hy =>
          obtain ⟨⟨⟨⟨hK, h10⟩, h2⟩, h3⟩, h4⟩ := hW
          go_simp
          exact does_in ((HUN.of hfl.out hfz.out W _ h4).mono fun e w' ⟨u, h, hu, hb⟩ => ⟨u, h, F5.of1 h10 HX4.out hu (hR.out) hK.2.2 hb, hb⟩)
        intro u5
        simp only [Act.put, List.setIfInBounds_toArray, List.set]
        refine wpS_one (i := 6) (by kernel_rfl) (by kernel_rfl) rfl rfl (fun u => F6 X4 W4 M2 k2 u u10) (fun u => F6.up _ _ _ _ u u10) (fun W hW => ?hy) ?_
        case hy =>
          obtain ⟨⟨⟨⟨⟨hK, h10⟩, h2⟩, h3⟩, h4⟩, h5⟩ := hW
          go_simp
          obtain ⟨X, rfl, hXa, hXl, hXr⟩ := h5
          exact does_in ((HNA.of hk2.out hM2.out W hK.2.1 hXr HX4.out hXa hXl hK.2.2 HNW.out).mono fun e w' ⟨u, h, hu, hb⟩ => ⟨u, h, hu, hb⟩)
        intro u6
        simp only [Act.put, List.setIfInBounds_toArray, List.set]
        refine wpS_have (p := ∃ D, u6 = .tuple #[.agg D, .int .i64 k2]) (fun W hW => ?_) ?_
        · obtain ⟨⟨⟨⟨⟨⟨hK, h10⟩, h2⟩, h3⟩, h4⟩, h5⟩, h6⟩ := hW
          obtain ⟨D, X, h, _⟩ := h6; exact ⟨D, h⟩
        rintro ⟨D, rfl⟩
        refine wpS_taken (i := 7) rfl (by kernel_rfl) (by kernel_rfl) (by kernel_rfl) (by kernel_rfl) (((((((KR.up (fun k => n ≤ k) W4 n C m).and (BxN.up _ u10)).and (UT.up _ u2)).and (UT.up _ u3)).and (ULS.up _ u4)).and (F5.up _ _ _ u5 u10)).and (F6.up _ _ _ _ (Value.tuple #[.agg D, .int .i64 k2]) u10)) ?_
        apply Exists.intro
        refine ⟨Or.inl ⟨rfl, fun W hW => ?hy⟩, ?_⟩
        case hy =>
          go_simp
          exact RegionU.does_value rfl
        simp only [Act.put, List.setIfInBounds_toArray, List.set]
        refine wpS_taken (i := 8) rfl (by kernel_rfl) (by kernel_rfl) (by kernel_rfl) (by kernel_rfl) (((((((KR.up (fun k => n ≤ k) W4 n C m).and (BxN.up _ u10)).and (UT.up _ u2)).and (UT.up _ u3)).and (ULS.up _ u4)).and (F5.up _ _ _ u5 u10)).and (F6.up _ _ _ _ (Value.tuple #[.agg D, .int .i64 k2]) u10)) ?_
        apply Exists.intro
        refine ⟨Or.inl ⟨rfl, fun W hW => ?hy⟩, ?_⟩
        case hy =>
          go_simp
          exact RegionU.does_value rfl
        simp only [Act.put, List.setIfInBounds_toArray, List.set]
        refine wpS_takenY (i := 9) rfl (by kernel_rfl) (by kernel_rfl) (by kernel_rfl) (by kernel_rfl) (((((((KR.up (fun k => n ≤ k) W4 n C m).and (BxN.up _ u10)).and (UT.up _ u2)).and (UT.up _ u3)).and (ULS.up _ u4)).and (F5.up _ _ _ u5 u10)).and (F6.up _ _ _ _ (Value.tuple #[.agg D, .int .i64 k2]) u10)) ?_
        apply Exists.intro
        refine ⟨fun _ _ _ h => h, Or.inl ⟨rfl, fun W => ?hy⟩, ?_⟩
        case hy =>
          go_simp
          rfl
        simp only [Act.put, List.setIfInBounds_toArray, List.set]
        refine wpS_done rfl (by kernel_rfl) (by kernel_rfl) ?_
        intro W hW
        obtain ⟨⟨⟨⟨⟨⟨hK, -⟩, -⟩, -⟩, -⟩, -⟩, hF⟩ := hW
        obtain ⟨D2, X, hD2, rfl, hXa, hXl, hD⟩ := hF
        have hD2 : D = D2 := by simpa using hD2
        subst hD2
        have HRX := Lib.hid (hD.row (.inr rfl) D)
        have HSZ := Lib.hid HRX.out.is.size; have HON := Lib.hid HRX.out.is.one
        have HXA := Lib.hid hXa; have HXR := Lib.hid (hXa.row D)
        have HBX := Lib.hid (hK.2.2.trans (below_row (Below.refl _ W) hXl D))
        have HXL := Lib.hid hXl
        clear hK hXa hXl hD
        refine wpList_store_dfa (B := X) (D := D) ?gA21 (.tmp 10) (.tmp 42) ?gB21 ?gC21 ?gD21 HXA.out zc_size HSZ.out HON.out ?gE21
        case gA21 => rfl
        case gB21 => rfl
        case gC21 => rfl
        case gD21 => rfl
        simp only [Act.put]
        go_wp2_with fail
        go_meet
        exact ⟨X, D, rfl, rfl, ⟨HXR.out, HRX.out.is⟩, HBX.out, HXL.out⟩
      case h3x20 =>
        intro u3
        simp only [Act.put, List.setIfInBounds_toArray, List.set]
        refine wpS_one (i := 2) (by kernel_rfl) (by kernel_rfl) rfl rfl (UT U) (UT.up _) (fun W hW => ?hy) ?_
        case hy =>
          obtain ⟨⟨hK, h10⟩, h3⟩ := hW
          go_simp
          exact does_in (H1.out W hK.bx.is)
        intro u2
        simp only [Act.put, List.setIfInBounds_toArray, List.set]
        refine wpS_one (i := 4) (by kernel_rfl) (by kernel_rfl) rfl rfl (ULS [U, [txO]]) (ULS.up _) (fun W hW => ?hy) ?_
        case hy =>
          obtain ⟨⟨⟨hK, h10⟩, h3⟩, h2⟩ := hW
          obtain ⟨a9, c9, hf9, _⟩ := TS.open h2
          rw [hf9] at h2 ⊢
          obtain ⟨a8, c8, hf8, _⟩ := TS.open h3
          rw [hf8] at h3 ⊢
          go_simp
          exact RegionU.does_made (T := ULS [U, [txO]]) (LS.new2 W _ _ _ _ _ h2 h3) ((Below.refl _ _).alloc (Nat.le_refl _) _)
        intro u4
        simp only [Act.put, List.setIfInBounds_toArray, List.set]
        refine wpS_one (i := 5) (by kernel_rfl) (by kernel_rfl) rfl rfl (fun u => F5 X4 W4 R u u10) (fun u => F5.up _ _ _ u u10) (fun W hW => ?hy) ?_
        case hy =>
          obtain ⟨⟨⟨⟨hK, h10⟩, h3⟩, h2⟩, h4⟩ := hW
          go_simp
          exact does_in ((HUN.of hfl.out hfz.out W _ h4).mono fun e w' ⟨u, h, hu, hb⟩ => ⟨u, h, F5.of1 h10 HX4.out hu (hR.out) hK.2.2 hb, hb⟩)
        intro u5
        simp only [Act.put, List.setIfInBounds_toArray, List.set]
        refine wpS_one (i := 6) (by kernel_rfl) (by kernel_rfl) rfl rfl (fun u => F6 X4 W4 M2 k2 u u10) (fun u => F6.up _ _ _ _ u u10) (fun W hW => ?hy) ?_
        case hy =>
          obtain ⟨⟨⟨⟨⟨hK, h10⟩, h3⟩, h2⟩, h4⟩, h5⟩ := hW
          go_simp
          obtain ⟨X, rfl, hXa, hXl, hXr⟩ := h5
          exact does_in ((HNA.of hk2.out hM2.out W hK.2.1 hXr HX4.out hXa hXl hK.2.2 HNW.out).mono fun e w' ⟨u, h, hu, hb⟩ => ⟨u, h, hu, hb⟩)
        intro u6
        simp only [Act.put, List.setIfInBounds_toArray, List.set]
        refine wpS_have (p := ∃ D, u6 = .tuple #[.agg D, .int .i64 k2]) (fun W hW => ?_) ?_
        · obtain ⟨⟨⟨⟨⟨⟨hK, h10⟩, h3⟩, h2⟩, h4⟩, h5⟩, h6⟩ := hW
          obtain ⟨D, X, h, _⟩ := h6; exact ⟨D, h⟩
        rintro ⟨D, rfl⟩
        refine wpS_taken (i := 7) rfl (by kernel_rfl) (by kernel_rfl) (by kernel_rfl) (by kernel_rfl) (((((((KR.up (fun k => n ≤ k) W4 n C m).and (BxN.up _ u10)).and (UT.up _ u3)).and (UT.up _ u2)).and (ULS.up _ u4)).and (F5.up _ _ _ u5 u10)).and (F6.up _ _ _ _ (Value.tuple #[.agg D, .int .i64 k2]) u10)) ?_
        apply Exists.intro
        refine ⟨Or.inl ⟨rfl, fun W hW => ?hy⟩, ?_⟩
        case hy =>
          go_simp
          exact RegionU.does_value rfl
        simp only [Act.put, List.setIfInBounds_toArray, List.set]
        refine wpS_taken (i := 8) rfl (by kernel_rfl) (by kernel_rfl) (by kernel_rfl) (by kernel_rfl) (((((((KR.up (fun k => n ≤ k) W4 n C m).and (BxN.up _ u10)).and (UT.up _ u3)).and (UT.up _ u2)).and (ULS.up _ u4)).and (F5.up _ _ _ u5 u10)).and (F6.up _ _ _ _ (Value.tuple #[.agg D, .int .i64 k2]) u10)) ?_
        apply Exists.intro
        refine ⟨Or.inl ⟨rfl, fun W hW => ?hy⟩, ?_⟩
        case hy =>
          go_simp
          exact RegionU.does_value rfl
        simp only [Act.put, List.setIfInBounds_toArray, List.set]
        refine wpS_takenY (i := 9) rfl (by kernel_rfl) (by kernel_rfl) (by kernel_rfl) (by kernel_rfl) (((((((KR.up (fun k => n ≤ k) W4 n C m).and (BxN.up _ u10)).and (UT.up _ u3)).and (UT.up _ u2)).and (ULS.up _ u4)).and (F5.up _ _ _ u5 u10)).and (F6.up _ _ _ _ (Value.tuple #[.agg D, .int .i64 k2]) u10)) ?_
        apply Exists.intro
        refine ⟨fun _ _ _ h => h, Or.inl ⟨rfl, fun W => ?hy⟩, ?_⟩
        case hy =>
          go_simp
          rfl
        simp only [Act.put, List.setIfInBounds_toArray, List.set]
        refine wpS_done rfl (by kernel_rfl) (by kernel_rfl) ?_
        intro W hW
        obtain ⟨⟨⟨⟨⟨⟨hK, -⟩, -⟩, -⟩, -⟩, -⟩, hF⟩ := hW
        obtain ⟨D2, X, hD2, rfl, hXa, hXl, hD⟩ := hF
        have hD2 : D = D2 := by simpa using hD2
        subst hD2
        have HRX := Lib.hid (hD.row (.inr rfl) D)
        have HSZ := Lib.hid HRX.out.is.size; have HON := Lib.hid HRX.out.is.one
        have HXA := Lib.hid hXa; have HXR := Lib.hid (hXa.row D)
        have HBX := Lib.hid (hK.2.2.trans (below_row (Below.refl _ W) hXl D))
        have HXL := Lib.hid hXl
        clear hK hXa hXl hD
        refine wpList_store_dfa (B := X) (D := D) ?gA22 (.tmp 10) (.tmp 42) ?gB22 ?gC22 ?gD22 HXA.out zc_size HSZ.out HON.out ?gE22
        case gA22 => rfl
        case gB22 => rfl
        case gC22 => rfl
        case gD22 => rfl
        simp only [Act.put]
        go_wp2_with fail
        go_meet
        exact ⟨X, D, rfl, rfl, ⟨HXR.out, HRX.out.is⟩, HBX.out, HXL.out⟩
  case rest =>
    obtain ⟨by_, E, rfl, rfl, hE, hb, hl⟩ := hcut
    have HYY := Lib.hid hE
    have HBc := Lib.hid (HB4.out.trans (hb.mono HNW.out))
    have HXc := Lib.hid (HXX.out.below hb); have HDc := Lib.hid (HXD.out.below hb)
    have HOM1 := Lib.hid (show Ok M1 by rw [HM1.out]; exact named_ok HOK.out (norm_names HOK.out) (norm_all HOK.out))
    have HNM1 := Lib.hid (show nameV M1 bs = N by rw [HM1.out, HNV.out]; exact named_name HOK.out (norm_names HOK.out) (norm_all HOK.out) HBL.out)
    have HAI := Lib.hid (show AllIn m R by rw [HRU.out]; exact more_all HOK.out txO)
    have HVB := Lib.hid (fun W (hb : Below n w W) => show BS W.heap.size W (.slice va L vc) bs from (HV.out.below hb).up (Nat.le_trans HN.out hb.size))
    have HNc := Lib.hid (show n ≤ wc.heap.size from Nat.le_trans HN.out HBc.out.size)
    clear hE hb hl HXX HXD HX4 HKR HB4 H1 HTO hfl hfz
    go_upto_region 6 with fail
    go_cut [78] from 44 to 79 (fun t wx => t = .bool false ∧ Below wc.heap.size wc wx)
    case first =>
      have t1 : (N.toList != N.toList) = false := by simp [bne]
      have ha1 : ∀ (W : World), Bx W bx D M1 → Calls Try.prog 22 #[.agg D] W fun e w' => e = .returned (.bool true) ∧ Below W.heap.size W w' := fun W hW => (RightD_any W hW.is).mono fun e w' ⟨hs, hb⟩ => ⟨hs.bool (by simp [HOM1.out]), hb⟩
      have HA1 := Lib.hid ha1
      clear ha1
      by_cases hk0 : k2 = 0
      · have hno : NamesOk R := Classical.byContradiction fun hn => by
          have := (names_arg HOK.out hn).1
          rw [← hk2.out, hk0] at this; cases this
        have hyes := (names_yes HOK.out hno HAI.out).2
        rw [← hM2.out] at hyes
        have HNM2 := Lib.hid (show nameV M2 bs = N by rw [hyes, HNV.out]; exact named_name HOK.out hno HAI.out HBL.out)
        have t2 : (k2 != 0) = false := by rw [hk0]; rfl
        have t3 : (k2 == 0) = true := by rw [hk0]; rfl
        clear hk0 hno hyes
        go_wp2_with (refine wpList_load_dfa_g rfl (.tmp 8) rfl rfl HXc.out ?_)
        refine (HA1.out wc HXc.out).mono ?_
        rintro e w5 ⟨rfl, hb⟩
        have HX5 := Lib.hid (HXc.out.below hb); have HY5 := Lib.hid (HYY.out.below hb); have HB5 := Lib.hid hb
        clear hb
        go_wp2_with (refine wpList_load_dfa_g rfl (.tmp 8) rfl rfl HX5.out ?_)
        refine (Name_any' _ HX5.out.is (HVB.out w5 (HBc.out.trans (HB5.out.mono HNc.out)))).mono ?_
        rintro e w6 ⟨rfl, hb⟩
        rw [HNM1.out]
        have HY6 := Lib.hid (HY5.out.below hb); have HB6 := Lib.hid (HB5.out.trans (hb.mono HB5.out.size))
        clear hb
        go_wp2_with (refine wpList_load_dfa_g rfl (.tmp 10) rfl rfl HY6.out ?_)
        refine (Name_any' _ HY6.out.is (HVB.out w6 (HBc.out.trans (HB6.out.mono HNc.out)))).mono ?_
        rintro e w7 ⟨rfl, hb⟩
        rw [HNM2.out]
        have HB7 := Lib.hid (HB6.out.trans (hb.mono HB6.out.size))
        clear hb
        go_wp2_with fail
        go_meet
        exact ⟨rfl, HB7.out⟩
      · have h64 : (usedV m).length = 64 := by
          have h1 := used_small m
          rcases Nat.lt_or_ge (usedV m).length 64 with h | h
          · exfalso
            have := (names_yes HOK.out (l := R) (by rw [HRU.out]; exact more_names HOK.out txO_ok h) HAI.out).1
            rw [← hk2.out] at this
            exact hk0 this
          · omega
        have H64 := Lib.hid h64
        have t2 : (k2 != 0) = true := by simpa using hk0
        have t3 : (k2 == 0) = false := by simpa using hk0
        clear hk0 h64
        go_wp2_with (refine wpList_load_dfa_g rfl (.tmp 3) rfl rfl HDc.out ?_)
        refine (HU wc HDc.out.is).mono ?_
        rintro e w5 ⟨u, rfl, hu, hb⟩
        obtain ⟨au, cu, hf, _⟩ := TS.open hu.is
        rw [H64.out] at hf
        subst hf
        have HX5 := Lib.hid (HXc.out.below hb); have HB5 := Lib.hid hb
        clear hb hu
        go_wp2_with (refine wpList_load_dfa_g rfl (.tmp 8) rfl rfl HX5.out ?_)
        refine (HA1.out w5 HX5.out).mono ?_
        rintro e w6 ⟨rfl, hb⟩
        have HX6 := Lib.hid (HX5.out.below hb); have HB6 := Lib.hid (HB5.out.trans (hb.mono HB5.out.size))
        clear hb
        go_wp2_with (refine wpList_load_dfa_g rfl (.tmp 8) rfl rfl HX6.out ?_)
        refine (Name_any' _ HX6.out.is (HVB.out w6 (HBc.out.trans (HB6.out.mono HNc.out)))).mono ?_
        rintro e w7 ⟨rfl, hb⟩
        rw [HNM1.out]
        have HB7 := Lib.hid (HB6.out.trans (hb.mono HB6.out.size))
        clear hb
        go_wp2_with fail
        go_meet
        exact ⟨rfl, HB7.out⟩
    case rest =>
      obtain ⟨rfl, hb⟩ := hcut
      have HB8 := Lib.hid (HBc.out.trans (hb.mono HNc.out)); have HD8 := Lib.hid (HDc.out.below hb)
      have HN8 := Lib.hid (show n ≤ wc.heap.size from Nat.le_trans HNc.out hb.size)
      clear hb HBc HDc HXc HYY HNc HOM1 HNM1 HAI
      go_wp2_with (refine wpList_load_dfa rfl (.tmp 3) rfl rfl HD8.out ?_)
      refine (HON wc (HM.out.rxb HN.out HB8.out) s HSS.out (fun k hk => hk.2)).mono ?_
      rintro e w3 ⟨E3, he, hE, hb1⟩
      obtain ⟨g, hg⟩ : ∃ g, g = onlyE m s := ⟨_, rfl⟩
      rw [← hg] at he
      have HG := Lib.hid hg
      subst he
      obtain ⟨M3, hM3⟩ : ∃ M, M = onlyM m s := ⟨_, rfl⟩
      rw [← hM3] at hE
      have HM3 := Lib.hid hM3
      have HES := Lib.hid hE.is.size; have HEO := Lib.hid hE.is.one
      have hbz := ist_below w3 E3
      have hb3 := hb1.trans (hbz.mono hb1.size)
      have HZ9 := Lib.hid (show Bx ((w3.alloc (.cells Try.zeroCells27 27)).setRow w3.heap.size E3) w3.heap.size E3 M3 from bx_store hE.is)
      have HD9 := Lib.hid (HD8.out.below hb3)
      have HB9 := Lib.hid (HB8.out.trans (hb3.mono HN8.out))
      have HN9 := Lib.hid (show n ≤ ((w3.alloc (.cells Try.zeroCells27 27)).setRow w3.heap.size E3).heap.size from Nat.le_trans HN8.out hb3.size)
      clear hE hb1 hbz hb3 hM3 hg HD8 HB8 HN8
      go_upto_region 9 with (refine wpList_store_dfa rfl (.tmp 12) (.tmp 83) rfl rfl rfl (Ar.new _ _ _) HZS.out HES.out HEO.out ?_; simp only [Act.put])
      obtain ⟨bz, hbz⟩ : ∃ b, b = w3.heap.size := ⟨_, rfl⟩
      rw [← hbz] at HZ9 HD9 HB9 HN9 ⊢
      generalize ((w3.alloc (.cells Try.zeroCells27 27)).setRow bz E3) = W9 at *
      clear hbz
      go_cut [102] from 85 to 103 (fun t wx => t = .bool false ∧ Below W9.heap.size W9 wx)
      case first =>
        by_cases hg0 : g = 0
        · have hns : nameOk s = true := Classical.byContradiction fun hn => by
            have := (only_arg HOK.out hn).1
            rw [← HG.out, hg0] at this; cases this
          have hyes := (only_yes HOK.out hns).2
          rw [← HM3.out] at hyes
          have hok3 : Ok M3 := by rw [hyes]; exact onlyd_ok HOK.out hns
          have hiff : nameV M3 bs = s ↔ N = s := by rw [hyes, HNV.out]; exact only_name HOK.out hns HBL.out
          obtain ⟨P3, hP3⟩ : ∃ P, P = nameV M3 bs := ⟨_, rfl⟩
          rw [← hP3] at hiff
          have HP3 := Lib.hid hP3; have HO3 := Lib.hid hok3
          have t2 : (g == 0) = true := by rw [hg0]; rfl
          obtain ⟨q, hq1, hq2⟩ : ∃ q : Bool, (P3.toList == s.toList) = q ∧ (N.toList == s.toList) = q := by
            by_cases e : N = s
            · exact ⟨true, by rw [hiff.2 e]; exact ba_self s, by rw [e]; exact ba_self s⟩
            · exact ⟨false, ba_ne fun h => e (hiff.1 h), ba_ne e⟩
          have hq3 : (q != q) = false := by simp
          clear hg0 hns hyes hok3 hiff hP3
          go_wp2_with (refine wpList_load_dfa_g rfl (.tmp 12) rfl rfl HZ9.out ?_)
          refine (RightD_any _ HZ9.out.is).mono ?_
          rintro e w5 ⟨hs, hb⟩
          obtain rfl := hs.bool (b := true) (by simp [HO3.out])
          have HZ5 := Lib.hid (HZ9.out.below hb); have HB5 := Lib.hid hb
          clear hb hs
          go_wp2_with (refine wpList_load_dfa_g rfl (.tmp 12) rfl rfl HZ5.out ?_)
          refine (Name_any' _ HZ5.out.is (HVB.out w5 (HB9.out.trans (HB5.out.mono HN9.out)))).mono ?_
          rintro e w6 ⟨rfl, hb⟩
          rw [← HP3.out]
          have HB6 := Lib.hid (HB5.out.trans (hb.mono HB5.out.size))
          clear hb
          go_wp2_with fail
          go_meet
          exact ⟨rfl, HB6.out⟩
        · have t2 : (g == 0) = false := by simpa using hg0
          clear hg0
          go_wp2_with fail
          go_meet
          exact ⟨rfl, Below.refl _ _⟩
      case rest =>
        obtain ⟨rfl, hb⟩ := hcut
        have HB8 := Lib.hid (HB9.out.trans (hb.mono HN9.out)); have HD8 := Lib.hid (HD9.out.below hb)
        have HN8 := Lib.hid (show n ≤ wc.heap.size from Nat.le_trans HN9.out hb.size)
        clear hb HB9 HD9 HN9 HZ9 HES HEO HG HM3
        go_wp2_with (refine wpList_load_dfa rfl (.tmp 3) rfl rfl HD8.out ?_)
        refine (HPL wc (HM.out.rxb HN.out HB8.out) (fun k hk => hk.2)).mono ?_
        rintro e w3 ⟨E4, he, hE, hb1⟩
        obtain ⟨g, hg⟩ : ∃ g, g = plusE m := ⟨_, rfl⟩
        rw [← hg] at he
        have HG := Lib.hid hg
        subst he
        obtain ⟨M4, hM4⟩ : ∃ M, M = plusM m := ⟨_, rfl⟩
        rw [← hM4] at hE
        have HM4 := Lib.hid hM4
        have HES := Lib.hid hE.is.size; have HEO := Lib.hid hE.is.one
        have hbz := ist_below w3 E4
        have hb3 := hb1.trans (hbz.mono hb1.size)
        have HZ9 := Lib.hid (show Bx ((w3.alloc (.cells Try.zeroCells27 27)).setRow w3.heap.size E4) w3.heap.size E4 M4 from bx_store hE.is)
        have HB9 := Lib.hid (HB8.out.trans (hb3.mono HN8.out))
        have HN9 := Lib.hid (show n ≤ ((w3.alloc (.cells Try.zeroCells27 27)).setRow w3.heap.size E4).heap.size from Nat.le_trans HN8.out hb3.size)
        clear hE hb1 hbz hb3 hM4 hg HD8 HB8 HN8
        by_cases hg0 : g = 0
        case neg =>
          have hg7 : g = 7 := (plusE_of HOK.out).elim (fun h => absurd (HG.out.trans h) hg0) fun h => HG.out.trans h
          have t2 : (g != 0) = true := by simpa using hg0
          have t3 : (g == 7) = true := by rw [hg7]; rfl
          clear hg0 hg7
          go_wp2_with (refine wpList_store_dfa rfl (.tmp 14) (.tmp 106) rfl rfl rfl (Ar.new _ _ _) HZS.out HES.out HEO.out ?_; simp only [Act.put])
          generalize ((w3.alloc (.cells Try.zeroCells27 27)).setRow w3.heap.size E4) = W9 at *
          refine (HKN W9).mono ?_
          rintro e w6 ⟨rfl, hb6⟩
          have HB6 := Lib.hid (HB9.out.trans (hb6.mono HN9.out))
          clear hb6
          go_wp2_with fail
          go_ret
          exact ⟨rfl, by rw [← HNE.out]; exact HB6.out⟩
        have t2 : (g != 0) = false := by rw [hg0]; rfl
        have hok4 : Ok M4 := by rw [HM4.out]; exact plusM_ok HOK.out (by rw [← HG.out]; exact hg0)
        have hnm4 : ∀ {bs : List Nat}, (∀ x ∈ bs, x < 256) → nameV M4 bs = if bs = [] then ByteArray.empty else nameV m bs := fun h => by rw [HM4.out]; exact plusM_name HOK.out (by rw [← HG.out]; exact hg0) h
        have HO4 := Lib.hid hok4
        have HNN := Lib.hid (show nameV M4 [] = ByteArray.empty by rw [hnm4 (fun x hx => by cases hx)]; rfl)
        have HNB := Lib.hid (hnm4 HBL.out)
        have hem : (ByteArray.empty.toList == []) = true := by decide +kernel
        have hlen : L = 0 ↔ bs = [] := by rw [HLE.out, List.length_eq_zero_iff]
        clear hg0 hok4 hnm4
        obtain ⟨N4, hN4⟩ : ∃ N, N = nameV M4 bs := ⟨_, rfl⟩
        have HN4 := Lib.hid hN4
        have t5 : (N4.toList == N4.toList) = true := ba_self N4
        by_cases hL0 : L = 0
        · have hN40 : N4 = ByteArray.empty := by rw [hN4, HNB.out, if_pos (hlen.1 hL0)]
          have t4 : ((L : Int) == 0) = true := by rw [hL0]; rfl
          have HN40 := Lib.hid hN40
          clear hL0 hN40 hN4 hlen
          go_wp2_with (first | (refine wpList_store_dfa rfl (.tmp 14) (.tmp 106) rfl rfl rfl (Ar.new _ _ _) HZS.out HES.out HEO.out ?_; simp only [Act.put]) | (refine wpList_load_dfa_g rfl (.tmp 14) rfl rfl HZ9.out ?_) | (refine wpList_load_dfa rfl (.tmp 14) rfl rfl HZ9.out ?_))
          generalize hbz : w3.heap.size = bz at *
          generalize ((w3.alloc (.cells Try.zeroCells27 27)).setRow bz E4) = W9 at *
          refine (RightD_any _ HZ9.out.is).mono ?_
          rintro e w5 ⟨hs, hb⟩
          obtain rfl := hs.bool (b := true) (by simp [HO4.out])
          have HZ5 := Lib.hid (HZ9.out.below hb); have HB5 := Lib.hid (HB9.out.trans (hb.mono HN9.out))
          have HN5 := Lib.hid (show n ≤ w5.heap.size from Nat.le_trans HN9.out hb.size)
          clear hb hs hbz
          go_wp2_with (refine wpList_load_dfa_g rfl (.tmp 14) rfl rfl HZ5.out ?_)
          refine (Name_any' _ HZ5.out.is (HVB.out w5 HB5.out)).mono ?_
          rintro e w6 ⟨rfl, hb⟩
          rw [← HN4.out, HN40.out]
          rw [HN40.out] at t5
          have HZ6 := Lib.hid (HZ5.out.below hb); have HB6 := Lib.hid (HB5.out.trans (hb.mono HN5.out))
          have HN6 := Lib.hid (show n ≤ w6.heap.size from Nat.le_trans HN5.out hb.size)
          clear hb
          go_wp2_with (refine wpList_load_dfa_g rfl (.tmp 14) rfl rfl HZ6.out ?_)
          refine (Name_any' (l := []) _ HZ6.out.is (bs_nil _)).mono ?_
          rintro e w7 ⟨rfl, hb⟩
          rw [HNN.out]
          have HB7 := Lib.hid (HB6.out.trans (hb.mono HN6.out))
          have HN7 := Lib.hid (show n ≤ w7.heap.size from Nat.le_trans HN6.out hb.size)
          clear hb
          go_wp2_with fail
          refine (HKN w7).mono ?_
          rintro e w8 ⟨rfl, hb⟩
          have HB8 := Lib.hid (HB7.out.trans (hb.mono HN7.out))
          clear hb
          go_wp2_with fail
          go_ret
          exact ⟨rfl, by rw [← HNE.out]; exact HB8.out⟩
        · have hN40 : N4 = N := by rw [hN4, HNB.out, if_neg (fun h => hL0 (hlen.2 h)), HNV.out]
          have t4 : ((L : Int) == 0) = false := by simp <;> omega
          have HN40 := Lib.hid hN40
          clear hL0 hN40 hN4 hlen
          go_wp2_with (first | (refine wpList_store_dfa rfl (.tmp 14) (.tmp 106) rfl rfl rfl (Ar.new _ _ _) HZS.out HES.out HEO.out ?_; simp only [Act.put]) | (refine wpList_load_dfa_g rfl (.tmp 14) rfl rfl HZ9.out ?_) | (refine wpList_load_dfa rfl (.tmp 14) rfl rfl HZ9.out ?_))
          generalize hbz : w3.heap.size = bz at *
          generalize ((w3.alloc (.cells Try.zeroCells27 27)).setRow bz E4) = W9 at *
          refine (RightD_any _ HZ9.out.is).mono ?_
          rintro e w5 ⟨hs, hb⟩
          obtain rfl := hs.bool (b := true) (by simp [HO4.out])
          have HZ5 := Lib.hid (HZ9.out.below hb); have HB5 := Lib.hid (HB9.out.trans (hb.mono HN9.out))
          have HN5 := Lib.hid (show n ≤ w5.heap.size from Nat.le_trans HN9.out hb.size)
          clear hb hs hbz
          go_wp2_with (refine wpList_load_dfa_g rfl (.tmp 14) rfl rfl HZ5.out ?_)
          refine (Name_any' _ HZ5.out.is (HVB.out w5 HB5.out)).mono ?_
          rintro e w6 ⟨rfl, hb⟩
          rw [← HN4.out, HN40.out]
          rw [HN40.out] at t5
          have HZ6 := Lib.hid (HZ5.out.below hb); have HB6 := Lib.hid (HB5.out.trans (hb.mono HN5.out))
          have HN6 := Lib.hid (show n ≤ w6.heap.size from Nat.le_trans HN5.out hb.size)
          clear hb
          go_wp2_with (refine wpList_load_dfa_g rfl (.tmp 14) rfl rfl HZ6.out ?_)
          refine (Name_any' (l := []) _ HZ6.out.is (bs_nil _)).mono ?_
          rintro e w7 ⟨rfl, hb⟩
          rw [HNN.out]
          have HB7 := Lib.hid (HB6.out.trans (hb.mono HN6.out))
          have HN7 := Lib.hid (show n ≤ w7.heap.size from Nat.le_trans HN6.out hb.size)
          clear hb
          go_wp2_with fail
          refine (HKN w7).mono ?_
          rintro e w8 ⟨rfl, hb⟩
          have HB8 := Lib.hid (HB7.out.trans (hb.mono HN7.out))
          clear hb
          go_wp2_with fail
          go_ret
          exact ⟨rfl, by rw [← HNE.out]; exact HB8.out⟩
end Go.Proofs.Ytlfmkiendaecaaa.DfaW
