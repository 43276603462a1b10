/- Walks of Norm and Only. -/
import Derived.Test.YtlfmkiendaecaaaNamesL
namespace Go.Proofs.Ytlfmkiendaecaaa.DfaW
set_option linter.unusedVariables false
set_option linter.unusedSimpArgs false
open Go.Proofs.Ytlfmkiendaecaaa.RegionU (Up wpU_taken wpU_one wpU_mono wpU_done wp_region_U does wpS_taken wpS_takenY wpS_one wpS_two wpS_done wpS_have wp_region_S)
open Go.RowKit Go.Maps Go.Proofs.Ytlfmkiendaecaaa.PartM Go.Proofs.Ytlfmkiendaecaaa.PartW Go.Proofs.Ytlfmkiendaecaaa.TxM
def RT (b : Nat) (l : List ByteArray) (u : Value) (W : World) : Prop := RxT (fun k => k < b) W u l
theorem RT.up (b : Nat) (l : List ByteArray) (u : Value) : Up (RT b l u) := fun W W' h hr => RxT.next h hr
set_option maxRecDepth 100000 in
set_option maxHeartbeats 4000000 in
theorem labNorm_any : NormC 16 := fun {C m X} w hm hX => by
  have hx := (Bx.new hm.is).alloc (.cells Try.zeroCells27 27)
  have hz : Ar ((w.alloc (.cells C 27)).alloc (.cells Try.zeroCells27 27)) (w.heap.size + 1) Try.zeroCells27 27 := by
    have := Ar.new (w.alloc (.cells C 27)) Try.zeroCells27 27
    rw [World.size_alloc] at this; exact this
  have hb0 : Below w.heap.size w ((w.alloc (.cells C 27)).alloc (.cells Try.zeroCells27 27)) := ((Below.refl _ _).alloc (Nat.le_refl _) _).alloc (by simp) _
  have hs0 : ((w.alloc (.cells C 27)).alloc (.cells Try.zeroCells27 27)).heap.size = w.heap.size + 2 := by simp
  have hr0 := (hm.free hb0).mono (Y := fun k => X k ∨ k = w.heap.size + 1) fun k hk => hk.elim .inl fun h => .inr (by omega)
  have HX := Lib.hid hx.ar; have HZ := Lib.hid hz; have HB0 := Lib.hid hb0; have HS0 := Lib.hid hs0; have HR0 := Lib.hid hr0; have HXX := Lib.hid hX
  have HZS := Lib.hid zc_size
  obtain ⟨R, hR⟩ : ∃ R, R = usedV m := ⟨_, rfl⟩
  have HRZ := Lib.hid (show Szs R by rw [hR]; exact used_szs m)
  have H1 := Lib.hid (fun W (h : IsM W.heap.size W C m) => by have := labUsed_any W h; rw [← hR] at this; exact this)
  have H2 := Lib.hid (fun W (X : Nat → Prop) (u : Value) (h : Rx X W C m) (hu : RxT X W u R) (hX : ∀ k, X k → k < W.heap.size) => labNames_any W h hu hX)
  rw [← hR]
  obtain ⟨k, hk⟩ : ∃ k, k = namesE m R := ⟨_, rfl⟩
  obtain ⟨j, hj⟩ : ∃ j, j = namesM m R := ⟨_, rfl⟩
  rw [← hk, ← hj] at H2 ⊢
  clear hx hz hb0 hs0 hr0 hX hm hR hk hj
  go_enter Try.func16, Try.ntmps16
  go_wp2_with fail
  obtain ⟨B, hB⟩ : ∃ B, B = w.heap.size := ⟨_, rfl⟩
  have HBB := Lib.hid hB
  generalize (w.alloc (.cells C 27)).alloc (.cells Try.zeroCells27 27) = W0 at *
  rw [← hB] at HX HZ HS0 HR0 ⊢
  have HYY := Lib.hid (show ∀ k, (X k ∨ k = B + 1) → k < W0.heap.size from fun k hk => by
    rw [HS0.out]
    rcases hk with h | h
    · have := HXX.out k h; omega
    · omega)
  clear hB
  have HD := Lib.hid (show KR (fun k => X k ∨ k = B + 1) W0 B C m W0.drew from ⟨HX.out.below (Below.refl _ _).drew, HR0.out.next (Below.refl _ _).drew, (Below.refl _ _).drew⟩)
  refine wp_region_S 6 2 (by kernel_rfl) (by kernel_rfl) (KR.up _ W0 B C m) HD.out ?_
  refine wpS_taken (i := 0) rfl (by kernel_rfl) (by kernel_rfl) (by kernel_rfl) (by kernel_rfl) (KR.up _ W0 B C m) ?_
  apply Exists.intro
  refine ⟨Or.inl ⟨rfl, fun W hW => ?hy⟩, ?_⟩
  case hy => exact does_eq (run_load_dfa (.tmp 1) rfl rfl hW.bx)
  simp only [Act.put, List.setIfInBounds_toArray, List.set]
  refine wpS_taken (i := 1) rfl (by kernel_rfl) (by kernel_rfl) (by kernel_rfl) (by kernel_rfl) (KR.up _ W0 B C m) ?_
  apply Exists.intro
  refine ⟨Or.inl ⟨rfl, fun W hW => ?hy⟩, ?_⟩
  case hy => exact does_eq (run_load_dfa (.tmp 1) rfl rfl hW.bx)
  simp only [Act.put, List.setIfInBounds_toArray, List.set]
  refine wpS_one (i := 2) (by kernel_rfl) (by kernel_rfl) rfl rfl (RT W0.heap.size R) (RT.up _ _) (fun W hW => ?hy) ?_
  case hy =>
    go_simp
    exact does_in ((H1.out W hW.bx.is).mono fun e w' ⟨v, h, ho, hb⟩ => ⟨v, h, ho.mono (fun k hk => Nat.lt_of_lt_of_le hk hW.2.2.size), hb⟩)
  intro u2
  simp only [Act.put, List.setIfInBounds_toArray, List.set]
  refine wpS_one (i := 3) (by kernel_rfl) (by kernel_rfl) rfl rfl (MT (fun k => X k ∨ k = B + 1) j k) (MT.up _ _ _) (fun W hW => ?hy) ?_
  case hy =>
    obtain ⟨hK, h1⟩ := hW
    go_simp
    exact does_in ((H2.out W _ _ hK.2.1 (RxT.mono h1 HYY.out) (fun k hk => Nat.lt_of_lt_of_le (HYY.out k hk) hK.2.2.size)).mono fun e w' ⟨D, h, hd, hb⟩ => ⟨_, h, ⟨D, rfl, hd⟩, hb⟩)
  intro u3
  simp only [Act.put, List.setIfInBounds_toArray, List.set]
  refine wpS_have (p := ∃ D, u3 = .tuple #[.agg D, .int .i64 k]) (fun W hW => ?_) ?_
  · obtain ⟨D, h, _⟩ := hW.2; exact ⟨D, h⟩
  rintro ⟨D, rfl⟩
  refine wpS_taken (i := 4) rfl (by kernel_rfl) (by kernel_rfl) (by kernel_rfl) (by kernel_rfl) (((KR.up _ W0 B C m).and (RT.up _ _ u2)).and (MT.up _ _ _ (Value.tuple #[.agg D, .int .i64 k]))) ?_
  apply Exists.intro
  refine ⟨Or.inl ⟨rfl, fun W hW => ?hy⟩, ?_⟩
  case hy =>
    go_simp
    exact RegionU.does_value rfl
  simp only [Act.put, List.setIfInBounds_toArray, List.set]
  refine wpS_taken (i := 5) rfl (by kernel_rfl) (by kernel_rfl) (by kernel_rfl) (by kernel_rfl) (((KR.up _ W0 B C m).and (RT.up _ _ u2)).and (MT.up _ _ _ (Value.tuple #[.agg D, .int .i64 k]))) ?_
  apply Exists.intro
  refine ⟨Or.inl ⟨rfl, fun W hW => ?hy⟩, ?_⟩
  case hy =>
    go_simp
    exact RegionU.does_value rfl
  simp only [Act.put, List.setIfInBounds_toArray, List.set]
  refine wpS_done rfl (by kernel_rfl) (by kernel_rfl) ?_
  intro W hW
  obtain ⟨⟨hK, h1⟩, D2, hD2, hD⟩ := hW
  have hD2 : D = D2 := by simpa using hD2
  subst hD2
  have HZW := Lib.hid (HZ.out.below hK.2.2)
  have HSZ := Lib.hid hD.is.size; have HON := Lib.hid hD.is.one
  have HBW := Lib.hid (below_row (HB0.out.trans (hK.2.2.mono HB0.out.size)) (show w.heap.size ≤ B + 1 by rw [HBB.out]; omega) D)
  have HRES := Lib.hid ((hD.row (.inr rfl) D).mono (Y := X) fun k hk => .inl hk)
  clear hK h1 hD
  refine wpList_store_dfa (B := B + 1) (D := D) ?gA (.tmp 2) (.tmp 8) ?gB ?gC ?gD HZW.out zc_size HSZ.out HON.out ?gE
  case gA => rfl
  case gB => rfl
  case gC => rfl
  case gD => rfl
  simp only [Act.put]
  go_wp2_with fail
  exact bodyPost_ret (res_kept rfl rfl rfl (Ar.row HZW.out _) HSZ.out) rfl ⟨_, rfl, HRES.out, HBW.out⟩
set_option maxRecDepth 100000 in
set_option maxHeartbeats 8000000 in
theorem labOnly_any : OnlyC 18 := fun {C m X} w hm s hs1 hX => by
  have hx := (Bx.new hm.is).alloc (.cells Try.zeroCells27 27)
  have hz : Ar ((w.alloc (.cells C 27)).alloc (.cells Try.zeroCells27 27)) (w.heap.size + 1) Try.zeroCells27 27 := by
    have := Ar.new (w.alloc (.cells C 27)) Try.zeroCells27 27
    rw [World.size_alloc] at this; exact this
  have hb0 : Below w.heap.size w ((w.alloc (.cells C 27)).alloc (.cells Try.zeroCells27 27)) := ((Below.refl _ _).alloc (Nat.le_refl _) _).alloc (by simp) _
  have hs0 : ((w.alloc (.cells C 27)).alloc (.cells Try.zeroCells27 27)).heap.size = w.heap.size + 2 := by simp
  have HSS := Lib.hid hs1
  have HSZ := Lib.hid (show Szs [s] from fun x hx => by rw [List.mem_singleton.1 hx]; exact hs1)
  have HA := Lib.hid hm.is.isA; have HAF := Lib.hid hm.is.oflt
  have HZO := Lib.hid (IsM.one (zero_is w)); have HZS := Lib.hid zc_size
  have HXX := Lib.hid hX; have HM := Lib.hid hm
  have HX := Lib.hid hx; have HZ := Lib.hid hz; have HB0 := Lib.hid hb0; have HS0 := Lib.hid hs0
  clear hm hX hx hz hb0 hs0 hs1
  go_enter Try.func18, Try.ntmps18
  go_wp2_with (refine wpList_load_dfa rfl (.tmp 2) rfl rfl HX.out ?_)
  refine (RightD_any _ HX.out.is).mono ?_
  rintro e w1 ⟨hs, hb1⟩
  have HX1 := Lib.hid (HX.out.below hb1); have HZ1 := Lib.hid (HZ.out.below hb1)
  have HB1 := Lib.hid (HB0.out.trans (hb1.mono HB0.out.size))
  have HS1 := Lib.hid (show w.heap.size + 2 ≤ w1.heap.size by have := hb1.size; rw [HS0.out] at this; exact this)
  clear hb1 HX HZ HB0 HS0
  rcases hs.elim with ⟨rfl, hk⟩ | ⟨rfl, hk⟩
  case inr =>
    have HE := Lib.hid (only_no (s := s) hk)
    clear hs hk
    go_wp2_with (refine wpList_store_dfa rfl (.tmp 4) (.tmp 9) rfl rfl rfl HZ1.out HZS.out HZS.out HZO.out ?_; simp only [Act.put])
    refine bodyPost_ret (res_kept rfl rfl rfl (HZ1.out.row _) HZS.out) rfl ⟨_, by rw [HE.out.1]; rfl, by rw [HE.out.2]; exact zero_rx _ _, below_row HB1.out (by omega) _⟩
  have HOK := Lib.hid hk
  have HN1 := Lib.hid (Name_any s HSS.out w1)
  clear hs hk
  go_wp2_with fail
  refine HN1.out.mono ?_
  rintro e w2 ⟨rfl, rfl⟩
  cases hok : nameOk s with
  | false =>
    have HE := Lib.hid (only_arg HOK.out (by rw [hok]; simp))
    clear hok
    go_wp2_with (refine wpList_store_dfa rfl (.tmp 4) (.tmp 13) rfl rfl rfl HZ1.out HZS.out HZS.out HZO.out ?_; simp only [Act.put])
    refine bodyPost_ret (res_kept rfl rfl rfl (HZ1.out.row _) HZS.out) rfl ⟨_, by rw [HE.out.1]; rfl, by rw [HE.out.2]; exact zero_rx _ _, below_row HB1.out (by omega) _⟩
  | true =>
    have HE := Lib.hid (only_yes HOK.out hok)
    have HPL := Lib.hid (plF_only m s)
    have hts : TS (w1.alloc (.cells #[.string s] 9)).heap.size (w1.alloc (.cells #[.string s] 9)) (.slice (some ⟨w1.heap.size, 0, none⟩) 1 1) [s] := (OS.one w1 s).is HSZ.out
    have hna := named_any (w1.alloc (.cells #[.string s] 9)) (HX1.out.alloc _).is HOK.out hts (by simp)
    have HNA := Lib.hid hna
    have HBA := Lib.hid (HB1.out.alloc HB1.out.size (.cells #[.string s] 9))
    have HZA := Lib.hid (HZ1.out.alloc (.cells #[.string s] 9))
    clear hok hna hts HN1
    go_wp2_with (refine wpList_load_dfa rfl (.tmp 2) rfl rfl HX1.out ?_)
    refine HNA.out.mono ?_
    rintro e w5 ⟨v1, v2, u, rfl, hown, hb5⟩
    have hz5 := HZA.out.below hb5
    have his := hown.is HA.out HAF.out HSZ.out m.wd
    have hrx := hown.rx (X := fun k => X k ∨ k = w.heap.size + 1) HA.out HAF.out HSZ.out (fun k hk => by
      have := HS1.out
      rw [World.size_alloc]
      rcases hk with hk | hk
      · have := HXX.out k hk; omega
      · omega) m.wd
    rw [HPL.out] at hrx
    have HDS := Lib.hid his.size; have HDO := Lib.hid his.one
    have HRX := Lib.hid hrx; have HZ5 := Lib.hid hz5
    have HB5 := Lib.hid (HBA.out.trans (hb5.mono HBA.out.size))
    clear hown hb5 hz5 his hrx HNA
    go_wp2_with (refine wpList_store_dfa rfl (.tmp 4) (.tmp 17) rfl rfl rfl HZ5.out HZS.out HDS.out HDO.out ?_; simp only [Act.put])
    refine bodyPost_ret (res_kept rfl rfl rfl (HZ5.out.row _) HDS.out) rfl ⟨_, by rw [HE.out.1]; rfl, ?_, below_row HB5.out (by omega) _⟩
    rw [HE.out.2]
    exact (HRX.out.row (.inr rfl) _).mono fun k hk => .inl hk
end Go.Proofs.Ytlfmkiendaecaaa.DfaW
