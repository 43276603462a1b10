/- Walk of LabelNames. -/
import Derived.Test.YtlfmkiendaecaaaLabelPlus
namespace Go.Proofs.Ytlfmkiendaecaaa.DfaW
set_option linter.unusedVariables false
set_option linter.unusedSimpArgs false
open Go.RowKit Go.Maps Go.Proofs.Ytlfmkiendaecaaa.PartM Go.Proofs.Ytlfmkiendaecaaa.PartW Go.Proofs.Ytlfmkiendaecaaa.TxM
/-- The box of what was handed in. -/
theorem IsM.box_at {n : Nat} {w W : World} {C : Array Value} {m : Mc} (h : IsM n w C m) (hn : n ≤ w.heap.size) (hb : Below n w W) (ha : Ar W n C 27) : Bx W n C m := ⟨ha, (h.below hb).up (Nat.le_trans hn hb.size)⟩
theorem Ar.other {w : World} {b c : Nat} {D E : Array Value} {t : TypeId} (h : Ar w b D t) (hn : b ≠ c) : Ar (w.setRow c E) b D t := (heap_row _ _ _ hn).trans h
set_option maxRecDepth 100000 in
set_option maxHeartbeats 8000000 in
theorem LabelNames_any (HNA : NamesC 13) (HNO : NormC 16) (HON : OnlyC 18) (HKN : KnowsC) {C : Array Value} {m : Mc} {v : Value} {l : List ByteArray} (w : World) (h : IsM w.heap.size w C m) (hv : TS w.heap.size w v l) (s : ByteArray) (hs : s.size ≤ 9223372036854775807) :
    Calls Try.prog 4 #[.agg C, v, .string s] w fun e w' => e = .returned (.bool true) ∧ Below w.heap.size w w' := by
  have HZS := Lib.hid zc_size
  have HSS := Lib.hid hs
  have HM := Lib.hid h; have HV := Lib.hid hv; have HX0 := Lib.hid (Bx.new h)
  obtain ⟨va, vc, rfl, _, _, _⟩ := hv.open
  obtain ⟨L, hL⟩ : ∃ L, L = l.length := ⟨_, rfl⟩
  rw [← hL] at HV ⊢
  have HB0 := Lib.hid (show Below w.heap.size w (w.alloc (.cells C 27)) from (Below.refl _ _).alloc (Nat.le_refl _) _)
  have HSN := Lib.hid (show w.heap.size < (w.alloc (.cells C 27)).heap.size by simp)
  clear h hv hs hL
  go_enter Try.func4, Try.ntmps4
  go_wp2_with (refine wpList_load_dfa rfl (.tmp 3) rfl rfl HX0.out ?_)
  refine (HNA _ (HM.out.rxb (Nat.le_refl _) HB0.out) (HV.out.rxb (Nat.le_refl _) HB0.out) (fun k hk => hk.2)).mono ?_
  obtain ⟨n, hn⟩ : ∃ n, n = w.heap.size := ⟨_, rfl⟩
  have HN := Lib.hid (show n ≤ w.heap.size from Nat.le_of_eq hn); have HNE := Lib.hid hn
  rw [← hn] at HM HV HX0 HB0 HSN ⊢
  generalize (w.alloc (.cells C 27)) = W0 at *
  clear hn
  rintro e w1 ⟨D, rfl, hD, hb1⟩
  have HF := Lib.hid hD.fresh
  have HDS := Lib.hid hD.is.size; have HDO := Lib.hid hD.is.one
  have hb2 : Below w1.heap.size w1 ((w1.alloc (.cells Try.zeroCells27 27)).setRow w1.heap.size D) := below_row ((Below.refl _ _).alloc (Nat.le_refl _) _) (Nat.le_refl _) _
  have HX2 := Lib.hid ((HX0.out.below hb1).below hb2)
  have HB2 := Lib.hid (HB0.out.trans ((hb1.trans (hb2.mono hb1.size)).mono (Nat.le_of_lt HSN.out)))
  have HS1 := Lib.hid (show n < w1.heap.size from Nat.lt_of_lt_of_le HSN.out hb1.size)
  clear hD hb1 hb2 HX0 HB0
  go_wp2_with (first | (refine wpList_store_dfa rfl (.tmp 7) (.tmp 15) rfl rfl rfl (Ar.new _ _ _) HZS.out HDS.out HDO.out ?_; simp only [Act.put]) | (refine wpList_load_dfa rfl (.tmp 3) rfl rfl HX2.out ?_))
  obtain ⟨ba, hba⟩ : ∃ b, b = w1.heap.size := ⟨_, rfl⟩
  rw [← hba] at HF HX2 HB2 HS1 ⊢
  generalize ((w1.alloc (.cells Try.zeroCells27 27)).setRow ba D) = W2 at *
  clear hba
  refine (refNamesC W2 (HM.out.rxb HN.out HB2.out) (HV.out.rxb HN.out HB2.out) (fun k hk => hk.2)).mono ?_
  rintro e w3 ⟨E, rfl, hE, hb1⟩
  have HES := Lib.hid hE.is.size; have HEO := Lib.hid hE.is.one
  have hb2 : Below w3.heap.size w3 ((w3.alloc (.cells Try.zeroCells27 27)).setRow w3.heap.size E) := below_row ((Below.refl _ _).alloc (Nat.le_refl _) _) (Nat.le_refl _) _
  have hb3 := hb1.trans (hb2.mono hb1.size)
  have HD := Lib.hid (show Bx ((w3.alloc (.cells Try.zeroCells27 27)).setRow w3.heap.size E) ba D (namesM m l) from ⟨HF.out.1.below hb3, (HF.out.2.next hb3).is⟩)
  have HE := Lib.hid (show Bx ((w3.alloc (.cells Try.zeroCells27 27)).setRow w3.heap.size E) w3.heap.size E (namesM m l) from ⟨hE.fresh.1, hE.fresh.2.is⟩)
  have HX := Lib.hid (HX2.out.below hb3)
  have HB := Lib.hid (HB2.out.trans (hb3.mono (Nat.le_of_lt (Nat.lt_of_lt_of_le HS1.out (Nat.le_of_lt HF.out.1.lt)))))
  have HAB := Lib.hid (show n < ba ∧ ba < w3.heap.size from ⟨HS1.out, Nat.lt_of_lt_of_le HF.out.1.lt hb1.size⟩)
  obtain ⟨k, hk⟩ : ∃ k, k = namesE m l := ⟨_, rfl⟩
  rw [← hk]
  have t0 : (k != k) = false := by simp
  clear hk hE hb1 hb2 hb3 HX2 HF HB2
  go_wp2_with (first | (refine wpList_store_dfa rfl (.tmp 9) (.tmp 21) rfl rfl rfl (Ar.new _ _ _) HZS.out HES.out HEO.out ?_; simp only [Act.put]) | (refine wpList_load_dfa_g rfl (.tmp 7) rfl rfl HD.out ?_) | (refine wpList_load_dfa_g rfl (.tmp 9) rfl rfl HE.out ?_))
  obtain ⟨bb, hbb⟩ : ∃ b, b = w3.heap.size := ⟨_, rfl⟩
  rw [← hbb] at HD HE HX HB HAB ⊢
  generalize ((w3.alloc (.cells Try.zeroCells27 27)).setRow bb E) = W4 at *
  clear hbb
  refine (refSameD_any _ HD.out.is HE.out.is).mono ?_
  rintro e wq ⟨hs, hb5⟩
  rcases hs.elim with ⟨rfl, _⟩ | ⟨_, hn⟩
  rotate_left
  · exact absurd (same_of _) hn
  have HAD := Lib.hid (show Ar wq ba D 27 from HD.out.ar.below hb5); have HAE := Lib.hid (show Ar wq bb E 27 from HE.out.ar.below hb5)
  have HXq := Lib.hid (HX.out.below hb5)
  have HBq := Lib.hid (HB.out.trans (hb5.mono (Nat.le_trans HN.out HB.out.size)))
  clear hb5 hs HD HE HX HB t0
  go_wp2_with (refine wpList_load_dfa rfl (.tmp 3) rfl rfl HXq.out ?_)
  refine (HNO wq (HM.out.rxb HN.out HBq.out) (fun k hk => hk.2)).mono ?_
  rintro e w6 ⟨D2, rfl, hD, hb1⟩
  have HD2S := Lib.hid hD.is.size; have HD2O := Lib.hid hD.is.one
  have HA6 := Lib.hid (show Ar w6 ba D 27 from HAD.out.below hb1)
  have hb2 : Below n w6 (w6.setRow ba D2) := below_row (Below.refl _ _) (Nat.le_of_lt HAB.out.1) _
  have hba : ba < wq.heap.size := HAD.out.lt
  have hbb : bb < wq.heap.size := HAE.out.lt
  have HB7 := Lib.hid (HBq.out.trans ((hb1.mono (Nat.le_trans HN.out HBq.out.size)).trans hb2))
  have HDB := Lib.hid (show Ar (w6.setRow ba D2) ba D2 27 ∧ Rx (fun k => n ≤ k ∧ k < wq.heap.size) (w6.setRow ba D2) D2 (namesM m (usedV m)) from hD.box ⟨Nat.le_of_lt HAB.out.1, hba⟩ HA6.out)
  have HBB := Lib.hid (show Ar (w6.setRow ba D2) bb E 27 ∧ bb < wq.heap.size from ⟨Ar.other (HAE.out.below hb1) (Nat.ne_of_gt HAB.out.2), hbb⟩)
  have HX7 := Lib.hid (HM.out.box_at HN.out HB7.out (Ar.other (HXq.out.ar.below hb1) (Nat.ne_of_lt HAB.out.1)))
  clear hD hb1 hb2 hba hbb HAD HAE HXq HBq
  go_wp2_with (first | (refine wpList_store_dfa rfl (.tmp 7) (.tmp 35) rfl rfl rfl HA6.out HDS.out HD2S.out HD2O.out ?_; simp only [Act.put]) | (refine wpList_load_dfa rfl (.tmp 3) rfl rfl HX7.out ?_))
  generalize (w6.setRow ba D2) = W7 at *
  refine (refNormC W7 (HM.out.rxb HN.out HB7.out) (fun k hk => hk.2)).mono ?_
  rintro e w8 ⟨E2, rfl, hE, hb1⟩
  have HE2S := Lib.hid hE.is.size; have HE2O := Lib.hid hE.is.one
  have HA8 := Lib.hid (show Ar w8 bb E 27 from HBB.out.1.below hb1)
  have hnb : n ≤ bb := Nat.le_of_lt (Nat.lt_trans HAB.out.1 HAB.out.2)
  have hb2 : Below n w8 (w8.setRow bb E2) := below_row (Below.refl _ _) hnb _
  have HB := Lib.hid (HB7.out.trans ((hb1.mono (Nat.le_trans HN.out HB7.out.size)).trans hb2))
  have HE := Lib.hid (show Bx (w8.setRow bb E2) bb E2 (namesM m (usedV m)) from ⟨HA8.out.row E2, (hE.row ⟨hnb, HBB.out.1.lt⟩ E2).is⟩)
  have HD := Lib.hid (show Bx (w8.setRow bb E2) ba D2 (namesM m (usedV m)) from ⟨Ar.other (HDB.out.1.below hb1) (Nat.ne_of_lt HAB.out.2), ((HDB.out.2.next hb1).row ⟨hnb, HBB.out.2⟩ E2).is⟩)
  have HX := Lib.hid (HM.out.box_at HN.out HB.out (Ar.other (HX7.out.ar.below hb1) (Nat.ne_of_lt (Nat.lt_trans HAB.out.1 HAB.out.2))))
  obtain ⟨k, hk⟩ : ∃ k, k = namesE m (usedV m) := ⟨_, rfl⟩
  rw [← hk]
  have t0 : (k != k) = false := by simp
  clear hk hE hb1 hb2 hnb HX7 HDB HBB HB7
  go_wp2_with (first | (refine wpList_store_dfa rfl (.tmp 9) (.tmp 40) rfl rfl rfl HA8.out HES.out HE2S.out HE2O.out ?_; simp only [Act.put]) | (refine wpList_load_dfa_g rfl (.tmp 7) rfl rfl HD.out ?_) | (refine wpList_load_dfa_g rfl (.tmp 9) rfl rfl HE.out ?_))
  clear HDS HES HDO HEO HD2O HE2O HA6 HA8
  generalize (w8.setRow bb E2) = W9 at *
  have HDS := HD2S; have HES := HE2S
  clear HD2S HE2S
  generalize D2 = D at *
  generalize E2 = E at *
  have HDO := Lib.hid HD.out.is.one; have HEO := Lib.hid HE.out.is.one
  refine (refSameD_any _ HD.out.is HE.out.is).mono ?_
  rintro e wq ⟨hs, hb5⟩
  rcases hs.elim with ⟨rfl, _⟩ | ⟨_, hn⟩
  rotate_left
  · exact absurd (same_of _) hn
  have HAD := Lib.hid (show Ar wq ba D 27 from HD.out.ar.below hb5); have HAE := Lib.hid (show Ar wq bb E 27 from HE.out.ar.below hb5)
  have HXq := Lib.hid (HX.out.below hb5)
  have HBq := Lib.hid (HB.out.trans (hb5.mono (Nat.le_trans HN.out HB.out.size)))
  clear hb5 hs HD HE HX HB t0
  go_wp2_with (refine wpList_load_dfa rfl (.tmp 3) rfl rfl HXq.out ?_)
  refine (HON wq (HM.out.rxb HN.out HBq.out) s HSS.out (fun k hk => hk.2)).mono ?_
  rintro e w6 ⟨D2, rfl, hD, hb1⟩
  have HD2S := Lib.hid hD.is.size; have HD2O := Lib.hid hD.is.one
  have HA6 := Lib.hid (show Ar w6 ba D 27 from HAD.out.below hb1)
  have hb2 : Below n w6 (w6.setRow ba D2) := below_row (Below.refl _ _) (Nat.le_of_lt HAB.out.1) _
  have hba : ba < wq.heap.size := HAD.out.lt
  have hbb : bb < wq.heap.size := HAE.out.lt
  have HB7 := Lib.hid (HBq.out.trans ((hb1.mono (Nat.le_trans HN.out HBq.out.size)).trans hb2))
  have HDB := Lib.hid (show Ar (w6.setRow ba D2) ba D2 27 ∧ Rx (fun k => n ≤ k ∧ k < wq.heap.size) (w6.setRow ba D2) D2 (onlyM m s) from hD.box ⟨Nat.le_of_lt HAB.out.1, hba⟩ HA6.out)
  have HBB := Lib.hid (show Ar (w6.setRow ba D2) bb E 27 ∧ bb < wq.heap.size from ⟨Ar.other (HAE.out.below hb1) (Nat.ne_of_gt HAB.out.2), hbb⟩)
  have HX7 := Lib.hid (HM.out.box_at HN.out HB7.out (Ar.other (HXq.out.ar.below hb1) (Nat.ne_of_lt HAB.out.1)))
  clear hD hb1 hb2 hba hbb HAD HAE HXq HBq
  go_wp2_with (first | (refine wpList_store_dfa rfl (.tmp 7) (.tmp 55) rfl rfl rfl HA6.out HDS.out HD2S.out HD2O.out ?_; simp only [Act.put]) | (refine wpList_load_dfa rfl (.tmp 3) rfl rfl HX7.out ?_))
  generalize (w6.setRow ba D2) = W7 at *
  refine (refOnlyC W7 (HM.out.rxb HN.out HB7.out) s HSS.out (fun k hk => hk.2)).mono ?_
  rintro e w8 ⟨E2, rfl, hE, hb1⟩
  have HE2S := Lib.hid hE.is.size; have HE2O := Lib.hid hE.is.one
  have HA8 := Lib.hid (show Ar w8 bb E 27 from HBB.out.1.below hb1)
  have hnb : n ≤ bb := Nat.le_of_lt (Nat.lt_trans HAB.out.1 HAB.out.2)
  have hb2 : Below n w8 (w8.setRow bb E2) := below_row (Below.refl _ _) hnb _
  have HB := Lib.hid (HB7.out.trans ((hb1.mono (Nat.le_trans HN.out HB7.out.size)).trans hb2))
  have HE := Lib.hid (show Bx (w8.setRow bb E2) bb E2 (onlyM m s) from ⟨HA8.out.row E2, (hE.row ⟨hnb, HBB.out.1.lt⟩ E2).is⟩)
  have HD := Lib.hid (show Bx (w8.setRow bb E2) ba D2 (onlyM m s) from ⟨Ar.other (HDB.out.1.below hb1) (Nat.ne_of_lt HAB.out.2), ((HDB.out.2.next hb1).row ⟨hnb, HBB.out.2⟩ E2).is⟩)
  have HX := Lib.hid (HM.out.box_at HN.out HB.out (Ar.other (HX7.out.ar.below hb1) (Nat.ne_of_lt (Nat.lt_trans HAB.out.1 HAB.out.2))))
  obtain ⟨k, hk⟩ : ∃ k, k = onlyE m s := ⟨_, rfl⟩
  rw [← hk]
  have t0 : (k == k) = true := by simp
  clear hk hE hb1 hb2 hnb HX7 HDB HBB HB7
  go_wp2_with (first | (refine wpList_store_dfa rfl (.tmp 9) (.tmp 61) rfl rfl rfl HA8.out HES.out HE2S.out HE2O.out ?_; simp only [Act.put]) | (refine wpList_load_dfa_g rfl (.tmp 7) rfl rfl HD.out ?_) | (refine wpList_load_dfa_g rfl (.tmp 9) rfl rfl HE.out ?_))
  clear HDS HES HDO HEO HD2O HE2O HA6 HA8
  generalize (w8.setRow bb E2) = W9 at *
  have HDS := HD2S; have HES := HE2S
  clear HD2S HE2S
  generalize D2 = D at *
  generalize E2 = E at *
  have HDO := Lib.hid HD.out.is.one; have HEO := Lib.hid HE.out.is.one
  refine (refSameD_any _ HD.out.is HE.out.is).mono ?_
  rintro e wq ⟨hs, hb5⟩
  rcases hs.elim with ⟨rfl, _⟩ | ⟨_, hn⟩
  rotate_left
  · exact absurd (same_of _) hn
  have HAD := Lib.hid (show Ar wq ba D 27 from HD.out.ar.below hb5); have HAE := Lib.hid (show Ar wq bb E 27 from HE.out.ar.below hb5)
  have HXq := Lib.hid (HX.out.below hb5)
  have HBq := Lib.hid (HB.out.trans (hb5.mono (Nat.le_trans HN.out HB.out.size)))
  clear hb5 hs HD HE HX HB t0
  go_wp2_with fail
  refine (HKN wq).mono ?_
  rintro e w6 ⟨rfl, hb6⟩
  have HB6 := Lib.hid (HBq.out.trans (hb6.mono (Nat.le_trans HN.out HBq.out.size)))
  clear hb6
  go_wp2_with fail
  go_ret
  exact ⟨rfl, by rw [← HNE.out]; exact HB6.out⟩
end Go.Proofs.Ytlfmkiendaecaaa.DfaW
