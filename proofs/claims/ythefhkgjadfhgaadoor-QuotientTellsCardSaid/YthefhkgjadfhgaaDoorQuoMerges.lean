/- Walk of QuotientMerges. -/
import Derived.Test.YthefhkgjadfhgaaDoorMergeQ
import Derived.Test.YthefhkgjadfhgaaDoorSameD
namespace Go.Proofs.YthefhkgjadfhgaaDoor.DfaW
set_option linter.unusedVariables false
set_option linter.unusedSimpArgs false
open Go.RowKit Go.Maps Go.Proofs.YthefhkgjadfhgaaDoor.PartM Go.Proofs.YthefhkgjadfhgaaDoor.PartW
theorem IS.on {B : Nat} {w w' : World} {v : Value} {l : List Int} (h : IS B w v l) (hb : Below B w w') (hB : B ≤ w'.heap.size) : IS w'.heap.size w' v l := (h.below hb).up hB
set_option maxRecDepth 100000 in
set_option maxHeartbeats 8000000 in
theorem QuoMerges_any (HCL : ClassesC 6) (HME : MergeT 8) (HKN : KnowsC) {C : Array Value} {m : Mc} (w : World) (he : SetW.Env w) (h : IsM w.heap.size w C m) :
    Calls Tryd.prog 3 #[.agg C] w fun e w' => e = .returned (.bool true) ∧ Below w.heap.size w w' := by
  obtain ⟨Z, hZ, hz⟩ := zeroA
  have HZ8 := Lib.hid hZ
  have HZS := Lib.hid zc_size
  have HENV := Lib.hid he
  have HM := Lib.hid h; have HX := Lib.hid (Bx.new h)
  have HB0 := Lib.hid (show Below w.heap.size w (w.alloc (.cells C 27)) from (Below.refl _ _).alloc (Nat.le_refl _) _)
  have HSN := Lib.hid (show w.heap.size < (w.alloc (.cells C 27)).heap.size by simp)
  obtain ⟨a1, a2, a3, c1, c2, c3, k1, k2, k3⟩ := h.slices
  obtain ⟨N, hN⟩ : ∃ L, L = m.lb.length := ⟨_, rfl⟩
  rw [← hN] at k2
  have y2 := (HX.out.lbv k2).1
  clear h k1 k2 k3 hZ he
  go_enter Tryd.func3, Tryd.ntmps3
  by_cases h1 : 200 < N
  · have t0 : decide ((N : Int) > 200) = true := by simp; omega
    go_wp2_with fail
    refine (HKN _).mono ?_
    rintro e w1 ⟨rfl, hb1⟩
    have HB1 := Lib.hid (HB0.out.trans (hb1.mono HB0.out.size))
    clear hb1
    go_wp2_with fail
    go_ret
    exact ⟨rfl, HB1.out⟩
  have t0 : decide ((N : Int) > 200) = false := by simp; omega
  clear h1 hN
  go_wp2_with (refine wpList_load_dfa rfl (.tmp 1) rfl rfl HX.out ?_)
  clear t0 y2
  obtain ⟨n, hn⟩ : ∃ n, n = w.heap.size := ⟨_, rfl⟩
  have HN := Lib.hid (show n ≤ w.heap.size from Nat.le_of_eq hn); have HNE := Lib.hid hn
  rw [← hn] at HM HX HB0 HSN ⊢
  generalize (w.alloc (.cells C 27)) = W0 at *
  clear hn
  refine (HCL _ HX.out.is).mono ?_
  rintro e w1 ⟨A, rfl, hA, hb1⟩
  have hba : Below w1.heap.size w1 ((w1.alloc (.cells Z 22)).setRow w1.heap.size A) := below_row ((Below.refl _ _).alloc (Nat.le_refl _) _) (Nat.le_refl _) _
  have hb2 := hb1.trans (hba.mono hb1.size)
  have HX1 := Lib.hid (HX.out.below hb2); have HB1 := Lib.hid (HB0.out.trans (hb2.mono (Nat.le_of_lt HSN.out)))
  have HA := Lib.hid hA; have HAR := Lib.hid ((Ar.new w1 Z 22).row A)
  have HS1 := Lib.hid (show n < w1.heap.size from Nat.lt_of_lt_of_le HSN.out hb1.size)
  clear hA hb1 hba hb2 HX HB0
  go_wp2_with (first | (refine wpList_store_arr rfl 22 (.tmp 3) (.tmp 19) rfl rfl rfl (Ar.new _ _ _) HZ8.out.size HA.out infoA ?_; simp only [Act.put]) | (refine wpList_load_dfa rfl (.tmp 1) rfl rfl HX1.out ?_))
  obtain ⟨p1, hp1⟩ : ∃ b, b = w1.heap.size := ⟨_, rfl⟩
  rw [← hp1] at HAR HX1 HB1 HS1 ⊢
  generalize ((w1.alloc (.cells Z 22)).setRow p1 A) = W1 at *
  clear hp1
  refine (refClasses_any _ HX1.out.is).mono ?_
  rintro e w2 ⟨A2, rfl, hA, hb1⟩
  have hba : Below w2.heap.size w2 ((w2.alloc (.cells Z 22)).setRow w2.heap.size A2) := below_row ((Below.refl _ _).alloc (Nat.le_refl _) _) (Nat.le_refl _) _
  have hb2 := hb1.trans (hba.mono hb1.size)
  have HX2 := Lib.hid (HX1.out.below hb2); have HB2 := Lib.hid (HB1.out.trans (hb2.mono (Nat.le_trans HN.out HB1.out.size)))
  have HA2 := Lib.hid hA; have HAR2 := Lib.hid ((Ar.new w2 Z 22).row A2); have HARb := Lib.hid (HAR.out.below hb2)
  have HS2 := Lib.hid (show n < w2.heap.size from Nat.lt_of_lt_of_le HS1.out (Nat.le_trans (Nat.le_of_lt HAR.out.lt) hb1.size))
  clear hA hb1 hba hb2 HX1 HB1 HAR
  go_wp2_with (first | (refine wpList_store_arr rfl 22 (.tmp 5) (.tmp 24) rfl rfl rfl (Ar.new _ _ _) HZ8.out.size HA2.out infoA ?_; simp only [Act.put]) | (refine wpList_load_dfa rfl (.tmp 1) rfl rfl HX2.out ?_))
  obtain ⟨p2, hp2⟩ : ∃ b, b = w2.heap.size := ⟨_, rfl⟩
  rw [← hp2] at HAR2 HX2 HB2 HS2 HARb ⊢
  generalize ((w2.alloc (.cells Z 22)).setRow p2 A2) = W2 at *
  clear hp2
  have HEN := Lib.hid (show n ≤ w.heap.size ∧ Below w.heap.size w W2 from ⟨HN.out, by rw [← HNE.out]; exact HB2.out⟩)
  refine (HME W2 (HENV.out.below HEN.out.2) (show Rx (fun k => n ≤ k ∧ k < W2.heap.size) W2 C m from ((HM.out.below HB2.out).rx (Nat.le_trans HN.out HB2.out.size)).mono fun k hk => hk.1) (fun k hk => hk.2)).mono ?_
  rintro e w3 ⟨D, rfl, hD, hb1⟩
  have HF := Lib.hid hD.fresh
  have HDS := Lib.hid hD.is.size; have HDO := Lib.hid hD.is.one
  have hb2 : Below w3.heap.size w3 ((w3.alloc (.cells Tryd.zeroCells27 27)).setRow w3.heap.size D) := below_row ((Below.refl _ _).alloc (Nat.le_refl _) _) (Nat.le_refl _) _
  have hb3 := hb1.trans (hb2.mono hb1.size)
  have HX3 := Lib.hid (HX2.out.below hb3); have HB3 := Lib.hid (HB2.out.trans (hb3.mono (Nat.le_trans HN.out HB2.out.size)))
  have HARc := Lib.hid (HARb.out.below hb3); have HAR2c := Lib.hid (HAR2.out.below hb3)
  have HS3 := Lib.hid (show n < w3.heap.size from Nat.lt_of_lt_of_le HS2.out (Nat.le_trans (Nat.le_of_lt HAR2.out.lt) hb1.size))
  clear hD hb1 hb2 hb3 HX2 HB2 HARb HAR2 HEN
  go_wp2_with (first | (refine wpList_store_dfa rfl (.tmp 7) (.tmp 29) rfl rfl rfl (Ar.new _ _ _) HZS.out HDS.out HDO.out ?_; simp only [Act.put]) | (refine wpList_load_dfa rfl (.tmp 1) rfl rfl HX3.out ?_))
  obtain ⟨p3, hp3⟩ : ∃ b, b = w3.heap.size := ⟨_, rfl⟩
  rw [← hp3] at HF HX3 HB3 HARc HAR2c HS3 ⊢
  generalize ((w3.alloc (.cells Tryd.zeroCells27 27)).setRow p3 D) = W3 at *
  clear hp3
  have HEN := Lib.hid (show Below w.heap.size w W3 by rw [← HNE.out]; exact HB3.out)
  refine (refMerge_any W3 (show Rx (fun k => n ≤ k ∧ k < W3.heap.size) W3 C m from ((HM.out.below HB3.out).rx (Nat.le_trans HN.out HEN.out.size)).mono fun k hk => hk.1) (fun k hk => hk.2)).mono ?_
  rintro e w4 ⟨E, rfl, hE, hb1⟩
  have HG := Lib.hid hE.fresh
  have HES := Lib.hid hE.is.size; have HEO := Lib.hid hE.is.one
  have hb2 : Below w4.heap.size w4 ((w4.alloc (.cells Tryd.zeroCells27 27)).setRow w4.heap.size E) := below_row ((Below.refl _ _).alloc (Nat.le_refl _) _) (Nat.le_refl _) _
  have hb3 := hb1.trans (hb2.mono hb1.size)
  have HD4 := Lib.hid (show Bx ((w4.alloc (.cells Tryd.zeroCells27 27)).setRow w4.heap.size E) p3 D (mergeM m) from ⟨HF.out.1.below hb3, (HF.out.2.next hb3).is⟩)
  have HB4 := Lib.hid (HB3.out.trans (hb3.mono (Nat.le_trans HN.out HB3.out.size)))
  have HARd := Lib.hid (HARc.out.below hb3); have HAR2d := Lib.hid (HAR2c.out.below hb3)
  have HE4 := Lib.hid (show Bx ((w4.alloc (.cells Tryd.zeroCells27 27)).setRow w4.heap.size E) w4.heap.size E (mergeM m) from ⟨HG.out.1, HG.out.2.is⟩)
  clear hE hb1 hb2 hb3 HX3 HF HB3 HARc HAR2c HG HEN
  obtain ⟨k, hk⟩ : ∃ k, k = mergeE m := ⟨_, rfl⟩
  rw [← hk]
  have t0 : (k == k) = true := by simp
  obtain ⟨c, hc⟩ : ∃ k, k = clsN m := ⟨_, rfl⟩
  rw [← hc]
  have t1 : (c == c) = true := by simp
  have heq := eqArr HA.out HA2.out
  have hsame : sameA (clsV m) (clsV m) = true := by simp [sameA]
  rw [hsame] at heq
  clear hk hc hsame
  go_wp2_with (first | (refine wpList_store_dfa rfl (.tmp 9) (.tmp 34) rfl rfl rfl (Ar.new _ _ _) HZS.out HES.out HEO.out ?_; simp only [Act.put]) | (refine wpList_load_arr rfl 22 (.tmp 3) rfl rfl HARd.out HA.out.size Tryd.underlying22 infoA ?_) | (refine wpList_load_arr rfl 22 (.tmp 5) rfl rfl HAR2d.out HA2.out.size Tryd.underlying22 infoA ?_) | (refine wpList_load_dfa_g rfl (.tmp 7) rfl rfl HD4.out ?_) | (refine wpList_load_dfa_g rfl (.tmp 9) rfl rfl HE4.out ?_))
  obtain ⟨p4, hp4⟩ : ∃ b, b = w4.heap.size := ⟨_, rfl⟩
  rw [← hp4] at HE4 HD4 HB4 HARd HAR2d ⊢
  generalize ((w4.alloc (.cells Tryd.zeroCells27 27)).setRow p4 E) = W4 at *
  clear hp4
  refine (refSameD_any W4 HD4.out.is HE4.out.is).mono ?_
  rintro e w5 ⟨hs, hb5⟩
  obtain rfl := hs.true (same_of _)
  have HB5 := Lib.hid (HB4.out.trans (hb5.mono (Nat.le_trans HN.out HB4.out.size)))
  clear hs hb5
  go_wp2_with fail
  refine (HKN _).mono ?_
  rintro e w6 ⟨rfl, hb6⟩
  have HB6 := Lib.hid (HB5.out.trans (hb6.mono (Nat.le_trans HN.out HB5.out.size)))
  clear hb6
  go_wp2_with fail
  go_ret
  exact ⟨rfl, by rw [← HNE.out]; exact HB6.out⟩
end Go.Proofs.YthefhkgjadfhgaaDoor.DfaW
