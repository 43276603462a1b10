/- Walk of LabelPlus. -/
import Derived.Test.YtlfmkiendaecaaaLabC
namespace Go.Proofs.Ytlfmkiendaecaaa.DfaW
set_option linter.unusedVariables false
set_option linter.unusedSimpArgs false
open Go.RowKit Go.Maps Go.Proofs.Ytlfmkiendaecaaa.PartM Go.Proofs.Ytlfmkiendaecaaa.PartW Go.Proofs.Ytlfmkiendaecaaa.TxM
set_option maxRecDepth 100000 in
set_option maxHeartbeats 4000000 in
theorem LabelPlus_any (HP : PlusC 20) (HKN : KnowsC) {C : Array Value} {m : Mc} (w : World) (h : IsM w.heap.size w C m) :
    Calls Try.prog 5 #[.agg C] w fun e w' => e = .returned (.bool true) ∧ Below w.heap.size w w' := by
  have HZS := Lib.hid zc_size
  have HM := Lib.hid h; have HX := Lib.hid (Bx.new h)
  have HB0 := Lib.hid (show Below w.heap.size w (w.alloc (.cells C 27)) from (Below.refl _ _).alloc (Nat.le_refl _) _)
  have HSN := Lib.hid (show w.heap.size < (w.alloc (.cells C 27)).heap.size by simp)
  clear h
  go_enter Try.func5, Try.ntmps5
  go_wp2_with (refine wpList_load_dfa rfl (.tmp 1) rfl rfl HX.out ?_)
  refine (HP _ (HM.out.rxb (Nat.le_refl _) HB0.out) (fun k hk => hk.2)).mono ?_
  obtain ⟨n, hn⟩ : ∃ n, n = w.heap.size := ⟨_, rfl⟩
  have HN := Lib.hid (show n ≤ w.heap.size from Nat.le_of_eq hn); have HNE := Lib.hid hn
  rw [← hn] at HM HX HB0 HSN ⊢
  generalize (w.alloc (.cells C 27)) = W0 at *
  clear hn
  rintro e w1 ⟨D, rfl, hD, hb1⟩
  have HX1 := Lib.hid (HX.out.below hb1)
  have HF := Lib.hid hD.fresh
  have HDS := Lib.hid hD.is.size; have HDO := Lib.hid hD.is.one
  have hb2 : Below w1.heap.size w1 ((w1.alloc (.cells Try.zeroCells27 27)).setRow w1.heap.size D) := below_row ((Below.refl _ _).alloc (Nat.le_refl _) _) (Nat.le_refl _) _
  have HX2 := Lib.hid (HX1.out.below hb2)
  have HB2 := Lib.hid (HB0.out.trans ((hb1.trans (hb2.mono hb1.size)).mono (Nat.le_of_lt HSN.out)))
  have HS1 := Lib.hid (show n < w1.heap.size from Nat.lt_of_lt_of_le HSN.out hb1.size)
  have HSZ2 := Lib.hid hb2.size
  clear hD hb1 hb2 HX HX1
  go_wp2_with (first | (refine wpList_store_dfa rfl (.tmp 3) (.tmp 10) rfl rfl rfl (Ar.new _ _ _) HZS.out HDS.out HDO.out ?_; simp only [Act.put]) | (refine wpList_load_dfa rfl (.tmp 1) rfl rfl HX2.out ?_))
  obtain ⟨ba, hba⟩ : ∃ b, b = w1.heap.size := ⟨_, rfl⟩
  rw [← hba] at HF HX2 HB2 HSZ2 HS1 ⊢
  generalize ((w1.alloc (.cells Try.zeroCells27 27)).setRow ba D) = W2 at *
  clear hba
  refine (refPlusC W2 (HM.out.rxb HN.out HB2.out) (fun k hk => hk.2)).mono ?_
  rintro e w3 ⟨E, rfl, hE, hb1⟩
  have HG := Lib.hid hE.fresh
  have HES := Lib.hid hE.is.size; have HEO := Lib.hid hE.is.one
  have hb2 : Below w3.heap.size w3 ((w3.alloc (.cells Try.zeroCells27 27)).setRow w3.heap.size E) := below_row ((Below.refl _ _).alloc (Nat.le_refl _) _) (Nat.le_refl _) _
  have hb3 := hb1.trans (hb2.mono hb1.size)
  have HD4 := Lib.hid (show Bx ((w3.alloc (.cells Try.zeroCells27 27)).setRow w3.heap.size E) ba D (plusM m) from ⟨HF.out.1.below hb3, (HF.out.2.next hb3).is⟩)
  have HB4 := Lib.hid (HB2.out.trans (hb3.mono (Nat.le_of_lt (Nat.lt_of_lt_of_le HS1.out (Nat.le_of_lt HF.out.1.lt)))))
  clear hE hb1 hb2 hb3 HX2 HF
  have HE4 := Lib.hid (show Bx ((w3.alloc (.cells Try.zeroCells27 27)).setRow w3.heap.size E) w3.heap.size E (plusM m) from ⟨HG.out.1, HG.out.2.is⟩)
  obtain ⟨k, hk⟩ : ∃ k, k = plusE m := ⟨_, rfl⟩
  rw [← hk]
  have t0 : (k == k) = true := by simp
  clear hk HG
  go_wp2_with (first | (refine wpList_store_dfa rfl (.tmp 5) (.tmp 15) rfl rfl rfl (Ar.new _ _ _) HZS.out HES.out HEO.out ?_; simp only [Act.put]) | (refine wpList_load_dfa_g rfl (.tmp 3) rfl rfl HD4.out ?_) | (refine wpList_load_dfa_g rfl (.tmp 5) rfl rfl HE4.out ?_))
  generalize ((w3.alloc (.cells Try.zeroCells27 27)).setRow w3.heap.size E) = W4 at *
  refine (refSameD_any W4 HD4.out.is HE4.out.is).mono ?_
  rintro e w5 ⟨hs, hb5⟩
  rcases hs.elim with ⟨rfl, _⟩ | ⟨_, hn⟩
  rotate_left
  · exact absurd (same_of _) hn
  have HB5 := Lib.hid (HB4.out.trans (hb5.mono (Nat.le_trans HN.out HB4.out.size)))
  clear hb5 hs
  go_wp2_with fail
  refine (HKN w5).mono ?_
  rintro e w6 ⟨rfl, hb6⟩
  have HB6 := Lib.hid (HB5.out.trans (hb6.mono (Nat.le_trans HN.out HB5.out.size)))
  clear hb6
  go_wp2_with fail
  go_ret
  exact ⟨rfl, by rw [← HNE.out]; exact HB6.out⟩
end Go.Proofs.Ytlfmkiendaecaaa.DfaW
