/- Walk of QuotientBlocks. -/
import Derived.Test.YthefhkgjadfhgaaQuoR
import Derived.Test.YthefhkgjadfhgaaSameL
namespace Go.Proofs.Ythefhkgjadfhgaa.DfaW
set_option linter.unusedVariables false
set_option linter.unusedSimpArgs false
open Go.RowKit Go.Maps Go.Proofs.Ythefhkgjadfhgaa.PartM Go.Proofs.Ythefhkgjadfhgaa.PartW
theorem IS.on {B : Nat} {w w' : World} {v : Value} {l : List Int} (h : IS B w v l) (hb : Below B w w') (hB : B ≤ w'.heap.size) : IS w'.heap.size w' v l := (h.below hb).up hB
set_option maxRecDepth 100000 in
set_option maxHeartbeats 4000000 in
theorem QuoBlocks_any (HNO : NormC 7) (HJO : JoinC 9) (HFI : FinerC 11) (HKN : KnowsC) {va vb : Value} {a b : List Int} (w : World) (ha : IS w.heap.size w va a) (hb : IS w.heap.size w vb b) (ha6 : I64 a) (hb6 : I64 b) :
    Calls Try.prog 3 #[va, vb] w fun e w' => e = .returned (.bool true) ∧ Below w.heap.size w w' := by
  have H6 := Lib.hid (show I64 a ∧ I64 b from ⟨ha6, hb6⟩)
  clear ha6 hb6
  have HAB := Lib.hid (fun W (h : Below w.heap.size w W) => (⟨ha.on h h.size, hb.on h h.size⟩ : _ ∧ _))
  obtain ⟨a1, c1, rfl, g1, g2, _⟩ := ha.open
  obtain ⟨a2, c2, rfl, g3, g4, _⟩ := hb.open
  obtain ⟨L, hL⟩ : ∃ L, L = a.length := ⟨_, rfl⟩
  obtain ⟨M, hM⟩ : ∃ L, L = b.length := ⟨_, rfl⟩
  rw [← hL, ← hM] at HAB ⊢
  have HL := Lib.hid (show L = a.length ∧ M = b.length from ⟨hL, hM⟩)
  have hLi : (L : Int) ≤ 9223372036854775807 := by unfold maxLen at g2; omega
  have hMi : (M : Int) ≤ 9223372036854775807 := by unfold maxLen at g4; omega
  clear ha hb g1 g2 g3 g4 hL hM
  have big : ∀ W, Below w.heap.size w W → Calls Try.prog 5 #[] W fun e w' => e = .returned (.bool true) ∧ Below w.heap.size w w' := fun W h => (HKN W).mono fun e w' ⟨h1, h2⟩ => ⟨h1, h.trans (h2.mono h.size)⟩
  have HBIG := Lib.hid big
  clear big
  go_enter Try.func3, Try.ntmps3
  by_cases h1 : 200 < L
  · have t0 : decide ((L : Int) > 200) = true := by simp; omega
    go_wp2_with fail
    refine (HBIG.out w (Below.refl _ _)).mono ?_
    rintro e w1 ⟨rfl, hb1⟩
    go_wp2_with fail
    go_ret
    exact ⟨rfl, hb1⟩
  have t0 : decide ((L : Int) > 200) = false := by simp; omega
  by_cases h2 : 200 < M
  · have t1 : decide ((M : Int) > 200) = true := by simp; omega
    go_wp2_with fail
    refine (HBIG.out w (Below.refl _ _)).mono ?_
    rintro e w1 ⟨rfl, hb1⟩
    go_wp2_with fail
    go_ret
    exact ⟨rfl, hb1⟩
  have t1 : decide ((M : Int) > 200) = false := by simp; omega
  have HLA := Lib.hid (show a.length ≤ 1048576 by have := HL.out.1; omega)
  have HB0 := Lib.hid (Below.refl w.heap.size w)
  clear h1 h2
  go_wp2_with fail
  clear t0 t1
  refine (HNO w (HAB.out _ HB0.out).1 H6.out.1 HLA.out).mono ?_
  rintro e w1 ⟨v1, rfl, ho1, hb1⟩
  have HB1 := Lib.hid hb1; have HO1 := Lib.hid ho1.is
  clear hb1 ho1
  go_wp2_with fail
  refine (refNormC w1 (HAB.out _ HB1.out).1 H6.out.1 HLA.out).mono ?_
  rintro e w2 ⟨v2, rfl, ho2, hb2⟩
  have HB2 := Lib.hid (HB1.out.trans (hb2.mono HB1.out.size)); have HO2 := Lib.hid ho2.is
  have HO12 := Lib.hid (HO1.out.on hb2 hb2.size)
  clear hb2 ho2
  go_wp2_with fail
  refine (Same17_any w2 (Nat.le_refl _) (Nat.le_refl _) HO12.out HO2.out).mono ?_
  rintro e w3 ⟨hs, hd3⟩
  obtain rfl := hs.true rfl
  have HB3 := Lib.hid (HB2.out.trans (hd3.below (B := w.heap.size)))
  clear hs hd3 HO1 HO2 HO12
  go_wp2_with fail
  refine (HJO w3 (HAB.out _ HB3.out).1 (HAB.out _ HB3.out).2 H6.out.1 H6.out.2 HLA.out).mono ?_
  rintro e w4 ⟨v3, rfl, ho3, hb4⟩
  have HB4 := Lib.hid (HB3.out.trans (hb4.mono HB3.out.size)); have HO3 := Lib.hid ho3.is
  clear hb4 ho3
  go_wp2_with fail
  refine (refJoinC w4 (HAB.out _ HB4.out).1 (HAB.out _ HB4.out).2 H6.out.1 H6.out.2 HLA.out).mono ?_
  rintro e w5 ⟨v4, rfl, ho4, hb5⟩
  have HB5 := Lib.hid (HB4.out.trans (hb5.mono HB4.out.size)); have HO4 := Lib.hid ho4.is
  have HO34 := Lib.hid (HO3.out.on hb5 hb5.size)
  clear hb5 ho4
  go_wp2_with fail
  refine (Same17_any w5 (Nat.le_refl _) (Nat.le_refl _) HO34.out HO4.out).mono ?_
  rintro e w6 ⟨hs, hd6⟩
  obtain rfl := hs.true rfl
  have HB6 := Lib.hid (HB5.out.trans (hd6.below (B := w.heap.size)))
  clear hs hd6 HO3 HO4 HO34
  obtain ⟨f, hf⟩ : ∃ f : Bool, f = true ↔ FinerP a b := by
    by_cases h : FinerP a b
    · exact ⟨true, by simp [h]⟩
    · exact ⟨false, by simp [h]⟩
  have HF := Lib.hid hf
  clear hf
  go_wp2_with fail
  refine (HFI w6 (HAB.out _ HB6.out).1 (HAB.out _ HB6.out).2 H6.out.1 H6.out.2 HLA.out).mono ?_
  rintro e w7 ⟨hs, hb7⟩
  obtain rfl := hs.bool HF.out
  have HB7 := Lib.hid (HB6.out.trans (hb7.mono HB6.out.size))
  clear hs hb7
  go_wp2_with fail
  refine (refFinerC w7 (HAB.out _ HB7.out).1 (HAB.out _ HB7.out).2 H6.out.1 H6.out.2 HLA.out).mono ?_
  rintro e w8 ⟨hs, hb8⟩
  obtain rfl := hs.bool HF.out
  have HB8 := Lib.hid (HB7.out.trans (hb8.mono HB7.out.size))
  clear hs hb8
  have t2 : (f == f) = true := by simp
  go_wp2_with fail
  refine (HNO w8 (HAB.out _ HB8.out).1 H6.out.1 HLA.out).mono ?_
  rintro e w9 ⟨v5, rfl, ho5, hb9⟩
  have HB9 := Lib.hid (HB8.out.trans (hb9.mono HB8.out.size)); have HO5 := Lib.hid ho5.is
  clear hb9 ho5 t2
  go_wp2_with fail
  refine (HFI w9 (HAB.out _ HB9.out).1 HO5.out H6.out.1 (I64.of (numsTo_bound _ _) HLA.out) HLA.out).mono ?_
  rintro e w10 ⟨hs, hb10⟩
  obtain rfl := hs.true (finer_norm a)
  have HB10 := Lib.hid (HB9.out.trans (hb10.mono HB9.out.size))
  clear hs hb10
  go_wp2_with fail
  refine (HBIG.out w10 HB10.out).mono ?_
  rintro e w11 ⟨rfl, hb11⟩
  go_wp2_with fail
  go_ret
  exact ⟨rfl, hb11⟩
end Go.Proofs.Ythefhkgjadfhgaa.DfaW
