/- Walks of the statements of layer 3. -/
import Derived.Test.YtmlheppkclppfaaDoorQuoWalk8
namespace Go.Proofs.YtmlheppkclppfaaDoor.QuoW
set_option linter.unusedVariables false
open Go.RowKit Go.Proofs.YtmlheppkclppfaaDoor.QuoM
open Go.Proofs.YtmlheppkclppfaaDoor.Base (ret_bool ret_int ret_str BSl bytes_below ba_ext)

theorem bsl_three (W : World) (b : Nat) (x y z : UInt8) (h0 : W.cell? ⟨b, 0, none⟩ = some (cb x)) (h1 : W.cell? ⟨b, 1, none⟩ = some (cb y)) (h2 : W.cell? ⟨b, 2, none⟩ = some (cb z)) : BSl W (.slice (some ⟨b, 0, none⟩) 3 3) ⟨#[x, y, z]⟩ :=
  .inr ⟨b, 0, 3, rfl, Nat.le_refl _, by decide, fun i hi => by
    have h3 : (⟨#[x, y, z]⟩ : ByteArray).size = 3 := rfl
    rw [h3] at hi
    rcases (by omega : i = 0 ∨ i = 1 ∨ i = 2) with h | h | h <;> subst h
    · exact h0
    · exact h1
    · exact h2⟩
theorem ex_quote : quoteL [97, 32, 92] = [97, 92, 120, 50, 48, 92, 120, 53, 99] := by decide +kernel
theorem knows_any (w : World) (he : Env w) : Calls Tryd.prog 13 #[] w fun e w' => e = .returned (.bool true) ∧ Below w.heap.size w w' := by
  have r1 := fun W h => Unquote_any { data := #[97, 92, 120, 50, 48, 92, 120, 53, 99] } W h (by decide)
  have r2 : ∀ W b, Env W → W.cell? ⟨b, 0, none⟩ = some (.int .u8 97) → W.cell? ⟨b, 1, none⟩ = some (.int .u8 32) → W.cell? ⟨b, 2, none⟩ = some (.int .u8 92) → Calls Tryd.prog 14 #[.slice (some ⟨b, 0, none⟩) 3 3] W fun e w' => e = .returned (.string { data := #[97, 92, 120, 50, 48, 92, 120, 53, 99] }) ∧ Below W.heap.size W w' := fun W b h h0 h1 h2 => by
    have h := Quote_any _ ⟨#[97, 32, 92]⟩ W h (bsl_three W b 97 32 92 h0 h1 h2) (by decide)
    have e : (⟨#[97, 32, 92]⟩ : ByteArray).data.toList = [97, 32, 92] := rfl
    rw [e, ex_quote] at h
    exact h
  have r3 := fun W => Quote_nil none 0 W
  have R1 := Lib.hid r1; have R2 := Lib.hid r2; have R3 := Lib.hid r3; have HE := Lib.hid he
  clear r1 r2 r3 he
  go_enter Tryd.func13, Tryd.ntmps13
  go_wp2_with fail
  refine (R1.out _ HE.out).mono ?_
  rintro e w1 ⟨o, v, hr, rfl, hown, hb1⟩
  obtain rfl : o = some [97, 32, 92] := reads_one hr ex_quote
  have HO := Lib.hid hown
  have HB1 := Lib.hid hb1
  have HE1 := Lib.hid (HE.out.below hb1)
  obtain ⟨a, cap, hv⟩ := slice_form hown
  subst hv
  clear hr hown hb1 HE R1
  go_wp2_with fail
  refine (R2.out _ _ (HE1.out.below ((Below.refl _ _).alloc (Nat.le_refl _) _)) (World.cell?_alloc_new _ _ _ 0) (World.cell?_alloc_new _ _ _ 1) (World.cell?_alloc_new _ _ _ 2)).mono ?_
  rintro e w2 ⟨rfl, hb2⟩
  have HB2 := Lib.hid ((HB1.out.alloc HB1.out.size _).trans (hb2.mono (by have := HB1.out.size; simp; omega)))
  have hcv : (convert 27 9 (.slice a 3 cap)).run Tryd.prog w2 = .ok (.string { data := #[97, 32, 92] }) w2 := conv_owned (l := [97, 32, 92]) rfl (own_below (own_below HO.out ((Below.refl _ _).alloc (Nat.le_refl _) _)) hb2)
  clear hb2
  go_wp2_with fail
  refine (R3.out _).mono ?_
  rintro e w3 ⟨rfl, rfl⟩
  go_wp2_with fail
  go_ret
  exact ⟨rfl, HB2.out⟩
theorem QuoteDigits_any (n : Int) (c : UInt8) (w : World) (he : Env w) (h0 : -9223372036854775808 ≤ n) (h1 : n ≤ 9223372036854775807) :
    Calls Tryd.prog 3 #[.int .i64 n, .int .u8 c.toNat] w fun e w' => e = .returned (.bool true) ∧ Below w.heap.size w w' := by
  have r1 := fun W => Digit_any n W h0 h1
  have r2 := fun W => refDigit_any n W h0 h1
  have r3 := fun W => Value_any c W
  have r4 := fun W => refValue_any c W
  have r5 := fun W h => Plain_any c W h
  have r6 := fun W => refPlain_any c W
  have r7 := fun W h => knows_any W h
  generalize dg n = d at *
  generalize vl c = v at *
  generalize pl c = p at *
  have R1 := Lib.hid r1; have R2 := Lib.hid r2; have R3 := Lib.hid r3; have R4 := Lib.hid r4; have R5 := Lib.hid r5; have R6 := Lib.hid r6; have R7 := Lib.hid r7
  have HE := Lib.hid he
  clear r1 r2 r3 r4 r5 r6 r7 he
  go_enter Tryd.func3, Tryd.ntmps3
  go_wp2_with fail
  refine (R1.out _).mono ?_
  rintro e w1 ⟨rfl, rfl⟩
  go_wp2_with fail
  refine (R2.out _).mono ?_
  rintro e w1 ⟨rfl, rfl⟩
  go_wp2_with fail
  refine (R3.out _).mono ?_
  rintro e w1 ⟨rfl, rfl⟩
  go_wp2_with fail
  refine (R4.out _).mono ?_
  rintro e w1 ⟨rfl, rfl⟩
  go_wp2_with fail
  refine (R5.out _ HE.out).mono ?_
  rintro e w1 ⟨rfl, rfl⟩
  go_wp2_with fail
  refine (R6.out _).mono ?_
  rintro e w1 ⟨rfl, rfl⟩
  go_wp2_with fail
  refine (R7.out _ HE.out).mono ?_
  rintro e w1 ⟨rfl, hb⟩
  go_wp2_with fail
  go_ret
  exact ⟨rfl, hb⟩
theorem QuoteTells_any (v : Value) (s : ByteArray) (w : World) (he : Env w) (hv : BSl w v s) (hs : s.size ≤ 17592186044416) :
    Calls Tryd.prog 4 #[v] w fun e w' => e = .returned (.bool true) ∧ Below w.heap.size w w' := by
  have r1 := fun W h k => Quote_any v s W h k hs
  have r2 := fun W k => refQuote_any v s W k (by omega)
  have r7 := fun W h => knows_any W h
  generalize (⟨(quoteL s.data.toList).toArray⟩ : ByteArray) = q at *
  have R1 := Lib.hid r1; have R2 := Lib.hid r2; have R7 := Lib.hid r7
  have HE := Lib.hid he; have HV := Lib.hid hv
  clear r1 r2 r7 he hv
  go_enter Tryd.func4, Tryd.ntmps4
  go_wp2_with fail
  refine (R1.out _ HE.out HV.out).mono ?_
  rintro e w1 ⟨rfl, hb1⟩
  have HV1 := Lib.hid (HV.out.below hb1)
  have B1 := Lib.hid hb1
  clear hb1
  go_wp2_with fail
  refine (R2.out _ HV1.out).mono ?_
  rintro e w2 ⟨rfl, hb2⟩
  have B2 := Lib.hid (B1.out.trans (hb2.mono B1.out.size))
  clear hb2
  go_wp2_with fail
  refine (R7.out _ (HE.out.below B2.out)).mono ?_
  rintro e w3 ⟨rfl, hb3⟩
  go_wp2_with fail
  go_ret
  exact ⟨rfl, B2.out.trans (hb3.mono B2.out.size)⟩
end Go.Proofs.YtmlheppkclppfaaDoor.QuoW
