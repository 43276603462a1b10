/- Walk of SetsMade. -/
import Derived.Test.YtgmoaglanjfdmaaDoorKnows
namespace Go.Proofs.YtgmoaglanjfdmaaDoor.SetW
set_option linter.unusedVariables false
open Go.RowKit Go.Proofs.YtgmoaglanjfdmaaDoor.SetM
open Go.Proofs.YtgmoaglanjfdmaaDoor.Base (BSl)

theorem SetsMade_any (v : Value) (s : ByteArray) (lo hi : Nat) (w : World) (he : Env w) (hv : BSl w v s) (hlo : lo < 256) (hhi : hi < 256) :
    Calls Tryd.prog 3 #[v, .int .u8 lo, .int .u8 hi] w fun e w' => e = .returned (.bool true) ∧ Below w.heap.size w w' := by
  have r1 := fun W h => Of_any v s W h
  have r2 := fun W h => refOf_any v s W h
  have r3 := fun W => Span_any lo hi hlo hhi W
  have r4 := fun W => refSpan_any lo hi hlo hhi W
  have r5 := fun W => All_any W
  have r6 : ∀ W, Calls Tryd.prog 10 #[.int .i64 0, .int .i64 255] W fun e w' => e = .returned (SV (spanF 0 256)) ∧ Below W.heap.size W w' := fun W => refSpan_any 0 255 (by decide) (by decide) W
  have r7 := fun W h => knows_any W h
  generalize ofF s.data.toList = f at *
  generalize spanF lo (hi + 1) = g at *
  generalize spanF 0 256 = h at *
  have R1 := Lib.hid r1; have R2 := Lib.hid r2; have R3 := Lib.hid r3; have R4 := Lib.hid r4; have R5 := Lib.hid r5; have R6 := Lib.hid r6; have R7 := Lib.hid r7
  have HE := Lib.hid he; have HV := Lib.hid hv
  clear r1 r2 r3 r4 r5 r6 r7 he hv
  have hq := eqSet
  go_enter Tryd.func3, Tryd.ntmps3
  go_wp2_with fail
  refine (R1.out _ HV.out).mono ?_
  rintro e w1 ⟨rfl, hb1⟩
  have HV1 := Lib.hid (HV.out.below hb1)
  have B1 := Lib.hid hb1
  clear hb1
  go_wp2_with fail
  refine (R2.out _ HV1.out).mono ?_
  rintro e w2 ⟨rfl, hb2⟩
  have B2 := Lib.hid (B1.out.trans (hb2.mono B1.out.size))
  clear hb2
  go_wp2_with fail
  refine (R3.out _).mono ?_
  rintro e w3 ⟨rfl, hb3⟩
  have B3 := Lib.hid (B2.out.trans (hb3.mono B2.out.size))
  clear hb3
  go_wp2_with fail
  refine (R4.out _).mono ?_
  rintro e w4 ⟨rfl, hb4⟩
  have B4 := Lib.hid (B3.out.trans (hb4.mono B3.out.size))
  clear hb4
  go_wp2_with fail
  refine (R5.out _).mono ?_
  rintro e w5 ⟨rfl, hb5⟩
  have B5 := Lib.hid (B4.out.trans (hb5.mono B4.out.size))
  clear hb5
  go_wp2_with fail
  refine (R6.out _).mono ?_
  rintro e w6 ⟨rfl, hb6⟩
  have B6 := Lib.hid (B5.out.trans (hb6.mono B5.out.size))
  clear hb6
  go_wp2_with fail
  refine (R7.out _ (HE.out.below B6.out)).mono ?_
  rintro e w7 ⟨rfl, hb7⟩
  go_wp2_with fail
  go_ret
  exact ⟨rfl, B6.out.trans (hb7.mono B6.out.size)⟩
end Go.Proofs.YtgmoaglanjfdmaaDoor.SetW
