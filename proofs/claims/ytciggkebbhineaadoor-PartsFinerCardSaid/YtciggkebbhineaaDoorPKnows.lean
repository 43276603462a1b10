/- Walk of what must come: the chapter's example. -/
import Derived.Test.YtciggkebbhineaaDoorOf
import Derived.Test.YtciggkebbhineaaDoorRight
namespace Go.Proofs.YtciggkebbhineaaDoor.PartW
set_option linter.unusedVariables false
open Go.RowKit Go.Maps Go.Proofs.YtciggkebbhineaaDoor.PartM Go.Proofs.YtciggkebbhineaaDoor.SetM Go.Proofs.YtciggkebbhineaaDoor.SetW

theorem byKey_nm {E : Nat → Nat → Bool} (h : Eqv E) : byKey (nm E) = E := by
  funext a b
  rw [nm_iff h a b]
  unfold byKey
  rw [Bool.eq_iff_iff]; simp
theorem sameA_refl (f : Nat → Nat) : sameA f f = true := (sameA_iff f f).2 fun _ _ => rfl
/-- What is normal is told so. -/
theorem Right_nm {E : Nat → Nat → Bool} (hE : Eqv E) {C : Array Value} (hC : IsA C (nm E)) (n : Int) (hn : n = (rk E 256 : Nat)) (w : World) :
    Calls Tryd.prog 7 #[.agg C, .int .i64 n] w fun e w' => e = .returned (.bool true) ∧ Below w.heap.size w w' := by
  refine (Right_any hC (fun b hb => Nat.lt_of_le_of_lt (nm_le b) hb) n w).mono ?_
  rintro e w' ⟨rfl, hb⟩
  exact ⟨Base.ret_bool (by rw [byKey_nm hE, sameA_refl, hn, Bool.true_and, beq_self_eq_true]), hb⟩
def ex1 : List (Nat → Bool) := [spanF 97 100, spanF 99 102]
theorem ex_rk : rk (alike ex1) 256 = 4 := by decide +kernel
theorem ex_nm : nm (alike ex1) 0 = 0 ∧ nm (alike ex1) 97 = 1 ∧ nm (alike ex1) 99 = 2 ∧ nm (alike ex1) 100 = 3 ∧ nm (alike ex1) 122 = 0 := by decide +kernel
theorem SSl.new2 (w : World) (f g : Nat → Bool) (t : TypeId) : SSl (w.alloc (.cells #[.int .u64 (wd f 0), .int .u64 (wd f 1), .int .u64 (wd f 2), .int .u64 (wd f 3), .int .u64 (wd g 0), .int .u64 (wd g 1), .int .u64 (wd g 2), .int .u64 (wd g 3)] t)) (.slice (some ⟨w.heap.size, 0, none⟩) 2 2) [f, g] := by
  refine .inr ⟨w.heap.size, 0, 2, rfl, Nat.le_refl _, by decide, fun k hk j hj => ?_⟩
  rw [World.cell?_alloc_new]
  have hk2 : k < 2 := hk
  rcases k with _ | _ | k
  · rcases j with _ | _ | _ | _ | j
    all_goals first | rfl | omega
  · rcases j with _ | _ | _ | _ | j
    all_goals first | rfl | omega
  · omega

set_option maxRecDepth 100000 in
set_option maxHeartbeats 1000000 in
theorem knows_any (w : World) : Calls Tryd.prog 14 #[] w fun e w' => e = .returned (.bool true) ∧ Below w.heap.size w w' := by
  obtain ⟨Z, hZ, hz⟩ := zeroA
  have HZ := Lib.hid hZ
  clear hZ
  have HS1 := Lib.hid (fun W => Span_any 97 99 (by decide) (by decide) W)
  have HS2 := Lib.hid (fun W => Span_any 99 101 (by decide) (by decide) W)
  have HO := Lib.hid (fun (W : World) v (h : SSl W v ex1) => by
    have h := Of_any h (by decide)
    rw [ex_rk] at h
    exact h)
  go_enter Tryd.func14, Tryd.ntmps14
  go_wp2_with fail
  refine (HS1.out _).mono ?_
  rintro e w1 ⟨rfl, hb1⟩
  have HB1 := Lib.hid hb1
  clear hb1
  go_wp2_with fail
  refine (HS2.out _).mono ?_
  rintro e w2 ⟨rfl, hb2⟩
  have HB2 := Lib.hid (HB1.out.trans (hb2.mono HB1.out.size))
  clear hb2
  go_wp2_with fail
  refine (HO.out _ _ (SSl.new2 w2 _ _ _)).mono ?_
  rintro e w3 ⟨Y, rfl, hY, hb3⟩
  have hb4 := (HB2.out.alloc HB2.out.size (.cells #[.int .u64 (wd (spanF 97 100) 0), .int .u64 (wd (spanF 97 100) 1), .int .u64 (wd (spanF 97 100) 2), .int .u64 (wd (spanF 97 100) 3), .int .u64 (wd (spanF 99 102) 0), .int .u64 (wd (spanF 99 102) 1), .int .u64 (wd (spanF 99 102) 2), .int .u64 (wd (spanF 99 102) 3)] 35)).trans (hb3.mono (by have := HB2.out.size; simp; omega))
  have HB3 := Lib.hid (hb4.alloc hb4.size (.cells Y 22))
  have HY := Lib.hid hY
  have hay := Ar.new w3 Y 22
  obtain ⟨x0, x1, x2, x3, x4⟩ := ex_nm
  have d0 := hay.cell hY (i := 0) (by decide)
  have d1 := hay.cell hY (i := 97) (by decide)
  have d2 := hay.cell hY (i := 99) (by decide)
  have d3 := hay.cell hY (i := 100) (by decide)
  have d4 := hay.cell hY (i := 122) (by decide)
  rw [x0] at d0
  rw [x1] at d1
  rw [x2] at d2
  rw [x3] at d3
  rw [x4] at d4
  have HAY := Lib.hid hay
  have HRT := Lib.hid (fun W => Right_nm (alike_eqv ex1) hY 4 (by rw [ex_rk]; rfl) W)
  clear hb3 hb4 hY hay x0 x1 x2 x3 x4
  go_wp2_with (first | (refine wpList_store_arr rfl 22 (.tmp 1) (.tmp 8) rfl rfl rfl (Ar.new w3 Z 22) HZ.out.size HY.out infoA ?_; rw [World.setRow_alloc_new]) | (refine wpList_load_arr_g rfl 22 (.tmp 1) rfl rfl HAY.out HY.out.size Tryd.underlying22 infoA ?_))
  refine (HRT.out _).mono ?_
  rintro e w4 ⟨rfl, hb4⟩
  have HB4 := Lib.hid (HB3.out.trans (hb4.mono HB3.out.size))
  clear hb4 d0 d1 d2 d3 d4
  go_wp2_with fail
  go_ret
  exact ⟨rfl, HB4.out⟩
end Go.Proofs.YtciggkebbhineaaDoor.PartW
