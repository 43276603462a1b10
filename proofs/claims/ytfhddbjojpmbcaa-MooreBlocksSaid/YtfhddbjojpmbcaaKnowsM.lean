/- Walk of what must come. -/
import Derived.Test.YtfhddbjojpmbcaaExM
namespace Go.Proofs.Ytfhddbjojpmbcaa.DfaW
set_option linter.unusedVariables false
set_option linter.unusedSimpArgs false
open Go.RowKit Go.Maps Go.Proofs.Ytfhddbjojpmbcaa.PartM Go.Proofs.Ytfhddbjojpmbcaa.PartW
theorem zA_one : zA.all (·.oneCell') = true := zA_is.one
set_option maxRecDepth 100000 in
set_option maxHeartbeats 4000000 in
theorem knows_of (HAF : AfterC 9) (HBL : BlocksC 8) (HRO : RoundsC 10) : KnowsC := fun w => by
  have HD := Lib.hid (ex_build w)
  have HS := Lib.hid (show (exC w).size = 260 from mkC_size zA_is.size _ _ _ _)
  have HO := Lib.hid (show (exC w).all (·.oneCell') = true from oneAll zA_one rfl rfl rfl rfl)
  have HZS := Lib.hid zc_size
  have HSX := Lib.hid (exW_size w)
  have HXI := Lib.hid (ex_is w)
  have HXB := Lib.hid (exW_below w)
  have HAR : Hid (Ar ((exW w).alloc (.cells Try.zeroCells27 27)) (w.heap.size + 1 + 1 + 1 + 1 + 1 + 1 + 1 + 1) Try.zeroCells27 27) := Lib.hid (by rw [← HSX.out]; exact Ar.new _ _ _)
  go_enter Try.func11, Try.ntmps11
  have hX0 : Bx (((exW w).alloc (.cells Try.zeroCells27 27)).setRow (w.heap.size + 1 + 1 + 1 + 1 + 1 + 1 + 1 + 1) (exC w)) (w.heap.size + 1 + 1 + 1 + 1 + 1 + 1 + 1 + 1) (exC w) exM := by rw [← HSX.out]; exact bx_store HXI.out
  have HX0 := Lib.hid hX0
  have HB0 := Lib.hid (show Below w.heap.size w (((exW w).alloc (.cells Try.zeroCells27 27)).setRow (w.heap.size + 1 + 1 + 1 + 1 + 1 + 1 + 1 + 1) (exC w)) from by
    rw [← HSX.out]; exact HXB.out.trans ((ist_below _ _).mono HXB.out.size))
  clear hX0
  go_wp2_with (first | (refine wpList_store_dfa rfl (.tmp 1) (.tmp 10) rfl rfl rfl HAR.out HZS.out (by rw [HD.out]; exact HS.out) (by rw [HD.out]; exact HO.out) ?_; rw [HD.out]; simp only [Act.put]) | (refine wpList_load_dfa rfl (.tmp 1) rfl rfl HX0.out ?_))
  show Calls _ _ _ (((exW w).alloc (.cells Try.zeroCells27 27)).setRow (w.heap.size + 1 + 1 + 1 + 1 + 1 + 1 + 1 + 1) (exC w)) _
  obtain ⟨bx, hbx⟩ : ∃ b, b = w.heap.size + 1 + 1 + 1 + 1 + 1 + 1 + 1 + 1 := ⟨_, rfl⟩
  rw [← hbx] at HX0 HB0 ⊢
  generalize (((exW w).alloc (.cells Try.zeroCells27 27)).setRow bx (exC w)) = W1 at *
  clear HAR HXI HXB HSX HD HS HO hbx
  generalize exC w = C at *
  refine (HAF W1 0 (by decide) HX0.out.is).mono ?_
  rintro e w2 ⟨v2, rfl, ho, hb⟩
  rw [(moo_yes ex_ok).1, show (0 : Int).toNat = 0 from rfl, ex_aft.1] at ho
  obtain ⟨a2, c2, rfl, _, _⟩ := ho.len
  have hal := al w2 (.cells #[.int .i64 0, .int .i64 0, .int .i64 0, .int .i64 1, .int .i64 0] 3)
  have HX2 := Lib.hid ((HX0.out.below hb).below hal)
  have HB2 := Lib.hid ((HB0.out.trans (hb.mono HB0.out.size)).trans (hal.mono (Nat.le_trans HB0.out.size hb.size)))
  have HO2 := Lib.hid (ho.is.nx hal)
  clear ho hb hal HX0 HB0
  go_wp2_with fail
  refine (Same17_any _ (Nat.le_refl _) (Nat.le_refl _) HO2.out (is_new w2 [0, 0, 0, 1, 0] 3 w2.heap.size rfl (by decide))).mono ?_
  rintro e w2' ⟨hs, hd⟩
  obtain rfl := hs.true rfl
  have HX2' := Lib.hid (HX2.out.below (hd.below (B := _)))
  have HB2' := Lib.hid (HB2.out.trans (hd.below (B := w.heap.size)))
  clear hs hd HX2 HB2 HO2
  go_wp2_with (refine wpList_load_dfa_g rfl (.tmp 1) rfl rfl HX2'.out ?_)
  refine (HAF w2' 1 (by decide) HX2'.out.is).mono ?_
  rintro e w3 ⟨v3, rfl, ho, hb⟩
  rw [(moo_yes ex_ok).1, show (1 : Int).toNat = 1 from rfl, ex_aft.2.1] at ho
  obtain ⟨a3, c3, rfl, _, _⟩ := ho.len
  have hal := al w3 (.cells #[.int .i64 0, .int .i64 0, .int .i64 1, .int .i64 2, .int .i64 0] 3)
  have HX3 := Lib.hid ((HX2'.out.below hb).below hal)
  have HB3 := Lib.hid ((HB2'.out.trans (hb.mono HB2'.out.size)).trans (hal.mono (Nat.le_trans HB2'.out.size hb.size)))
  have HO3 := Lib.hid (ho.is.nx hal)
  clear ho hb hal HX2' HB2'
  go_wp2_with fail
  refine (Same17_any _ (Nat.le_refl _) (Nat.le_refl _) HO3.out (is_new w3 [0, 0, 1, 2, 0] 3 w3.heap.size rfl (by decide))).mono ?_
  rintro e w3' ⟨hs, hd⟩
  obtain rfl := hs.true rfl
  have HX3' := Lib.hid (HX3.out.below (hd.below (B := _)))
  have HB3' := Lib.hid (HB3.out.trans (hd.below (B := w.heap.size)))
  clear hs hd HX3 HB3 HO3
  go_wp2_with (refine wpList_load_dfa_g rfl (.tmp 1) rfl rfl HX3'.out ?_)
  refine (HBL w3' HX3'.out.is).mono ?_
  rintro e w4 ⟨v4, rfl, ho, hb⟩
  rw [(moo_yes ex_ok).2.1, ex_aft.2.2.2] at ho
  obtain ⟨a4, c4, rfl, _, _⟩ := ho.len
  have hal := al w4 (.cells #[.int .i64 0, .int .i64 1, .int .i64 2, .int .i64 3, .int .i64 0] 3)
  have HX4 := Lib.hid ((HX3'.out.below hb).below hal)
  have HB4 := Lib.hid ((HB3'.out.trans (hb.mono HB3'.out.size)).trans (hal.mono (Nat.le_trans HB3'.out.size hb.size)))
  have HO4 := Lib.hid (ho.is.nx hal)
  clear ho hb hal HX3' HB3'
  go_wp2_with fail
  refine (Same17_any _ (Nat.le_refl _) (Nat.le_refl _) HO4.out (is_new w4 [0, 1, 2, 3, 0] 3 w4.heap.size rfl (by decide))).mono ?_
  rintro e w4' ⟨hs, hd⟩
  obtain rfl := hs.true rfl
  have HX4' := Lib.hid (HX4.out.below (hd.below (B := _)))
  have HB4' := Lib.hid (HB4.out.trans (hd.below (B := w.heap.size)))
  clear hs hd HX4 HB4 HO4
  go_wp2_with (refine wpList_load_dfa_g rfl (.tmp 1) rfl rfl HX4'.out ?_)
  refine (HRO w4' HX4'.out.is).mono ?_
  rintro e w5 ⟨rfl, hb⟩
  rw [(moo_yes ex_ok).2.2, ex_rnd]
  have HB5 := Lib.hid (HB4'.out.trans (hb.mono HB4'.out.size))
  clear hb HX4' HB4'
  go_wp2_with fail
  go_ret
  exact ⟨rfl, HB5.out⟩
end Go.Proofs.Ytfhddbjojpmbcaa.DfaW
