/- The sequence that goes through a set's bytes. -/
import Derived.RangeFuncBox
import Derived.RangeFuncLeaves
import Derived.Shelf.Abstract
import Derived.WalkKit
import Derived.OwnWalkIn
import Derived.TacticsInMore
import Derived.LoopNIn
import Derived.LoopIn
import Derived.Maps.AppendAt
import Derived.Test.YtgmoaglanjfdmaaDoorSetWalk8
namespace Go.Proofs.YtgmoaglanjfdmaaDoor.SetW
set_option linter.unusedVariables false
open Go.RowKit Go.Shelf Go.Proofs.YtgmoaglanjfdmaaDoor.SetM
attribute [local go_sem] Oper.semAt_some

/-- The table of the lowest bits, cell by cell. -/
def EnvC (W : World) : Prop := ∀ j, j < 64 → W.cell? ⟨0, j, none⟩ = some (.int .u8 (tabZ.getD j 0))
theorem Env.cells {W : World} (h : Env W) : EnvC W := fun j hj => h.1.cell gTab j (show j < tabZ.length from hj)
theorem EnvC.below {n₀ : Nat} {A B : World} (h : EnvC A) (hg : 0 < n₀) (hb : Below n₀ A B) : EnvC B := fun j hj => (hb.cell (p := ⟨_, j, none⟩) hg).trans (h j hj)
theorem tz_cells (x : Nat) (hx : x < 18446744073709551616) (h0 : x ≠ 0) (w : World) (he : EnvC w) :
    Calls Tryd.prog 31 #[.int .u64 x] w fun e w' => e = .returned (.int .i64 (Lib.ctz 64 x)) ∧ w = w' := by
  obtain ⟨hlow, hk⟩ := Lib.lowest_bit 64 x h0 hx
  obtain ⟨hi, htab⟩ := Lib.deBruijn64_at _ hk
  have hcell := he _ hi
  rw [tabZ_at, htab] at hcell
  exact tz_core x _ _ w (by simp; omega) (tz_key x _ hx h0 hlow) hi hk hcell
theorem drop_low (y : Nat) (hy : y < 18446744073709551616) (h0 : y ≠ 0) : bits BinOp.and IntKind.u64 (y : Int) ((y : Int) - 1) = ((y &&& (y - 1) : Nat) : Int) := by
  have e : (y : Int) - 1 = ((y - 1 : Nat) : Int) := by omega
  rw [e, bits_and_u64_nat y _ hy (by omega)]

theorem each_any (f : Nat → Bool) (w : World) :
    Calls Tryd.prog 29 #[SV f] w fun e w' => e = .returned (.func (.func 32) #[] #[.pointer (some ⟨w.heap.size, 0, none⟩)]) ∧ w.alloc (.cells #[.int .u64 (wd f 0), .int .u64 (wd f 1), .int .u64 (wd f 2), .int .u64 (wd f 3)] 25) = w' := by
  have hmf : ∀ (fn : Fn) (first cap : Array Value) (w : World), (Instr.makeFunc fn first cap).run Tryd.prog w = .ok (.func fn first cap) w := fun _ _ _ _ => rfl
  go_enter Tryd.func29, Tryd.ntmps29
  go_wp2_with fail
  go_ret
  exact ⟨rfl, rfl⟩

set_option maxRecDepth 100000 in
set_option maxHeartbeats 2000000 in
theorem each1_in (n : Nat) (hn : 1 ≤ n) (l Bs n₀ : Nat) (hg : 0 < n₀) (f : Nat → Bool) (J Jx : List Nat → World → Prop)
    (hY : ∀ (pre : List Nat) (x : Nat) (W : World), J pre W → pre.length < 256 → YieldAt Fence.wide (n - 1) Tryd.prog l #[.int .u8 (x : Int)] W fun e W' =>
      (e = .returned (.bool true) ∧ J (pre ++ [x]) W' ∧ Below n₀ W W') ∨ (e = .returned (.bool false) ∧ Jx (pre ++ [x]) W'))
    (W : World) (hF : HoldsS W Bs f) (he : EnvC W) (h0 : J [] W) :
    CallsIn Fence.wide n Tryd.prog 32 #[.func (.yield l) #[] #[], .pointer (some ⟨Bs, 0, none⟩)] W fun e W' => (∃ v, e = .returned v) ∧
      ((∃ ys, ys = elems f ∧ J ys W') ∨ (∃ pre, True ∧ Jx pre W')) := by
  have i0 := index0; have i1 := index1; have i2 := index2; have i3 := index3
  have c0 := hF.c0; have c1 := hF.c1; have c2 := hF.c2; have c3 := hF.c3
  refine callsIn_of_wp Tryd.func32 rfl trivial ?_ rfl
  simp only [Tryd.ntmps32, List.size_toArray, List.length_cons, List.length_nil, Nat.reduceAdd, Nat.reduceSub, Array.replicate_succ, Array.replicate_zero, List.push_toArray, List.append_toArray, List.nil_append, List.cons_append]
  have HE := Lib.hid he
  have H0 := Lib.hid h0
  clear he h0
  gi_wp2
  refine wpIn_loop_rounds 5 ?_
  rw [roundsIn_succ]
  gi_wp2
  gi_loopw [4] (fun v wr => ∃ (pre : List Nat) (y : Nat), y < 18446744073709551616 ∧ v = .int .u64 y ∧ Hid (pre ++ (bitsOf y).map (64 * 0 + ·) = upTo f (64 * (0 + 1))) ∧ J pre wr ∧ EnvC wr) (fun v _ => (intOf v).toNat)
  case atStart => exact ⟨[], wd f 0, wd_lt f 0, rfl, Lib.hid (by have h := upTo_word f 0; rw [h]; rfl), H0.out, HE.out⟩
  case round =>
    obtain ⟨pre, y, hy64, rfl, HP, hJ, he⟩ := hrel
    clear H0 HE
    have HJ := Lib.hid hJ; have HE := Lib.hid he; clear hJ he
    by_cases hy0 : y = 0
    · have t0 : ((y : Int) != 0) = false := by simp [hy0]
      have HX := Lib.hid (show pre = upTo f (64 * (0 + 1)) by have := HP.out; rw [hy0, bitsOf_zero, List.map_nil, List.append_nil] at this; exact this)
      clear hy0 HP
      gi_wp2
      rw [roundsIn_succ]
      gi_wp2
      gi_loopw [4] (fun v wr => ∃ (pre : List Nat) (y : Nat), y < 18446744073709551616 ∧ v = .int .u64 y ∧ Hid (pre ++ (bitsOf y).map (64 * 1 + ·) = upTo f (64 * (1 + 1))) ∧ J pre wr ∧ EnvC wr) (fun v _ => (intOf v).toNat)
      case atStart => exact ⟨pre, wd f 1, wd_lt f 1, rfl, Lib.hid (by rw [upTo_word f 1, HX.out]), HJ.out, HE.out⟩
      case round =>
        obtain ⟨pre, y, hy64, rfl, HP, hJ, he⟩ := hrel
        clear HX HJ HE
        have HJ := Lib.hid hJ; have HE := Lib.hid he; clear hJ he
        by_cases hy0 : y = 0
        · have t0 : ((y : Int) != 0) = false := by simp [hy0]
          have HX := Lib.hid (show pre = upTo f (64 * (1 + 1)) by have := HP.out; rw [hy0, bitsOf_zero, List.map_nil, List.append_nil] at this; exact this)
          clear hy0 HP
          gi_wp2
          rw [roundsIn_succ]
          gi_wp2
          gi_loopw [4] (fun v wr => ∃ (pre : List Nat) (y : Nat), y < 18446744073709551616 ∧ v = .int .u64 y ∧ Hid (pre ++ (bitsOf y).map (64 * 2 + ·) = upTo f (64 * (2 + 1))) ∧ J pre wr ∧ EnvC wr) (fun v _ => (intOf v).toNat)
          case atStart => exact ⟨pre, wd f 2, wd_lt f 2, rfl, Lib.hid (by rw [upTo_word f 2, HX.out]), HJ.out, HE.out⟩
          case round =>
            obtain ⟨pre, y, hy64, rfl, HP, hJ, he⟩ := hrel
            clear HX HJ HE
            have HJ := Lib.hid hJ; have HE := Lib.hid he; clear hJ he
            by_cases hy0 : y = 0
            · have t0 : ((y : Int) != 0) = false := by simp [hy0]
              have HX := Lib.hid (show pre = upTo f (64 * (2 + 1)) by have := HP.out; rw [hy0, bitsOf_zero, List.map_nil, List.append_nil] at this; exact this)
              clear hy0 HP
              gi_wp2
              rw [roundsIn_succ]
              gi_wp2
              gi_loopw [4] (fun v wr => ∃ (pre : List Nat) (y : Nat), y < 18446744073709551616 ∧ v = .int .u64 y ∧ Hid (pre ++ (bitsOf y).map (64 * 3 + ·) = upTo f (64 * (3 + 1))) ∧ J pre wr ∧ EnvC wr) (fun v _ => (intOf v).toNat)
              case atStart => exact ⟨pre, wd f 3, wd_lt f 3, rfl, Lib.hid (by rw [upTo_word f 3, HX.out]), HJ.out, HE.out⟩
              case round =>
                obtain ⟨pre, y, hy64, rfl, HP, hJ, he⟩ := hrel
                clear HX HJ HE
                have HJ := Lib.hid hJ; have HE := Lib.hid he; clear hJ he
                by_cases hy0 : y = 0
                · have t0 : ((y : Int) != 0) = false := by simp [hy0]
                  have HX := Lib.hid (show pre = upTo f (64 * (3 + 1)) by have := HP.out; rw [hy0, bitsOf_zero, List.map_nil, List.append_nil] at this; exact this)
                  clear hy0 HP
                  gi_wp2
                  rw [roundsIn_succ]
                  gi_wp2
                  go_end0
                  exact ⟨⟨_, rfl⟩, .inl ⟨_, HX.out, HJ.out⟩⟩
                · have t0 : ((y : Int) != 0) = true := by simpa using hy0
                  have HT := Lib.hid (fun W h => tz_cells y hy64 hy0 W h)
                  obtain ⟨hc, hbits, hlt⟩ := low_bit y hy0 hy64
                  have HD := Lib.hid (drop_low y hy64 hy0)
                  have HBITS := Lib.hid hbits
                  generalize Lib.ctz 64 y = c at *
                  have hpl : pre.length < 256 := by have h1 := congrArg List.length HP.out; have h2 := upTo_length f (64 * (3 + 1)); rw [HBITS.out, List.length_append, List.map_cons, List.length_cons] at h1; omega
                  obtain ⟨fn, tmps, assign, body, hyy, hR⟩ := hY pre (64 * 3 + c) wr HJ.out hpl
                  have hx : ((64 * 3 + c : Nat) : Int) = 192 + (c : Int) := by omega
                  rw [hx] at hyy
                  clear hbits hy0 hx
                  gi_wp2_with (refine ⟨trivial, ?_⟩; gi_at_call 31; refine (callsIn_wide.2 (HT.out _ HE.out)).mono ?_; rintro e w2 ⟨rfl, rfl⟩)
                  refine hR.mono ?_
                  rintro e W3 (⟨rfl, hJ3, hk3⟩ | ⟨rfl, hJx3⟩)
                  · gi_wp2
                    exact ⟨⟨_, y &&& (y - 1), by omega, by rw [HD.out], Lib.hid (by have h := HP.out; rw [HBITS.out, List.map_cons] at h; rw [List.append_assoc]; exact h), hJ3, HE.out.below hg hk3⟩, by rw [HD.out]; show ((y &&& (y - 1) : Nat) : Int).toNat < ((y : Nat) : Int).toNat; omega⟩
                  · gi_wp2
                    refine bodyPost_ret (results_none rfl _ _ _) rfl ?_
                    exact ⟨⟨_, rfl⟩, .inr ⟨_, trivial, hJx3⟩⟩
            · have t0 : ((y : Int) != 0) = true := by simpa using hy0
              have HT := Lib.hid (fun W h => tz_cells y hy64 hy0 W h)
              obtain ⟨hc, hbits, hlt⟩ := low_bit y hy0 hy64
              have HD := Lib.hid (drop_low y hy64 hy0)
              have HBITS := Lib.hid hbits
              generalize Lib.ctz 64 y = c at *
              have hpl : pre.length < 256 := by have h1 := congrArg List.length HP.out; have h2 := upTo_length f (64 * (2 + 1)); rw [HBITS.out, List.length_append, List.map_cons, List.length_cons] at h1; omega
              obtain ⟨fn, tmps, assign, body, hyy, hR⟩ := hY pre (64 * 2 + c) wr HJ.out hpl
              have hx : ((64 * 2 + c : Nat) : Int) = 128 + (c : Int) := by omega
              rw [hx] at hyy
              clear hbits hy0 hx
              gi_wp2_with (refine ⟨trivial, ?_⟩; gi_at_call 31; refine (callsIn_wide.2 (HT.out _ HE.out)).mono ?_; rintro e w2 ⟨rfl, rfl⟩)
              refine hR.mono ?_
              rintro e W3 (⟨rfl, hJ3, hk3⟩ | ⟨rfl, hJx3⟩)
              · gi_wp2
                exact ⟨⟨_, y &&& (y - 1), by omega, by rw [HD.out], Lib.hid (by have h := HP.out; rw [HBITS.out, List.map_cons] at h; rw [List.append_assoc]; exact h), hJ3, HE.out.below hg hk3⟩, by rw [HD.out]; show ((y &&& (y - 1) : Nat) : Int).toNat < ((y : Nat) : Int).toNat; omega⟩
              · gi_wp2
                refine bodyPost_ret (results_none rfl _ _ _) rfl ?_
                exact ⟨⟨_, rfl⟩, .inr ⟨_, trivial, hJx3⟩⟩
        · have t0 : ((y : Int) != 0) = true := by simpa using hy0
          have HT := Lib.hid (fun W h => tz_cells y hy64 hy0 W h)
          obtain ⟨hc, hbits, hlt⟩ := low_bit y hy0 hy64
          have HD := Lib.hid (drop_low y hy64 hy0)
          have HBITS := Lib.hid hbits
          generalize Lib.ctz 64 y = c at *
          have hpl : pre.length < 256 := by have h1 := congrArg List.length HP.out; have h2 := upTo_length f (64 * (1 + 1)); rw [HBITS.out, List.length_append, List.map_cons, List.length_cons] at h1; omega
          obtain ⟨fn, tmps, assign, body, hyy, hR⟩ := hY pre (64 * 1 + c) wr HJ.out hpl
          have hx : ((64 * 1 + c : Nat) : Int) = 64 + (c : Int) := by omega
          rw [hx] at hyy
          clear hbits hy0 hx
          gi_wp2_with (refine ⟨trivial, ?_⟩; gi_at_call 31; refine (callsIn_wide.2 (HT.out _ HE.out)).mono ?_; rintro e w2 ⟨rfl, rfl⟩)
          refine hR.mono ?_
          rintro e W3 (⟨rfl, hJ3, hk3⟩ | ⟨rfl, hJx3⟩)
          · gi_wp2
            exact ⟨⟨_, y &&& (y - 1), by omega, by rw [HD.out], Lib.hid (by have h := HP.out; rw [HBITS.out, List.map_cons] at h; rw [List.append_assoc]; exact h), hJ3, HE.out.below hg hk3⟩, by rw [HD.out]; show ((y &&& (y - 1) : Nat) : Int).toNat < ((y : Nat) : Int).toNat; omega⟩
          · gi_wp2
            refine bodyPost_ret (results_none rfl _ _ _) rfl ?_
            exact ⟨⟨_, rfl⟩, .inr ⟨_, trivial, hJx3⟩⟩
    · have t0 : ((y : Int) != 0) = true := by simpa using hy0
      have HT := Lib.hid (fun W h => tz_cells y hy64 hy0 W h)
      obtain ⟨hc, hbits, hlt⟩ := low_bit y hy0 hy64
      have HD := Lib.hid (drop_low y hy64 hy0)
      have HBITS := Lib.hid hbits
      generalize Lib.ctz 64 y = c at *
      have hpl : pre.length < 256 := by have h1 := congrArg List.length HP.out; have h2 := upTo_length f (64 * (0 + 1)); rw [HBITS.out, List.length_append, List.map_cons, List.length_cons] at h1; omega
      obtain ⟨fn, tmps, assign, body, hyy, hR⟩ := hY pre (64 * 0 + c) wr HJ.out hpl
      have hx : ((64 * 0 + c : Nat) : Int) = (c : Int) := by omega
      rw [hx] at hyy
      clear hbits hy0 hx
      gi_wp2_with (refine ⟨trivial, ?_⟩; gi_at_call 31; refine (callsIn_wide.2 (HT.out _ HE.out)).mono ?_; rintro e w2 ⟨rfl, rfl⟩)
      refine hR.mono ?_
      rintro e W3 (⟨rfl, hJ3, hk3⟩ | ⟨rfl, hJx3⟩)
      · gi_wp2
        exact ⟨⟨_, y &&& (y - 1), by omega, by rw [HD.out], Lib.hid (by have h := HP.out; rw [HBITS.out, List.map_cons] at h; rw [List.append_assoc]; exact h), hJ3, HE.out.below hg hk3⟩, by rw [HD.out]; show ((y &&& (y - 1) : Nat) : Int).toNat < ((y : Nat) : Int).toNat; omega⟩
      · gi_wp2
        refine bodyPost_ret (results_none rfl _ _ _) rfl ?_
        exact ⟨⟨_, rfl⟩, .inr ⟨_, trivial, hJx3⟩⟩
end Go.Proofs.YtgmoaglanjfdmaaDoor.SetW
