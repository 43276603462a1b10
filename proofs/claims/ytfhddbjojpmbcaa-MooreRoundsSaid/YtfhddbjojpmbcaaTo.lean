/- Walk of To. -/
import Derived.Test.YtfhddbjojpmbcaaMach
namespace Go.Proofs.Ytfhddbjojpmbcaa.DfaW
set_option linter.unusedVariables false
open Go.RowKit Go.Maps Go.Proofs.Ytfhddbjojpmbcaa.PartM Go.Proofs.Ytfhddbjojpmbcaa.PartW
set_option maxRecDepth 100000 in
set_option maxHeartbeats 2000000 in
theorem To_any {C : Array Value} {m : Mc} (w : World) (h : IsM w.heap.size w C m) (s : Int) (c : Nat) (hc : c < 256) :
    Calls Try.prog 19 #[.agg C, .int .i64 s, .int .u8 c] w fun e w' => e = .returned (.int .i64 (toV m s c)) ∧ Below w.heap.size w w' := by
  have hx := Bx.new h
  have hb0 : Below w.heap.size w (w.alloc (.cells C 27)) := (Below.refl _ _).alloc (Nat.le_refl _) _
  have HR := Lib.hid (RightD_any (w.alloc (.cells C 27)) hx.is)
  have HX := Lib.hid hx; have HB0 := Lib.hid hb0
  clear h hx hb0
  go_enter Try.func19, Try.ntmps19
  go_wp2_with (refine wpList_load_dfa rfl (.tmp 3) rfl rfl HX.out ?_)
  refine HR.out.mono ?_
  rintro e w1 ⟨hs, hb1⟩
  have HX1 := Lib.hid (HX.out.below hb1)
  have HB1 := Lib.hid (HB0.out.trans (hb1.mono HB0.out.size))
  rcases hs.elim with ⟨rfl, hn⟩ | ⟨rfl, hn⟩
  · have HK := Lib.hid hn
    clear hs hn hb1
    obtain ⟨v1, x1, hv1⟩ := HX1.out.nx
    obtain ⟨a1, c1, rfl, _, _, _⟩ := hv1.open
    rw [HK.out.len] at x1
    obtain ⟨n, hn⟩ : ∃ n, n = m.lb.length := ⟨_, rfl⟩
    have HN := Lib.hid hn
    rw [← hn] at x1
    have HW := Lib.hid (fun w => within_any s n w)
    have hn2 : (n : Int) ≤ 65536 := by have := HK.out.lbs.2.1; omega
    clear hv1
    by_cases hr : 0 ≤ s ∧ s < (n : Int)
    · obtain ⟨k, rfl⟩ : ∃ k : Nat, s = k := ⟨s.toNat, by omega⟩
      have hkn : k < n := by omega
      have HD := Lib.hid (decide_eq_true hr)
      have HI := Lib.hid (toV_yes (c := c) HK.out (show k < m.lb.length by rw [← hn]; exact hkn))
      clear hr hn
      go_wp2_with fail
      refine (HW.out _).mono ?_
      rintro e w2 ⟨rfl, rfl⟩
      rw [HD.out]
      clear x1
      obtain ⟨b1, o1, c1, b2, o2, c2, r, y1, y2, y3, y3', y4, y5⟩ := read_step HX1.out HK.out (Below.refl _ _).drew (show k < m.lb.length by rw [← HN.out]; exact hkn) hc
      rw [← HN.out] at y1
      obtain ⟨t, ht⟩ : ∃ t, t = step m k c := ⟨_, rfl⟩
      obtain ⟨f, hf⟩ : ∃ f, f = m.of c := ⟨_, rfl⟩
      rw [← ht] at y5 HI
      rw [← hf] at y3 y4 y5
      have hc2 : ¬ (256 : Int) ≤ (c : Int) := by omega
      clear ht hf
      go_wp2_with fail
      go_region
      go_wp2_with fail
      go_ret
      exact ⟨Base.ret_int HI.out.symm, HB1.out.drew⟩
    · have HD := Lib.hid (decide_eq_false hr)
      have HI := Lib.hid (toV_out (c := c) (show ¬ (0 ≤ s ∧ s < (m.lb.length : Int)) by rw [← hn]; exact hr))
      clear hr hn
      go_wp2_with fail
      refine (HW.out _).mono ?_
      rintro e w2 ⟨rfl, rfl⟩
      rw [HD.out]
      go_wp2_with fail
      go_ret
      exact ⟨Base.ret_int HI.out.symm, HB1.out⟩
  · have HK := Lib.hid (toV_no (s := s) (c := c) hn)
    clear hs hn hb1
    go_wp2_with fail
    go_ret
    exact ⟨Base.ret_int HK.out.symm, HB1.out⟩
end Go.Proofs.Ytfhddbjojpmbcaa.DfaW
