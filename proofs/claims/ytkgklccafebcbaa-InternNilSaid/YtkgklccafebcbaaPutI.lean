/- Walk of layer 15: Put, of numbers. -/
import Derived.Test.YtkgklccafebcbaaPutS
import Derived.Test.YtkgklccafebcbaaAskI
namespace Go.Proofs.Ytkgklccafebcbaa.IntW
set_option linter.unusedVariables false
open Go.RowKit Go.Maps

theorem infoI : (Try.prog.info? 3).map (fun i => (i.zero, i.size, i.bytes)) = some (some (.int .i64 0), 1, 8) := by kernel_rfl
set_option maxHeartbeats 1000000 in
theorem PutI (s : Int) (hs : (Lit.int .i64 s).wf = true) {w : World} {p m : Nat} {v : Value} {l : List Value} {N : Nat} (h : TblI w p m v l N) (hN : N ≤ 1000000) :
    Calls Try.prog 19 #[.pointer (some ⟨p, 0, none⟩), .int .i64 s] w (PutR 3 61 1 w p m v l N (.int .i64 s)) := by
  have HL := Lib.hid (lookI s hs h)
  have HT := Lib.hid h
  clear h
  by_cases hx : (Value.int .i64 s) ∈ l
  · have HX := Lib.hid hx
    clear hx
    go_enter Try.func19, Try.ntmps19
    go_wp2_with fail
    refine HL.out.mono ?_
    rintro e w1 ⟨i, hi, rfl, hb⟩
    have hge : (0 : Int) ≤ i := by
      rcases hi with ⟨j, rfl, _⟩ | ⟨_, h⟩
      · omega
      · exact absurd HX.out h
    have HI := Lib.hid hi; have HB := Lib.hid hb
    clear hi hb HL
    go_wp2_with fail
    go_ret2
    exact ⟨v, l, i, false, rfl, (HT.out.below HB.out).mono (by omega), But.of _ HB.out, fun c h => .inl h, .inl ⟨HX.out, rfl, rfl, HI.out⟩⟩
  · have HX := Lib.hid hx
    clear hx
    go_enter Try.func19, Try.ntmps19
    go_wp2_with fail
    refine HL.out.mono ?_
    rintro e w1 ⟨i, hi, rfl, hb⟩
    obtain rfl : i = -1 := by
      rcases hi with ⟨j, rfl, h⟩ | ⟨h, _⟩
      · exact absurd (List.mem_of_getElem? h) HX.out
      · exact h
    have hT := HT.out.below hb
    have HB := Lib.hid hb
    clear hi hb HL
    have c0 := hT.c0
    have c1 := hT.c1
    have f1 := hT.f1 1
    obtain ⟨a, c, rfl, _, _⟩ := hT.shape
    obtain ⟨xs, hrow, hxs⟩ := hT.row
    have HXS := Lib.hid (hxs rfl)
    have hlen := hT.len
    have HT1 := Lib.hid hT
    clear hT hxs
    obtain ⟨L, hL⟩ : ∃ L, L = l.length := ⟨_, rfl⟩
    rw [← hL] at HT1 HT c1 hrow hlen
    have HLN := Lib.hid hL
    have HW := Lib.hid (show L + 1 ≤ maxLen ∧ (L + 1) * 8 ≤ 140737488355328 ∧ (Lit.int .i64 (L : Int)).wf = true ∧ N < maxLen from ⟨by unfold maxLen; omega, by omega, WalkArith.wf_i64 (by omega), by unfold maxLen; omega⟩)
    clear hL hlen hN
    obtain ⟨i0, hi, hz0, hz1, hz2⟩ := info_parts infoI
    have hkey := keyOf_int_mk (P := Try.prog) Try.underlying3 hs
    have hse : (s == s) = true := by simp
    go_wp2_with (first | (at_builtin; refine wpList_append_own_at _ rfl (.tmp 30) (.tmp 32) 41 rfl 0 3 i0 (.int .i64 0) 1 8 Try.underlying41 hi hz0 hz1 hz2 rfl (by decide) _ _ _ rfl (hrow.alloc _) ⟨w1.heap.size, 0, none⟩ 1 1 [.int .i64 s] rfl rfl (cell_one_new _ _ _) (by simp [Value.oneCell']) HW.out.1 HW.out.2.1 (Nat.zero_le _) ?_; intro v2 w2 hown hg _ hat; obtain ⟨g2, cap2, rfl⟩ := owns_succ hown; have HP := Lib.hid (pushed_of (k := 3) (T := 61) (tI := 3) (s := 1) (l := l) (x := .int .i64 s) (N := N) (by decide) HT1.out (fun _ => rfl) (fun _ => HXS.out) (by rw [← HLN.out]; exact hown) hg hat); clear hown hg hat; have d0 := HP.out.c0; have d1 := HP.out.c1; have g1 := HP.out.f1; obtain ⟨D, hD, hrd⟩ := HP.out.map; have HRD := Lib.hid hrd; clear hrd) | (at_mapUpdate; refine wpList_mapUpdate_own _ rfl _ _ _ 59 rfl 3 3 lawI Try.underlying59 _ m N D rfl hD HW.out.2.2.2 _ _ _ rfl rfl hkey _ [] (plainElem_int Try.underlying3 HW.out.2.2.1) ?_; intro w4 hD4 hg4))
    go_ret2
    have hlen := HLN.out
    subst hlen
    exact put_done (by decide) lawI HT1.out HB.out HX.out hkey HP.out hD HRD.out hD4 hg4
end Go.Proofs.Ytkgklccafebcbaa.IntW
