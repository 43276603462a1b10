/- Walk of layer 15: Put, of pairs of numbers. -/
import Derived.Test.YtkgklccafebcbaaPutS
import Derived.Test.YtkgklccafebcbaaAskP
import Derived.Deep.AppendLies
import Derived.Deep.RegionLaw
namespace Go.Proofs.Ytkgklccafebcbaa.IntW
set_option linter.unusedVariables false
open Go.RowKit Go.Maps

theorem infoP : (Try.prog.info? 46).map (fun i => (i.zero, i.size, i.bytes)) = some (some (.agg #[.int .i64 0, .int .i64 0]), 2, 16) := by kernel_rfl
theorem eqPair (a b a' b' : Int) (w : World) : (Op.equalIn 10000 46 (.agg #[.int .i64 a, .int .i64 b]) (.agg #[.int .i64 a', .int .i64 b'])).run Try.prog w = .ok (a == a' && b == b') w := by
  have u3 := Try.underlying3
  have a3 := Try.isAgg3
  have z3 := Try.sizeOf3
  rw [show (10000 : Nat) = 9999 + 1 from rfl, Op.equalIn]
  simp only [Sem.run_bind, run_underlying Try.underlying46, Result.andThen_ok]
  simp only [Std.Legacy.Range.forIn_eq_forIn_range', Std.Legacy.Range.size, Nat.sub_zero, Nat.add_sub_cancel, Nat.div_one, List.range'_succ, List.range'_zero, List.forIn_cons, List.forIn_nil]
  go_simp
  by_cases h1 : a = a' <;> by_cases h2 : b = b' <;> simp [h1, h2]
theorem cell_two (w : World) (x y : Value) (t : TypeId) : ∀ j u, [x, y][j]? = some u → (w.alloc (.cells #[x, y] t)).cell? ((⟨w.heap.size, 0, none⟩ : Addr).add j) = some u := by
  intro j u hj
  match j, hj with
  | 0, hj => simp at hj; subst hj; simp [Addr.add]
  | 1, hj => simp at hj; subst hj; simp [Addr.add]
set_option maxHeartbeats 1000000 in
theorem PutP (x y : Int) (hx0 : (Lit.int .i64 x).wf = true) (hy0 : (Lit.int .i64 y).wf = true) {w : World} {p m : Nat} {v : Value} {l : List Value} {N : Nat} (h : TblP w p m v l N) (hN : N ≤ 1000000) :
    Calls Try.prog 20 #[.pointer (some ⟨p, 0, none⟩), .agg #[.int .i64 x, .int .i64 y]] w (PutR 46 65 2 w p m v l N (.agg #[.int .i64 x, .int .i64 y])) := by
  have hal : Below w.heap.size w (w.alloc (.cells #[.int .i64 x, .int .i64 y] 46)) := (Below.refl _ w).alloc (Nat.le_refl _) _
  have HL := Lib.hid (lookP x y hx0 hy0 (h.below hal))
  have HT := Lib.hid h
  clear h
  by_cases hx : (Value.agg #[.int .i64 x, .int .i64 y]) ∈ l
  · have HX := Lib.hid hx
    clear hx
    go_enter Try.func20, Try.ntmps20
    go_wp2_with fail
    refine HL.out.mono ?_
    rintro e w1 ⟨i, hi, rfl, hb⟩
    have hge : (0 : Int) ≤ i := by
      rcases hi with ⟨j, rfl, _⟩ | ⟨_, h⟩
      · omega
      · exact absurd HX.out h
    have HI := Lib.hid hi; have HB := Lib.hid (hal.trans (hb.mono (by simp)))
    clear hi hb HL
    go_wp2_with fail
    go_ret2
    exact ⟨v, l, i, false, rfl, (HT.out.below HB.out).mono (by omega), But.of _ HB.out, fun c h => .inl h, .inl ⟨HX.out, rfl, rfl, HI.out⟩⟩
  · have HX := Lib.hid hx
    clear hx
    go_enter Try.func20, Try.ntmps20
    go_wp2_with fail
    refine HL.out.mono ?_
    rintro e w1 ⟨i, hi, rfl, hb⟩
    obtain rfl : i = -1 := by
      rcases hi with ⟨j, rfl, h⟩ | ⟨h, _⟩
      · exact absurd (List.mem_of_getElem? h) HX.out
      · exact h
    have hT := (HT.out.below hal).below hb
    have HB := Lib.hid (hal.trans (hb.mono (by simp)))
    have HB1 := Lib.hid hb
    clear hi hb HL
    have c0 := hT.c0
    have c1 := hT.c1
    have f1 := hT.f1 1
    obtain ⟨a, c, rfl, _, _⟩ := hT.shape
    obtain ⟨xs, hrow, -⟩ := hT.row
    have hlen := hT.len
    have HT1 := Lib.hid hT
    clear hT
    obtain ⟨L, hL⟩ : ∃ L, L = l.length := ⟨_, rfl⟩
    rw [← hL] at HT1 HT c1 hrow hlen
    have HLN := Lib.hid hL
    have HW := Lib.hid (show L + 1 ≤ maxLen ∧ (L + 1) * 16 ≤ 140737488355328 ∧ (Lit.int .i64 (L : Int)).wf = true ∧ N < maxLen from ⟨by unfold maxLen; omega, by omega, WalkArith.wf_i64 (by omega), by unfold maxLen; omega⟩)
    clear hL hlen hN
    obtain ⟨i0, hi, hz0, hz1, hz2⟩ := info_parts infoP
    obtain ⟨lx, hkey⟩ := keyP hx0 hy0
    have hlt := HT.out.lt (b := p) (.inl rfl)
    have hpb : p ≠ w.heap.size := by omega
    have q0 : w1.cell? ⟨w.heap.size, 0, none⟩ = some (.int .i64 x) := by rw [HB1.out.cell (p := ⟨w.heap.size, 0, none⟩) (by simp)]; simp
    have q1 : w1.cell? ⟨w.heap.size, 1, none⟩ = some (.int .i64 y) := by rw [HB1.out.cell (p := ⟨w.heap.size, 1, none⟩) (by simp)]; simp
    have HVB := Lib.hid (show (Value.slice a L c).ownBlock ≠ some w.heap.size from fun e => by have := HT.out.lt (b := w.heap.size) (.inr (.inr e)); omega)
    have hq : ∀ w, (Op.equalIn 10000 46 (.agg #[.int .i64 x, .int .i64 y]) (.agg #[.int .i64 x, .int .i64 y])).run Try.prog w = .ok true w := fun w => by rw [eqPair]; simp
    have hs1 := HB1.out.size
    simp only [World.size_alloc] at hs1
    have hsz : w.heap.size < w1.heap.size := by omega
    have hpw : p < w1.heap.size := by omega
    go_wp2_with fail
    go_region_law (refine step_append_lies _ rfl (.tmp 30) (.tmp 32) 63 rfl 0 46 i0 (.agg #[.int .i64 0, .int .i64 0]) 2 16 Try.underlying63 hi hz0 hz1 hz2 rfl (by decide) (.slice a L c) L xs (by simp [Act.eval]) (hrow.alloc _).drew ⟨w1.heap.size, 0, none⟩ 1 1 [.int .i64 x, .int .i64 y] (by simp [Act.eval]) rfl (cell_two w1 _ _ _) (by simp [Value.oneCell']) (by decide) HW.out.1 HW.out.2.1 (Nat.zero_le _) (w1.heap.size + 1) (by simp) ?_; intro g2 cap2 w2 hown hg hat hlt2; have HP := Lib.hid (pushed_of (k := 46) (T := 65) (tI := 3) (s := 2) (l := l) (x := .agg #[.int .i64 x, .int .i64 y]) (N := N) (tmp := .cells #[.int .i64 x, .int .i64 y] 46) (v' := .slice (some ⟨g2, 0, none⟩) (L + 1) cap2) (by decide) HT1.out (fun h => by simp at h) (fun h => by simp at h) (by rw [← HLN.out]; exact hown) ⟨hg.os, hg.tape, hg.output, hg.size, hg.block⟩ (by rcases hat with h | h; exact .inl h.symm; exact .inr (by simp [Value.ownBlock, h]))); clear hown hg hat hlt2; have d0 := HP.out.c0; have d1 := HP.out.c1; have g1 := HP.out.f1; have r0 := (HP.out.but.cell (p := ⟨w.heap.size, 0, none⟩) hsz HVB.out).trans q0; have r1 := (HP.out.but.cell (p := ⟨w.heap.size, 1, none⟩) hsz HVB.out).trans q1; obtain ⟨D, hD, hrd⟩ := HP.out.map; have HRD := Lib.hid hrd; clear hrd)
    all_goals
      have s0 : (w2.setCell ⟨p, 1, none⟩ (.slice (some ⟨g2, 0, none⟩) (L + 1) cap2)).cell? ⟨p, 0, none⟩ = some (.map (some m)) := by rw [World.cell?_setCell_other _ _ _ _ (by simp)]; exact d0
      have s1 : (w2.setCell ⟨p, 1, none⟩ (.slice (some ⟨g2, 0, none⟩) (L + 1) cap2)).cell? ⟨w.heap.size, 0, none⟩ = some (.int .i64 x) := by rw [World.cell?_setCell_other _ _ _ _ (by simp)]; exact r0
      have s2 : (w2.setCell ⟨p, 1, none⟩ (.slice (some ⟨g2, 0, none⟩) (L + 1) cap2)).cell? ⟨w.heap.size, 1, none⟩ = some (.int .i64 y) := by rw [World.cell?_setCell_other _ _ _ _ (by simp)]; exact r1
      generalize hW3 : w2.setCell ⟨p, 1, none⟩ (.slice (some ⟨g2, 0, none⟩) (L + 1) cap2) = W3 at *
      have HW3 := Lib.hid hW3
      clear hW3
      obtain ⟨w4, hrun, hD4, hg4⟩ := hD.drew.update lawP Try.underlying62 HW.out.2.2.2 hkey (plainElem_int Try.underlying3 HW.out.2.2.1)
      go_wp2_with fail
      go_region
    all_goals
      go_wp2_with fail
      go_ret2
      have hlen := HLN.out
      subst hlen
      have hw3 := HW3.out
      subst hw3
      exact put_done (by decide) lawP HT1.out HB.out HX.out hkey HP.out hD HRD.out hD4 ⟨hg4.os, hg4.tape, hg4.output, hg4.size, hg4.block⟩
end Go.Proofs.Ytkgklccafebcbaa.IntW
