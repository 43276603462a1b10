/- Walk of the document's Same. -/
import Derived.Test.YthefhkgjadfhgaaDoorSameD
namespace Go.Proofs.YthefhkgjadfhgaaDoor.DfaW
set_option linter.unusedVariables false
open Go.RowKit Go.Maps Go.Proofs.YthefhkgjadfhgaaDoor.PartM Go.Proofs.YthefhkgjadfhgaaDoor.PartW

set_option maxRecDepth 100000 in
set_option maxHeartbeats 4000000 in
theorem refSameD_any {C D : Array Value} {m k : Mc} (w : World) (h : IsM w.heap.size w C m) (h2 : IsM w.heap.size w D k) :
    Calls Tryd.prog 10 #[.agg C, .agg D] w fun e w' => Says e (SameM m k) ∧ Below w.heap.size w w' := by
  obtain ⟨hx, hy⟩ := Bx.new2 h h2
  have hb0 : Below w.heap.size w ((w.alloc (.cells C 27)).alloc (.cells D 27)) := ((Below.refl _ _).alloc (Nat.le_refl _) _).alloc (by simp) _
  have heq := eqArr h.isA h2.isA
  obtain ⟨q, hq⟩ : ∃ q, q = sameA m.of k.of := ⟨_, rfl⟩
  rw [← hq] at heq
  have HQ := Lib.hid hq
  have HX := Lib.hid hx; have HY := Lib.hid hy; have HB0 := Lib.hid hb0
  have x0 := hx.wd; have y0 := hy.wd
  obtain ⟨v1, x1, hv1⟩ := hx.nx
  obtain ⟨u1, y1, hu1⟩ := hy.nx
  obtain ⟨v2, x2, hv2⟩ := hx.lb
  obtain ⟨u2, y2, hu2⟩ := hy.lb
  obtain ⟨a1, c1, rfl, p1, p1', hc1⟩ := hv1.open
  obtain ⟨d1, e1, rfl, r1, r1', hd1⟩ := hu1.open
  obtain ⟨n, hn⟩ : ∃ n, n = m.nx.length := ⟨_, rfl⟩
  obtain ⟨n', hn'⟩ : ∃ n, n = k.nx.length := ⟨_, rfl⟩
  have hm : (n : Int) ≤ 9223372036854775807 := by unfold maxLen at p1'; omega
  have hm' : (n' : Int) ≤ 9223372036854775807 := by unfold maxLen at r1'; omega
  have HL := Lib.hid (show n = m.nx.length ∧ n' = k.nx.length from ⟨hn, hn'⟩)
  rw [← hn] at x1 hc1
  rw [← hn'] at y1 hd1
  have HC1 := Lib.hid hc1; have HD1 := Lib.hid hd1
  have HE := Lib.hid (Same17_any _ (Nat.le_refl _) (Nat.le_refl _) hv2 hu2)
  obtain ⟨a2, c2, rfl, _, _, _⟩ := hv2.open
  obtain ⟨d2, e2, rfl, _, _, _⟩ := hu2.open
  clear h h2 hx hy hb0 hq hv1 hu1 hv2 hu2 p1 p1' r1 r1' hc1 hd1 hn hn'
  cases q with
  | false =>
    go_enter Tryd.func10, Tryd.ntmps10
    go_wp2_with (first | (refine wpList_load_of rfl (.tmp 6) rfl rfl HX.out ?_) | (refine wpList_load_of rfl (.tmp 8) rfl rfl HY.out ?_))
    go_ret
    exact ⟨Says.no fun h => (by have := HQ.out; rw [h.of] at this; cases this), HB0.out⟩
  | true =>
    by_cases hw : m.wd = k.wd
    case neg =>
      have t0 : (m.wd != k.wd) = true := by simpa using hw
      have HW := Lib.hid hw
      clear hw
      go_enter Tryd.func10, Tryd.ntmps10
      go_wp2_with (first | (refine wpList_load_of rfl (.tmp 6) rfl rfl HX.out ?_) | (refine wpList_load_of rfl (.tmp 8) rfl rfl HY.out ?_))
      go_ret
      exact ⟨Says.no fun h => HW.out h.wd, HB0.out⟩
    have t0 : (m.wd != k.wd) = false := by simpa using hw
    have HW := Lib.hid hw
    clear hw
    by_cases hq : n = n'
    case neg =>
      have t1 : ((n : Int) != (n' : Int)) = true := by simp; omega
      have HQ2 := Lib.hid hq
      clear hq
      go_enter Tryd.func10, Tryd.ntmps10
      go_wp2_with (first | (refine wpList_load_of rfl (.tmp 6) rfl rfl HX.out ?_) | (refine wpList_load_of rfl (.tmp 8) rfl rfl HY.out ?_))
      go_ret
      exact ⟨Says.no fun h => HQ2.out (by rw [HL.out.1, HL.out.2, h.nx]), HB0.out⟩
    subst hq
    go_enter Tryd.func10, Tryd.ntmps10
    go_wp2_with (first | (refine wpList_load_of rfl (.tmp 6) rfl rfl HX.out ?_) | (refine wpList_load_of rfl (.tmp 8) rfl rfl HY.out ?_))
    refine HE.out.mono ?_
    rintro e w1 ⟨hs, hb1⟩
    replace hb1 := hb1.below (B := ((w.alloc (.cells C 27)).alloc (.cells D 27)).heap.size)
    obtain ⟨B, hB⟩ : ∃ B, B = w.heap.size := ⟨_, rfl⟩
    have HW0 := Lib.hid (show Below w.heap.size w ((w.alloc (.cells C 27)).alloc (.cells D 27)) ∧ B + 1 < ((w.alloc (.cells C 27)).alloc (.cells D 27)).heap.size from ⟨HB0.out, by simp; omega⟩)
    rw [← hB] at x1 y1 HX HY ⊢
    clear HB0 hB x0 y0 x2 y2
    generalize ((w.alloc (.cells C 27)).alloc (.cells D 27)) = W0 at *
    have HX1 := Lib.hid x1; have HY1 := Lib.hid y1
    clear x1 y1
    have HF : Hid (∀ W, Below W0.heap.size W0 W → W.cell? ⟨B, 257, none⟩ = some (.slice a1 n c1) ∧ W.cell? ⟨B + 1, 257, none⟩ = some (.slice d1 n e1) ∧ Below w.heap.size w W) :=
      Lib.hid fun W hW => ⟨(hW.cell (p := ⟨B, _, none⟩) (by have := HW0.out.2; simp; omega)).trans HX1.out, (hW.cell (p := ⟨B + 1, _, none⟩) HW0.out.2).trans HY1.out, HW0.out.1.trans (hW.mono HW0.out.1.size)⟩
    rcases hs.elim with ⟨rfl, hn⟩ | ⟨rfl, hn⟩
    · have H1 := Lib.hid hn
      have hX1 := HX.out.below hb1
      have hY1 := HY.out.below hb1
      obtain ⟨v3, x3, hv3⟩ := hX1.nm
      obtain ⟨u3, y3, hu3⟩ := hY1.nm
      have HN := Lib.hid (Texts_any _ (Nat.le_refl _) (Nat.le_refl _) hv3 hu3)
      obtain ⟨a3, c3, rfl, _, _, _⟩ := hv3.open
      obtain ⟨d3, e3, rfl, _, _, _⟩ := hu3.open
      have HB1 := Lib.hid hb1
      clear hn hs hX1 hY1 hv3 hu3 hb1
      go_wp2_with fail
      refine HN.out.mono ?_
      rintro e w2 ⟨hs, hb2⟩
      have HB2 := Lib.hid (HB1.out.trans (hb2.below (B := W0.heap.size)))
      clear hb2 x3 y3
      rcases hs.elim with ⟨rfl, hn⟩ | ⟨rfl, hn⟩
      · have H2 := Lib.hid hn
        clear hn hs
        go_wp2_with fail
        go_loopw [5] (fun i wr => ∃ j : Nat, j ≤ n ∧ i = .int .i64 j ∧ Hid (∀ i, i < j → m.nx.getD i [] = k.nx.getD i []) ∧ Below W0.heap.size W0 wr) (fun i _ => n - (intOf i).toNat)
        case atStart => exact ⟨0, Nat.zero_le _, rfl, Lib.hid fun j hj => absurd hj (Nat.not_lt_zero _), HB2.out⟩
        case round =>
          obtain ⟨j, hj, rfl, HA, hb⟩ := hrel
          clear HB2
          by_cases hlt : j < n
          · obtain ⟨x1, y1, hbw⟩ := HF.out _ hb
            obtain ⟨b, o, vi, rfl, hb1, hc1, hi1⟩ := HC1.out j hlt
            obtain ⟨b', o', vi', rfl, hb2, hc2, hi2⟩ := HD1.out j hlt
            have c1 := (hb.cell (p := ⟨b, o + j, none⟩) hb1).trans hc1
            have c2 := (hb.cell (p := ⟨b', o' + j, none⟩) hb2).trans hc2
            have HE := Lib.hid (fun n => Same17_q wr n hb.size hb.size (hi1.below hb) (hi2.below hb))
            obtain ⟨ai, ci, rfl, _, _, _⟩ := hi1.open
            obtain ⟨ai', ci', rfl, _, _, _⟩ := hi2.open
            obtain ⟨x, hx⟩ : ∃ x, x = m.nx.getD j [] := ⟨_, rfl⟩
            obtain ⟨y, hy⟩ : ∃ y, y = k.nx.getD j [] := ⟨_, rfl⟩
            rw [← hx] at c1
            rw [← hy] at c2
            rw [← hx, ← hy] at HE
            have HXY := Lib.hid (show x = m.nx.getD j [] ∧ y = k.nx.getD j [] from ⟨hx, hy⟩)
            have HB := Lib.hid hb
            have HLT := Lib.hid hlt
            obtain ⟨q, hq⟩ : ∃ q, q = (x == y) := ⟨_, rfl⟩
            rw [← hq] at HE
            have HQ2 := Lib.hid hq
            obtain ⟨lx, hlx⟩ : ∃ n, n = x.length := ⟨_, rfl⟩
            obtain ⟨ly, hly⟩ : ∃ n, n = y.length := ⟨_, rfl⟩
            rw [← hlx] at c1 HE
            rw [← hly] at c2 HE
            clear hb1 hb2 hc1 hc2 hx hy hb hi1 hi2 hq hlx hly hbw
            cases q with
            | true =>
              go_wp2_with fail
              go_quiet ((go_at_call 17; exact HE.out _))
              go_wp2_with fail
              refine ⟨⟨j + 1, HLT.out, by go_num, Lib.hid fun i hi => ?_, below_drewN HB.out _⟩, by have := HLT.out; simp [intOf]; omega⟩
              by_cases e : i = j
              · subst e; rw [← HXY.out.1, ← HXY.out.2]; exact eq_of_beq HQ2.out.symm
              · exact HA.out i (by omega)
            | false =>
              go_wp2_with fail
              go_quiet ((go_at_call 17; exact HE.out _))
              go_wp2_with fail
              go_ret
              refine ⟨Says.no fun e => ?_, (HF.out _ (below_drewN HB.out _)).2.2⟩
              have := HQ2.out
              rw [HXY.out.1, HXY.out.2, e.nx, beq_self_eq_true] at this
              cases this
          · have hjn : j = n := by omega
            subst hjn
            obtain ⟨x1, y1, hbw⟩ := HF.out _ hb
            have HB := Lib.hid hbw
            have HE := Lib.hid (same_of_getD (d := []) (show m.nx.length = k.nx.length by rw [← HL.out.1]; exact HL.out.2) (fun i hi => HA.out i (by rw [HL.out.1]; exact hi)))
            clear hb hbw
            go_wp2_with fail
            go_ret
            exact ⟨Says.yes ⟨HQ.out.symm, HW.out, HE.out, H1.out, H2.out⟩, HB.out⟩
      · have H2 := Lib.hid hn
        clear hn hs
        go_wp2_with fail
        go_ret
        exact ⟨Says.no fun h => H2.out h.nm, (HF.out _ HB2.out).2.2⟩
    · have H1 := Lib.hid hn
      have HB1 := Lib.hid hb1
      clear hn hs hb1
      go_wp2_with fail
      go_ret
      exact ⟨Says.no fun h => H1.out h.lb, (HF.out _ HB1.out).2.2⟩
end Go.Proofs.YthefhkgjadfhgaaDoor.DfaW
