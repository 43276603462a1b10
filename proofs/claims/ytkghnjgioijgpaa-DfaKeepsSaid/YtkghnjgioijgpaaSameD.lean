/- Walks of Same, in both texts. -/
import Derived.Test.YtkghnjgioijgpaaSameL
namespace Go.Proofs.Ytkghnjgioijgpaa.DfaW
set_option linter.unusedVariables false
open Go.RowKit Go.Maps Go.Proofs.Ytkghnjgioijgpaa.PartM Go.Proofs.Ytkghnjgioijgpaa.PartW

/-- Two machines are the same, field by field. -/
structure SameM (a b : Mc) : Prop where
  of : sameA a.of b.of = true
  wd : a.wd = b.wd
  nx : a.nx = b.nx
  lb : a.lb = b.lb
  nm : a.nm = b.nm
theorem Bx.new2 {w : World} {C D : Array Value} {m k : Mc} (h : IsM w.heap.size w C m) (h2 : IsM w.heap.size w D k) :
    Bx ((w.alloc (.cells C 27)).alloc (.cells D 27)) w.heap.size C m ∧ Bx ((w.alloc (.cells C 27)).alloc (.cells D 27)) (w.heap.size + 1) D k := by
  refine ⟨(Bx.new h).alloc _, ?_⟩
  have hb0 : Below w.heap.size w (w.alloc (.cells C 27)) := (Below.refl _ _).alloc (Nat.le_refl _) _
  have := Bx.new (h2.next hb0)
  rw [World.size_alloc] at this
  exact this

set_option maxRecDepth 100000 in
set_option maxHeartbeats 4000000 in
theorem SameD_any {C D : Array Value} {m k : Mc} (w : World) (h : IsM w.heap.size w C m) (h2 : IsM w.heap.size w D k) :
    Calls Try.prog 10 #[.agg C, .agg D] w fun e w' => Says e (SameM m k) ∧ Below w.heap.size w w' := by
  obtain ⟨hx, hy⟩ := Bx.new2 h h2
  have hb0 : Below w.heap.size w ((w.alloc (.cells C 27)).alloc (.cells D 27)) := ((Below.refl _ _).alloc (Nat.le_refl _) _).alloc (by simp) _
  have heq := eqArr h.isA h2.isA
  obtain ⟨q, hq⟩ : ∃ q, q = sameA m.of k.of := ⟨_, rfl⟩
  rw [← hq] at heq
  have HQ := Lib.hid hq
  have HX := Lib.hid hx; have HY := Lib.hid hy; have HB0 := Lib.hid hb0
  have x0 := hx.wd; have y0 := hy.wd
  obtain ⟨v1, x1, hv1⟩ := hx.nx
  obtain ⟨u1, y1, hu1⟩ := hy.nx
  have HE := Lib.hid (EqualFunc_any _ hv1 hu1)
  obtain ⟨a1, c1, rfl, _, _, _⟩ := hv1.open
  obtain ⟨d1, e1, rfl, _, _, _⟩ := hu1.open
  have hsz : ((w.alloc (.cells C 27)).alloc (.cells D 27)).heap.size = w.heap.size + 2 := by simp
  have HSZ := Lib.hid hsz
  clear h h2 hx hy hb0 hq hv1 hu1 hsz
  cases q with
  | false =>
    go_enter Try.func10, Try.ntmps10
    go_wp2_with (first | (refine wpList_load_of rfl (.tmp 5) rfl rfl HX.out ?_) | (refine wpList_load_of rfl (.tmp 7) rfl rfl HY.out ?_))
    go_ret
    exact ⟨Says.no fun h => (by have := HQ.out; rw [h.of] at this; cases this), HB0.out⟩
  | true =>
    by_cases hw : m.wd = k.wd
    case neg =>
      have t0 : (m.wd == k.wd) = false := by simpa using hw
      have HW := Lib.hid hw
      clear hw
      go_enter Try.func10, Try.ntmps10
      go_wp2_with (first | (refine wpList_load_of rfl (.tmp 5) rfl rfl HX.out ?_) | (refine wpList_load_of rfl (.tmp 7) rfl rfl HY.out ?_))
      go_ret
      exact ⟨Says.no fun h => HW.out h.wd, HB0.out⟩
    have t0 : (m.wd == k.wd) = true := by simpa using hw
    have HW := Lib.hid hw
    clear hw
    go_enter Try.func10, Try.ntmps10
    go_wp2_with (first | (refine wpList_load_of rfl (.tmp 5) rfl rfl HX.out ?_) | (refine wpList_load_of rfl (.tmp 7) rfl rfl HY.out ?_))
    refine HE.out.mono ?_
    rintro e w1 ⟨hs, hb1⟩
    have hX1 := HX.out.below hb1
    have hY1 := HY.out.below hb1
    have HB1 := Lib.hid (HB0.out.trans (hb1.mono HB0.out.size))
    clear hb1 x0 y0 x1 y1 t0
    rcases hs.elim with ⟨rfl, hn⟩ | ⟨rfl, hn⟩
    · have H1 := Lib.hid hn
      clear hn hs
      obtain ⟨v2, x2, hv2⟩ := hX1.lb
      obtain ⟨u2, y2, hu2⟩ := hY1.lb
      obtain ⟨v3, x3, hv3⟩ := hX1.nm
      obtain ⟨u3, y3, hu3⟩ := hY1.nm
      have HL := Lib.hid (EqualI_any hv2 hu2)
      obtain ⟨a2, c2, rfl, _, _, _⟩ := hv2.open
      obtain ⟨d2, e2, rfl, _, _, _⟩ := hu2.open
      obtain ⟨q, hq⟩ : ∃ q, q = (m.lb == k.lb) := ⟨_, rfl⟩
      rw [← hq] at HL
      have HQ2 := Lib.hid hq
      have HX1 := Lib.hid hX1; have HY1 := Lib.hid hY1
      clear hX1 hY1 hv2 hu2 hv3 hu3 hq x3 y3
      go_wp2_with fail
      refine HL.out.mono ?_
      rintro e w2 ⟨rfl, hb2⟩
      have hX2 := HX1.out.below hb2
      have hY2 := HY1.out.below hb2
      have HB2 := Lib.hid (HB1.out.trans (hb2.mono HB1.out.size))
      clear hb2 x2 y2
      cases q with
      | true =>
        obtain ⟨v3, x3, hv3⟩ := hX2.nm
        obtain ⟨u3, y3, hu3⟩ := hY2.nm
        have HN := Lib.hid (EqualS_any hv3 hu3)
        obtain ⟨a3, c3, rfl, _, _, _⟩ := hv3.open
        obtain ⟨d3, e3, rfl, _, _, _⟩ := hu3.open
        obtain ⟨q, hq⟩ : ∃ q, q = decide (m.nm = k.nm) := ⟨_, rfl⟩
        rw [← hq] at HN
        have HQ3 := Lib.hid hq
        clear hX2 hY2 hv3 hu3 hq
        go_wp2_with fail
        refine HN.out.mono ?_
        rintro e w3 ⟨rfl, hb3⟩
        have HB3 := Lib.hid (HB2.out.trans (hb3.mono HB2.out.size))
        clear hb3 x3 y3
        cases q with
        | true =>
          go_wp2_with fail
          go_ret
          exact ⟨Says.yes ⟨HQ.out.symm, HW.out, H1.out, eq_of_beq HQ2.out.symm, of_decide_eq_true HQ3.out.symm⟩, HB3.out⟩
        | false =>
          go_wp2_with fail
          go_ret
          exact ⟨Says.no fun h => of_decide_eq_false HQ3.out.symm h.nm, HB3.out⟩
      | false =>
        clear hX2 hY2
        go_wp2_with fail
        go_ret
        exact ⟨Says.no fun h => (by have := HQ2.out; rw [h.lb, beq_self_eq_true] at this; cases this), HB2.out⟩
    · have H1 := Lib.hid hn
      clear hn hs hX1 hY1
      go_wp2_with fail
      go_ret
      exact ⟨Says.no fun h => H1.out h.nx, HB1.out⟩

end Go.Proofs.Ytkghnjgioijgpaa.DfaW
