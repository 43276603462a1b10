/- Walk of DfaMeets. -/
import Derived.Test.YtkghnjgioijgpaaAsks
namespace Go.Proofs.Ytkghnjgioijgpaa.DfaW
set_option linter.unusedVariables false
set_option linter.unusedSimpArgs false
open Go.Proofs.Ytkghnjgioijgpaa.RegionU (Up wpU_taken wpU_one wpU_mono wpU_done wp_region_U does)
open Go.RowKit Go.Maps Go.Proofs.Ytkghnjgioijgpaa.PartM Go.Proofs.Ytkghnjgioijgpaa.PartW Go.Proofs.Ytkghnjgioijgpaa.DfaM
set_option maxRecDepth 100000 in
theorem small_any {C : Array Value} {m : Mc} (w : World) (h : IsM w.heap.size w C m) :
    Calls Try.prog 23 #[.agg C] w fun e w' => e = .returned (.bool (decide (m.lb.length ≤ 200))) ∧ Below w.heap.size w w' := by
  have hx := Bx.new h
  have hb0 : Below w.heap.size w (w.alloc (.cells C 27)) := (Below.refl _ _).alloc (Nat.le_refl _) _
  obtain ⟨v2, x2, hv2⟩ := hx.lb
  obtain ⟨a2, c2, rfl, _, _, _⟩ := hv2.open
  have HB0 := Lib.hid hb0
  obtain ⟨n, hn⟩ : ∃ n, n = m.lb.length := ⟨_, rfl⟩
  rw [← hn] at x2 ⊢
  have hle : decide ((n : Int) ≤ 200) = decide (n ≤ 200) := by rw [decide_eq_decide]; omega
  clear h hx hb0 hv2 hn
  go_enter Try.func23, Try.ntmps23
  go_wp2_with fail
  go_ret
  exact ⟨rfl, HB0.out⟩
set_option maxRecDepth 100000 in
set_option maxHeartbeats 4000000 in
theorem DfaMeets_any {C : Array Value} {m : Mc} (w : World) (h : IsM w.heap.size w C m) :
    Calls Try.prog 5 #[.agg C] w fun e w' => e = .returned (.bool true) ∧ Below w.heap.size w w' := by
  have hx := Bx.new h
  have hb0 : Below w.heap.size w (w.alloc (.cells C 27)) := (Below.refl _ _).alloc (Nat.le_refl _) _
  have HX := Lib.hid hx; have HB0 := Lib.hid hb0
  clear h hx hb0
  go_enter Try.func5, Try.ntmps5
  go_wp2_with (refine wpList_load_dfa rfl (.tmp 1) rfl rfl HX.out ?_)
  refine (refRightD_any _ HX.out.is).mono ?_
  rintro e w1 ⟨hs, hb⟩
  have HX1 := Lib.hid (HX.out.below hb); have HB1 := Lib.hid (HB0.out.trans (hb.mono HB0.out.size))
  clear hb HB0 HX
  obtain ⟨b, hb⟩ : ∃ b, b = w.heap.size := ⟨_, rfl⟩
  rw [← hb] at HX1 ⊢
  clear hb
  have HD := Lib.hid (KD.of HX1.out (Below.refl _ _).drew)
  rcases hs.elim with ⟨rfl, hk⟩ | ⟨rfl, hk⟩
  · have HK := Lib.hid hk
    have e1 := reachV_yes hk; have e2 := liveV_yes hk
    obtain ⟨R, hR⟩ : ∃ R, R = castL (reachL m) := ⟨_, rfl⟩
    obtain ⟨V, hV⟩ : ∃ V, V = castL (liveL m) := ⟨_, rfl⟩
    have H1 := Lib.hid (fun W (h : IsM W.heap.size W C m) => by have := Reach_any W h; rw [e1, ← hR] at this; exact this)
    have H2 := Lib.hid (fun W (h : IsM W.heap.size W C m) => by have := refReach_any W h HK.out; rw [← hR] at this; exact this)
    have H3 := Lib.hid (fun W (h : IsM W.heap.size W C m) => by have := Live_any W h; rw [e2, ← hV] at this; exact this)
    have H4 := Lib.hid (fun W (h : IsM W.heap.size W C m) => by have := refLive_any W h HK.out; rw [← hV] at this; exact this)
    have H5 := Lib.hid (fun W u1 u2 B1 B2 X (h1 : OI W B1 u1 X) (h2 : OI W B2 u2 X) => (Same17_any W (Nat.le_refl _) (Nat.le_refl _) h1.is h2.is).mono fun e w' (x : Says e (X = X) ∧ Dr W w') => And.intro (x.1.bool (b := true) (by simp)) (x.2.below (B := W.heap.size)))
    have HM := Lib.hid (fun W (h : IsM W.heap.size W C m) => small_any W h)
    obtain ⟨q, hq⟩ : ∃ q, q = decide (m.lb.length ≤ 200) := ⟨_, rfl⟩
    rw [← hq] at HM
    clear hs hk e1 e2 hR hV hq
    go_wp2_with fail
    refine wp_region_U (by kernel_rfl) (KD.up w1 b C m) HD.out ?_
    refine wpU_taken (i := 0) rfl (by kernel_rfl) (by kernel_rfl) (by kernel_rfl) (KD.up w1 b C m) ?_
    apply Exists.intro
    refine ⟨Or.inl ⟨rfl, fun W hW => ?hy⟩, ?_⟩
    case hy =>
      obtain ⟨hX, hB⟩ := hW
      exact does_eq (run_load_dfa (.tmp 1) rfl rfl hX)
    simp only [Act.put, List.setIfInBounds_toArray, List.set]
    refine wpU_taken (i := 1) rfl (by kernel_rfl) (by kernel_rfl) (by kernel_rfl) (KD.up w1 b C m) ?_
    apply Exists.intro
    refine ⟨Or.inl ⟨rfl, fun W hW => ?hy⟩, ?_⟩
    case hy =>
      obtain ⟨hX, hB⟩ := hW
      go_simp
      exact RegionU.does_call (HM.out W hX.is)
    simp only [Act.put, List.setIfInBounds_toArray, List.set]
    refine wpU_taken (i := 2) rfl (by kernel_rfl) (by kernel_rfl) (by kernel_rfl) (KD.up w1 b C m) ?_
    apply Exists.intro
    refine ⟨Or.inl ⟨rfl, fun W hW => ?hy⟩, ?_⟩
    case hy =>
      obtain ⟨hX, hB⟩ := hW
      go_simp
      exact RegionU.does_value rfl
    simp only [Act.put, List.setIfInBounds_toArray, List.set]
    refine wpU_taken (i := 3) rfl (by kernel_rfl) (by kernel_rfl) (by kernel_rfl) (KD.up w1 b C m) ?_
    apply Exists.intro
    refine ⟨Or.inl ⟨rfl, fun W hW => ?hy⟩, ?_⟩
    case hy =>
      obtain ⟨hX, hB⟩ := hW
      go_simp
      exact RegionU.does_value rfl
    simp only [Act.put, List.setIfInBounds_toArray, List.set]
    cases q with
    | false =>
      refine wpU_taken (i := 4) rfl (by kernel_rfl) (by kernel_rfl) (by kernel_rfl) (KD.up w1 b C m) ?_
      apply Exists.intro
      refine ⟨Or.inr ⟨rfl, rfl⟩, ?_⟩
      simp only [Act.put, List.setIfInBounds_toArray, List.set]
      refine wpU_taken (i := 5) rfl (by kernel_rfl) (by kernel_rfl) (by kernel_rfl) (KD.up w1 b C m) ?_
      apply Exists.intro
      refine ⟨Or.inr ⟨rfl, rfl⟩, ?_⟩
      simp only [Act.put, List.setIfInBounds_toArray, List.set]
      refine wpU_taken (i := 6) rfl (by kernel_rfl) (by kernel_rfl) (by kernel_rfl) (KD.up w1 b C m) ?_
      apply Exists.intro
      refine ⟨Or.inr ⟨rfl, rfl⟩, ?_⟩
      simp only [Act.put, List.setIfInBounds_toArray, List.set]
      refine wpU_taken (i := 7) rfl (by kernel_rfl) (by kernel_rfl) (by kernel_rfl) (KD.up w1 b C m) ?_
      apply Exists.intro
      refine ⟨Or.inr ⟨rfl, rfl⟩, ?_⟩
      simp only [Act.put, List.setIfInBounds_toArray, List.set]
      refine wpU_taken (i := 8) rfl (by kernel_rfl) (by kernel_rfl) (by kernel_rfl) (KD.up w1 b C m) ?_
      apply Exists.intro
      refine ⟨Or.inr ⟨rfl, rfl⟩, ?_⟩
      simp only [Act.put, List.setIfInBounds_toArray, List.set]
      refine wpU_taken (i := 9) rfl (by kernel_rfl) (by kernel_rfl) (by kernel_rfl) (KD.up w1 b C m) ?_
      apply Exists.intro
      refine ⟨Or.inr ⟨rfl, rfl⟩, ?_⟩
      simp only [Act.put, List.setIfInBounds_toArray, List.set]
      refine wpU_taken (i := 10) rfl (by kernel_rfl) (by kernel_rfl) (by kernel_rfl) (KD.up w1 b C m) ?_
      apply Exists.intro
      refine ⟨Or.inr ⟨rfl, rfl⟩, ?_⟩
      simp only [Act.put, List.setIfInBounds_toArray, List.set]
      refine wpU_taken (i := 11) rfl (by kernel_rfl) (by kernel_rfl) (by kernel_rfl) (KD.up w1 b C m) ?_
      apply Exists.intro
      refine ⟨Or.inr ⟨rfl, rfl⟩, ?_⟩
      simp only [Act.put, List.setIfInBounds_toArray, List.set]
      refine wpU_taken (i := 12) rfl (by kernel_rfl) (by kernel_rfl) (by kernel_rfl) (KD.up w1 b C m) ?_
      apply Exists.intro
      refine ⟨Or.inr ⟨rfl, rfl⟩, ?_⟩
      simp only [Act.put, List.setIfInBounds_toArray, List.set]
      refine wpU_taken (i := 13) rfl (by kernel_rfl) (by kernel_rfl) (by kernel_rfl) (KD.up w1 b C m) ?_
      apply Exists.intro
      refine ⟨Or.inr ⟨rfl, rfl⟩, ?_⟩
      simp only [Act.put, List.setIfInBounds_toArray, List.set]
      refine wpU_taken (i := 14) rfl (by kernel_rfl) (by kernel_rfl) (by kernel_rfl) (KD.up w1 b C m) ?_
      apply Exists.intro
      refine ⟨Or.inr ⟨rfl, rfl⟩, ?_⟩
      simp only [Act.put, List.setIfInBounds_toArray, List.set]
      refine wpU_taken (i := 15) rfl (by kernel_rfl) (by kernel_rfl) (by kernel_rfl) (KD.up w1 b C m) ?_
      apply Exists.intro
      refine ⟨Or.inr ⟨rfl, rfl⟩, ?_⟩
      simp only [Act.put, List.setIfInBounds_toArray, List.set]
      refine wpU_taken (i := 16) rfl (by kernel_rfl) (by kernel_rfl) (by kernel_rfl) (KD.up w1 b C m) ?_
      apply Exists.intro
      refine ⟨Or.inr ⟨rfl, rfl⟩, ?_⟩
      simp only [Act.put, List.setIfInBounds_toArray, List.set]
      refine wpU_taken (i := 17) rfl (by kernel_rfl) (by kernel_rfl) (by kernel_rfl) (KD.up w1 b C m) ?_
      apply Exists.intro
      refine ⟨Or.inr ⟨rfl, rfl⟩, ?_⟩
      simp only [Act.put, List.setIfInBounds_toArray, List.set]
      refine wpU_taken (i := 18) rfl (by kernel_rfl) (by kernel_rfl) (by kernel_rfl) (KD.up w1 b C m) ?_
      apply Exists.intro
      refine ⟨Or.inr ⟨rfl, rfl⟩, ?_⟩
      simp only [Act.put, List.setIfInBounds_toArray, List.set]
      refine wpU_taken (i := 19) rfl (by kernel_rfl) (by kernel_rfl) (by kernel_rfl) (KD.up w1 b C m) ?_
      apply Exists.intro
      refine ⟨Or.inl ⟨rfl, fun W hW => ?hy⟩, ?_⟩
      case hy =>
        obtain ⟨hX, hB⟩ := hW
        go_simp
        exact RegionU.does_value rfl
      simp only [Act.put, List.setIfInBounds_toArray, List.set]
      refine wpU_taken (i := 20) rfl (by kernel_rfl) (by kernel_rfl) (by kernel_rfl) (KD.up w1 b C m) ?_
      apply Exists.intro
      refine ⟨Or.inl ⟨rfl, fun W hW => ?hy⟩, ?_⟩
      case hy =>
        obtain ⟨hX, hB⟩ := hW
        go_simp
        exact RegionU.does_value rfl
      simp only [Act.put, List.setIfInBounds_toArray, List.set]
      refine wpU_done (by kernel_rfl) ?_
      rintro W ⟨-, hB⟩
      go_wp2_with fail
      go_ret
      exact ⟨rfl, HB1.out.trans (hB.mono HB1.out.size)⟩
    | true =>
      refine wpU_taken (i := 4) rfl (by kernel_rfl) (by kernel_rfl) (by kernel_rfl) (KD.up w1 b C m) ?_
      apply Exists.intro
      refine ⟨Or.inl ⟨rfl, fun W hW => ?hy⟩, ?_⟩
      case hy =>
        obtain ⟨hX, hB⟩ := hW
        exact does_eq (run_load_dfa (.tmp 1) rfl rfl hX)
      simp only [Act.put, List.setIfInBounds_toArray, List.set]
      refine wpU_taken (i := 6) rfl (by kernel_rfl) (by kernel_rfl) (by kernel_rfl) (KD.up w1 b C m) ?_
      apply Exists.intro
      refine ⟨Or.inl ⟨rfl, fun W hW => ?hy⟩, ?_⟩
      case hy =>
        obtain ⟨hX, hB⟩ := hW
        exact does_eq (run_load_dfa (.tmp 1) rfl rfl hX)
      simp only [Act.put, List.setIfInBounds_toArray, List.set]
      refine wpU_one (i := 5) (by kernel_rfl) rfl rfl (OT w1.heap.size R) (OT.up _ _) (fun W hW => ?hy) ?_
      case hy =>
        obtain ⟨hX, hB⟩ := hW
        go_simp
        exact does_in ((H1.out W hX.is).mono fun e w' ⟨v, h, ho, hb⟩ => ⟨v, h, owns_base ho hB.size, hb⟩)
      intro u1
      simp only [Act.put, List.setIfInBounds_toArray, List.set]
      refine wpU_one (i := 7) (by kernel_rfl) rfl rfl (OT w1.heap.size R) (OT.up _ _) (fun W hW => ?hy) ?_
      case hy =>
        obtain ⟨⟨hX, hB⟩, h1⟩ := hW
        go_simp
        exact does_in ((H2.out W hX.is).mono fun e w' ⟨v, h, ho, hb⟩ => ⟨v, h, owns_base ho hB.size, hb⟩)
      intro u2
      simp only [Act.put, List.setIfInBounds_toArray, List.set]
      refine wpU_taken (i := 8) rfl (by kernel_rfl) (by kernel_rfl) (by kernel_rfl) (((KD.up w1 b C m).and (OT.up _ _ u1)).and (OT.up _ _ u2)) ?_
      apply Exists.intro
      refine ⟨Or.inl ⟨rfl, fun W hW => ?hy⟩, ?_⟩
      case hy =>
        obtain ⟨⟨⟨hX, hB⟩, h1⟩, h2⟩ := hW
        go_simp
        exact RegionU.does_call (H5.out W _ _ _ _ _ h1 h2)
      simp only [Act.put, List.setIfInBounds_toArray, List.set]
      refine wpU_mono _ _ _ (KD w1 b C m) _ (fun W hW => hW.1.1) ?_
      refine wpU_taken (i := 9) rfl (by kernel_rfl) (by kernel_rfl) (by kernel_rfl) (KD.up w1 b C m) ?_
      apply Exists.intro
      refine ⟨Or.inl ⟨rfl, fun W hW => ?hy⟩, ?_⟩
      case hy =>
        obtain ⟨hX, hB⟩ := hW
        go_simp
        exact RegionU.does_value rfl
      simp only [Act.put, List.setIfInBounds_toArray, List.set]
      refine wpU_taken (i := 10) rfl (by kernel_rfl) (by kernel_rfl) (by kernel_rfl) (KD.up w1 b C m) ?_
      apply Exists.intro
      refine ⟨Or.inl ⟨rfl, fun W hW => ?hy⟩, ?_⟩
      case hy =>
        obtain ⟨hX, hB⟩ := hW
        exact does_eq (run_load_dfa (.tmp 1) rfl rfl hX)
      simp only [Act.put, List.setIfInBounds_toArray, List.set]
      refine wpU_taken (i := 12) rfl (by kernel_rfl) (by kernel_rfl) (by kernel_rfl) (KD.up w1 b C m) ?_
      apply Exists.intro
      refine ⟨Or.inl ⟨rfl, fun W hW => ?hy⟩, ?_⟩
      case hy =>
        obtain ⟨hX, hB⟩ := hW
        exact does_eq (run_load_dfa (.tmp 1) rfl rfl hX)
      simp only [Act.put, List.setIfInBounds_toArray, List.set]
      refine wpU_one (i := 11) (by kernel_rfl) rfl rfl (OT w1.heap.size V) (OT.up _ _) (fun W hW => ?hy) ?_
      case hy =>
        obtain ⟨hX, hB⟩ := hW
        go_simp
        exact does_in ((H3.out W hX.is).mono fun e w' ⟨v, h, ho, hb⟩ => ⟨v, h, owns_base ho hB.size, hb⟩)
      intro u3
      simp only [Act.put, List.setIfInBounds_toArray, List.set]
      refine wpU_one (i := 13) (by kernel_rfl) rfl rfl (OT w1.heap.size V) (OT.up _ _) (fun W hW => ?hy) ?_
      case hy =>
        obtain ⟨⟨hX, hB⟩, h1⟩ := hW
        go_simp
        exact does_in ((H4.out W hX.is).mono fun e w' ⟨v, h, ho, hb⟩ => ⟨v, h, owns_base ho hB.size, hb⟩)
      intro u4
      simp only [Act.put, List.setIfInBounds_toArray, List.set]
      refine wpU_taken (i := 14) rfl (by kernel_rfl) (by kernel_rfl) (by kernel_rfl) (((KD.up w1 b C m).and (OT.up _ _ u3)).and (OT.up _ _ u4)) ?_
      apply Exists.intro
      refine ⟨Or.inl ⟨rfl, fun W hW => ?hy⟩, ?_⟩
      case hy =>
        obtain ⟨⟨⟨hX, hB⟩, h1⟩, h2⟩ := hW
        go_simp
        exact RegionU.does_call (H5.out W _ _ _ _ _ h1 h2)
      simp only [Act.put, List.setIfInBounds_toArray, List.set]
      refine wpU_mono _ _ _ (KD w1 b C m) _ (fun W hW => hW.1.1) ?_
      refine wpU_taken (i := 15) rfl (by kernel_rfl) (by kernel_rfl) (by kernel_rfl) (KD.up w1 b C m) ?_
      apply Exists.intro
      refine ⟨Or.inl ⟨rfl, fun W hW => ?hy⟩, ?_⟩
      case hy =>
        obtain ⟨hX, hB⟩ := hW
        go_simp
        exact RegionU.does_value rfl
      simp only [Act.put, List.setIfInBounds_toArray, List.set]
      refine wpU_taken (i := 16) rfl (by kernel_rfl) (by kernel_rfl) (by kernel_rfl) (KD.up w1 b C m) ?_
      apply Exists.intro
      refine ⟨Or.inl ⟨rfl, fun W hW => ?hy⟩, ?_⟩
      case hy =>
        obtain ⟨hX, hB⟩ := hW
        go_simp
        exact RegionU.does_value rfl
      simp only [Act.put, List.setIfInBounds_toArray, List.set]
      refine wpU_taken (i := 17) rfl (by kernel_rfl) (by kernel_rfl) (by kernel_rfl) (KD.up w1 b C m) ?_
      apply Exists.intro
      refine ⟨Or.inl ⟨rfl, fun W hW => ?hy⟩, ?_⟩
      case hy =>
        obtain ⟨hX, hB⟩ := hW
        go_simp
        exact RegionU.does_call (knows_any W)
      simp only [Act.put, List.setIfInBounds_toArray, List.set]
      refine wpU_taken (i := 18) rfl (by kernel_rfl) (by kernel_rfl) (by kernel_rfl) (KD.up w1 b C m) ?_
      apply Exists.intro
      refine ⟨Or.inl ⟨rfl, fun W hW => ?hy⟩, ?_⟩
      case hy =>
        obtain ⟨hX, hB⟩ := hW
        go_simp
        exact RegionU.does_value rfl
      simp only [Act.put, List.setIfInBounds_toArray, List.set]
      refine wpU_taken (i := 19) rfl (by kernel_rfl) (by kernel_rfl) (by kernel_rfl) (KD.up w1 b C m) ?_
      apply Exists.intro
      refine ⟨Or.inl ⟨rfl, fun W hW => ?hy⟩, ?_⟩
      case hy =>
        obtain ⟨hX, hB⟩ := hW
        go_simp
        exact RegionU.does_value rfl
      simp only [Act.put, List.setIfInBounds_toArray, List.set]
      refine wpU_taken (i := 20) rfl (by kernel_rfl) (by kernel_rfl) (by kernel_rfl) (KD.up w1 b C m) ?_
      apply Exists.intro
      refine ⟨Or.inl ⟨rfl, fun W hW => ?hy⟩, ?_⟩
      case hy =>
        obtain ⟨hX, hB⟩ := hW
        go_simp
        exact RegionU.does_value rfl
      simp only [Act.put, List.setIfInBounds_toArray, List.set]
      refine wpU_done (by kernel_rfl) ?_
      rintro W ⟨-, hB⟩
      go_wp2_with fail
      go_ret
      exact ⟨rfl, HB1.out.trans (hB.mono HB1.out.size)⟩
  · have e1 := reachV_no hk; have e2 := liveV_no hk
    have H1 := Lib.hid (fun W (h : IsM W.heap.size W C m) => by have := Reach_any W h; rw [e1] at this; exact this)
    have H3 := Lib.hid (fun W (h : IsM W.heap.size W C m) => by have := Live_any W h; rw [e2] at this; exact this)
    clear hs hk e1 e2
    go_wp2_with fail
    refine wp_region_U (by kernel_rfl) (KD.up w1 b C m) HD.out ?_
    refine wpU_taken (i := 0) rfl (by kernel_rfl) (by kernel_rfl) (by kernel_rfl) (KD.up w1 b C m) ?_
    apply Exists.intro
    refine ⟨Or.inl ⟨rfl, fun W hW => ?hy⟩, ?_⟩
    case hy =>
      obtain ⟨hX, hB⟩ := hW
      exact does_eq (run_load_dfa (.tmp 1) rfl rfl hX)
    simp only [Act.put, List.setIfInBounds_toArray, List.set]
    refine wpU_taken (i := 3) rfl (by kernel_rfl) (by kernel_rfl) (by kernel_rfl) (KD.up w1 b C m) ?_
    apply Exists.intro
    refine ⟨Or.inl ⟨rfl, fun W hW => ?hy⟩, ?_⟩
    case hy =>
      obtain ⟨hX, hB⟩ := hW
      exact does_eq (run_load_dfa (.tmp 1) rfl rfl hX)
    simp only [Act.put, List.setIfInBounds_toArray, List.set]
    refine wpU_one (i := 1) (by kernel_rfl) rfl rfl (OT w1.heap.size []) (OT.up _ _) (fun W hW => ?hy) ?_
    case hy =>
      obtain ⟨hX, hB⟩ := hW
      go_simp
      exact does_in ((H1.out W hX.is).mono fun e w' ⟨v, h, ho, hb⟩ => ⟨v, h, owns_base ho hB.size, hb⟩)
    intro u1
    simp only [Act.put, List.setIfInBounds_toArray, List.set]
    refine wpU_taken (i := 2) rfl (by kernel_rfl) (by kernel_rfl) (by kernel_rfl) ((KD.up w1 b C m).and (OT.up _ _ u1)) ?_
    refine ⟨.int .i64 0, Or.inl ⟨rfl, fun W hW => ?hy⟩, ?_⟩
    case hy =>
      obtain ⟨-, h1⟩ := hW; obtain ⟨a1, c1, rfl, _, _⟩ := OI.len h1
      go_simp
      exact RegionU.does_value rfl
    simp only [Act.put, List.setIfInBounds_toArray, List.set]
    refine wpU_mono _ _ _ (KD w1 b C m) _ (fun W hW => hW.1) ?_
    refine wpU_one (i := 4) (by kernel_rfl) rfl rfl (OT w1.heap.size []) (OT.up _ _) (fun W hW => ?hy) ?_
    case hy =>
      obtain ⟨hX, hB⟩ := hW
      go_simp
      exact does_in ((H3.out W hX.is).mono fun e w' ⟨v, h, ho, hb⟩ => ⟨v, h, owns_base ho hB.size, hb⟩)
    intro u2
    simp only [Act.put, List.setIfInBounds_toArray, List.set]
    refine wpU_taken (i := 5) rfl (by kernel_rfl) (by kernel_rfl) (by kernel_rfl) ((KD.up w1 b C m).and (OT.up _ _ u2)) ?_
    refine ⟨.int .i64 0, Or.inl ⟨rfl, fun W hW => ?hy⟩, ?_⟩
    case hy =>
      obtain ⟨-, h1⟩ := hW; obtain ⟨a1, c1, rfl, _, _⟩ := OI.len h1
      go_simp
      exact RegionU.does_value rfl
    simp only [Act.put, List.setIfInBounds_toArray, List.set]
    refine wpU_mono _ _ _ (KD w1 b C m) _ (fun W hW => hW.1) ?_
    refine wpU_taken (i := 6) rfl (by kernel_rfl) (by kernel_rfl) (by kernel_rfl) (KD.up w1 b C m) ?_
    refine ⟨.int .i64 0, Or.inl ⟨rfl, fun W hW => ?hy⟩, ?_⟩
    case hy =>
      skip
      go_simp
      exact RegionU.does_value rfl
    simp only [Act.put, List.setIfInBounds_toArray, List.set]
    refine wpU_taken (i := 7) rfl (by kernel_rfl) (by kernel_rfl) (by kernel_rfl) (KD.up w1 b C m) ?_
    refine ⟨.bool true, Or.inl ⟨rfl, fun W hW => ?hy⟩, ?_⟩
    case hy =>
      skip
      go_simp
      exact RegionU.does_value rfl
    simp only [Act.put, List.setIfInBounds_toArray, List.set]
    refine wpU_taken (i := 8) rfl (by kernel_rfl) (by kernel_rfl) (by kernel_rfl) (KD.up w1 b C m) ?_
    apply Exists.intro
    refine ⟨Or.inl ⟨rfl, fun W hW => ?hy⟩, ?_⟩
    case hy =>
      obtain ⟨hX, hB⟩ := hW
      go_simp
      exact RegionU.does_value rfl
    simp only [Act.put, List.setIfInBounds_toArray, List.set]
    refine wpU_taken (i := 9) rfl (by kernel_rfl) (by kernel_rfl) (by kernel_rfl) (KD.up w1 b C m) ?_
    apply Exists.intro
    refine ⟨Or.inl ⟨rfl, fun W hW => ?hy⟩, ?_⟩
    case hy =>
      obtain ⟨hX, hB⟩ := hW
      go_simp
      exact RegionU.does_call (knows_any W)
    simp only [Act.put, List.setIfInBounds_toArray, List.set]
    refine wpU_taken (i := 10) rfl (by kernel_rfl) (by kernel_rfl) (by kernel_rfl) (KD.up w1 b C m) ?_
    apply Exists.intro
    refine ⟨Or.inl ⟨rfl, fun W hW => ?hy⟩, ?_⟩
    case hy =>
      obtain ⟨hX, hB⟩ := hW
      go_simp
      exact RegionU.does_value rfl
    simp only [Act.put, List.setIfInBounds_toArray, List.set]
    refine wpU_taken (i := 11) rfl (by kernel_rfl) (by kernel_rfl) (by kernel_rfl) (KD.up w1 b C m) ?_
    apply Exists.intro
    refine ⟨Or.inl ⟨rfl, fun W hW => ?hy⟩, ?_⟩
    case hy =>
      obtain ⟨hX, hB⟩ := hW
      go_simp
      exact RegionU.does_value rfl
    simp only [Act.put, List.setIfInBounds_toArray, List.set]
    refine wpU_done (by kernel_rfl) ?_
    rintro W ⟨-, hB⟩
    go_wp2_with fail
    go_ret
    exact ⟨rfl, HB1.out.trans (hB.mono HB1.out.size)⟩
end Go.Proofs.Ytkghnjgioijgpaa.DfaW
