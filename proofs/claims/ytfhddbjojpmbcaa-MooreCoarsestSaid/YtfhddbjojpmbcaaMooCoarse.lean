/- Walk of MooreCoarsest. -/
import Derived.Deep.CutRange
import Derived.Deep.CutBlock
import Derived.Deep.DeepCutAuto
import Derived.Test.YtfhddbjojpmbcaaRefRounds
import Derived.Test.YtfhddbjojpmbcaaMooC
import Derived.Test.YtfhddbjojpmbcaaTo
namespace Go.Proofs.Ytfhddbjojpmbcaa.DfaW
set_option linter.unusedVariables false
set_option linter.unusedSimpArgs false
open Go.Proofs.Ytfhddbjojpmbcaa.RegionU (Up wpW_taken wpW_takenY wpW_one wpW_two wpW_done1 wpW_done2 wpW_done3 wpW_have wp_region_W)
open Go.RowKit Go.Maps Go.Proofs.Ytfhddbjojpmbcaa.PartM Go.Proofs.Ytfhddbjojpmbcaa.PartW
/-- From states that are alike a byte leads to such. -/
theorem blk_step {m : Mc} (hok : Ok m) {x y b : Nat} (hx : x < m.lb.length) (hy : y < m.lb.length) (hb : b < 256) (h : (blkN m).getD x 0 = (blkN m).getD y 0) : (blkN m).getD (step m x b) 0 = (blkN m).getD (step m y b) 0 := by
  have hs := blkN_stable hok
  have hl : (blkN m).length = m.lb.length := aftN_len _ _
  exact (hs.2.2 x y (by rw [hl]; exact hx) (by rw [hl]; exact hy) h).2 (m.of b) (hok.cls' hb)
theorem blk_lab {m : Mc} (hok : Ok m) {x y : Nat} (hx : x < m.lb.length) (hy : y < m.lb.length) (h : (blkN m).getD x 0 = (blkN m).getD y 0) : m.lb.getD x 0 = m.lb.getD y 0 := by
  have hs := blkN_stable hok
  have hl : (blkN m).length = m.lb.length := aftN_len _ _
  exact (hs.2.2 x y (by rw [hl]; exact hx) (by rw [hl]; exact hy) h).1
set_option maxRecDepth 100000 in
set_option maxHeartbeats 4000000 in
theorem MooCoarsest_any (HBL : BlocksC 8) (HST : StableC 18) (HFI : FinerC 17) (HKN : KnowsC) {C : Array Value} {m : Mc} {vl vw : Value} {l : List Int} {bs : List Nat} (w : World) (h : IsM w.heap.size w C m) (hl : IS w.heap.size w vl l) (hl6 : I64 l) (hw : BS w.heap.size w vw bs) (s t : Nat) (hs : s < 256) (ht : t < 256) :
    Calls Try.prog 6 #[.agg C, vl, vw, .int .u8 s, .int .u8 t] w fun e w' => e = .returned (.bool true) ∧ Below w.heap.size w w' := by
  have HX := Lib.hid (Bx.new h)
  have HB0 := Lib.hid (al_o w (.cells C 27))
  have HL := Lib.hid (fun W (hW : Below w.heap.size w W) => (hl.below hW).up hW.size)
  have HW := Lib.hid hw
  have H6 := Lib.hid hl6; have HST2 := Lib.hid (show s < 256 ∧ t < 256 from ⟨hs, ht⟩)
  have hsi : (s : Int) < 256 := by omega
  have hti : (t : Int) < 256 := by omega
  obtain ⟨al', cl, rfl, _, _, _⟩ := hl.open
  obtain ⟨aw, cw, rfl, _, gw, hbc⟩ := hw.open
  obtain ⟨a1, a2, a3, c1, c2, c3, k1, k2, k3⟩ := h.slices
  obtain ⟨n, hn⟩ : ∃ n, n = m.lb.length := ⟨_, rfl⟩
  rw [← hn] at k2
  have HK2 := Lib.hid k2; have HN := Lib.hid hn
  obtain ⟨Ll, hLl⟩ : ∃ L, L = l.length := ⟨_, rfl⟩
  obtain ⟨Lw, hLw⟩ : ∃ L, L = bs.length := ⟨_, rfl⟩
  have hwi : (Lw : Int) ≤ 9223372036854775807 := by unfold maxLen at gw; omega
  rw [← hLl] at HL ⊢
  rw [← hLw] at HW hbc ⊢
  have HLL := Lib.hid (show Ll = l.length ∧ Lw = bs.length from ⟨hLl, hLw⟩)
  have HBC := Lib.hid hbc
  clear h hl hl6 hw hs ht k1 k2 k3 hn hLl hLw gw hbc
  go_enter Try.func6, Try.ntmps6
  go_wp2_with (refine wpList_load_dfa rfl (.tmp 5) rfl rfl HX.out ?_)
  refine (refRight24_any _ 200 (by decide) HX.out.is).mono ?_
  rintro e w1 ⟨hs, hb1⟩
  have HX1 := Lib.hid (HX.out.below hb1); have HB1 := Lib.hid (HB0.out.trans (hb1.mono HB0.out.size))
  clear hb1 HX HB0
  rcases hs.elim with ⟨rfl, hk⟩ | ⟨rfl, hk⟩
  case inr =>
    clear hs hk
    go_wp2_with fail
    refine (HKN _).mono ?_
    rintro e w2 ⟨rfl, hb2⟩
    have HB2 := Lib.hid (HB1.out.trans (hb2.mono HB1.out.size))
    clear hb2
    go_wp2_with fail
    go_ret
    exact ⟨rfl, HB2.out⟩
  have HOK := Lib.hid hk.1
  have HY := Lib.hid (moo_yes hk.1)
  have hn2 : n ≤ 200 := by rw [HN.out]; exact hk.2
  have HN2 := Lib.hid hn2
  have hni : (n : Int) ≤ 200 := by omega
  have hn0 : 0 < n := by rw [HN.out]; exact hk.1.zero
  have HN0 := Lib.hid hn0
  clear hs hk hn2
  go_wp2_with (refine wpList_load_dfa rfl (.tmp 5) rfl rfl HX1.out ?_)
  refine (HBL w1 HX1.out.is).mono ?_
  rintro e w3 ⟨vb, rfl, ho, hb⟩
  rw [HY.out.2.1] at ho
  obtain ⟨ab, cb, rfl, _, _⟩ := ho.len
  have hbl : (blkN m).length = n := by rw [HN.out]; exact aftN_len _ _
  rw [hbl] at ho ⊢
  have HBI := Lib.hid (fun W (hW : Below w3.heap.size w3 W) => (ho.is.below hW).up hW.size)
  have HX3 := Lib.hid (HX1.out.below hb); have HB3 := Lib.hid (HB1.out.trans (hb.mono HB1.out.size))
  have HLB := Lib.hid (show (blkN m).length = n from hbl)
  have HB6 := Lib.hid (show I64 (blkN m) from aftN_64 _ _ (by have := HN.out; have := HN2.out; omega))
  clear hb HX1 HB1 ho hbl
  go_upto_region 4 with fail
  go_cut [36] from 22 to 36 (fun t wx => t = .bool false ∧ Below w3.heap.size w3 wx)
  case first =>
    go_wp2_with (refine wpList_load_dfa rfl (.tmp 5) rfl rfl HX3.out ?_)
    refine (HST w3 HX3.out.is (HBI.out _ (Below.refl _ _)) HB6.out).mono ?_
    rintro e w4 ⟨hs, hb⟩
    obtain rfl := hs.true (blkN_stable HOK.out)
    have HX4 := Lib.hid (HX3.out.below hb); have HB4 := Lib.hid hb
    clear hs hb HX3
    go_wp2_with (refine wpList_load_dfa_g rfl (.tmp 5) rfl rfl HX4.out ?_)
    refine (HST w4 HX4.out.is (HL.out _ (HB3.out.trans (HB4.out.mono HB3.out.size))) H6.out).mono ?_
    rintro e w5 ⟨hs, hb⟩
    have HB5 := Lib.hid (HB4.out.trans (hb.mono HB4.out.size))
    clear hb HX4 HB4
    rcases hs.elim with ⟨rfl, hk⟩ | ⟨rfl, hk⟩
    · have HF := Lib.hid (stable_finer hk)
      have HLE := Lib.hid (show l.length ≤ 1048576 by have := hk.2.1; have := HN.out; have := HN2.out; omega)
      clear hs hk
      go_wp2_with fail
      refine (HFI w5 (HL.out _ (HB3.out.trans (HB5.out.mono HB3.out.size))) (HBI.out _ HB5.out) H6.out HB6.out HLE.out).mono ?_
      rintro e w6 ⟨hs, hb⟩
      obtain rfl := hs.true HF.out
      have HB6' := Lib.hid (HB5.out.trans (hb.mono HB5.out.size))
      clear hs hb
      go_wp2_with fail
      go_meet
      exact ⟨rfl, HB6'.out⟩
    · clear hs hk
      go_wp2_with fail
      go_meet
      exact ⟨rfl, HB5.out⟩
  case rest =>
  obtain ⟨rfl, hb⟩ := hcut
  have HXc := Lib.hid (HX3.out.below hb); have HBc := Lib.hid hb
  clear hb HX3
  have hx : (s : Int).tmod (n : Int) = ((s % n : Nat) : Int) := by rw [Int.tmod_eq_emod_of_nonneg (by omega)]; omega
  have hy : (t : Int).tmod (n : Int) = ((t % n : Nat) : Int) := by rw [Int.tmod_eq_emod_of_nonneg (by omega)]; omega
  obtain ⟨x, hxe⟩ : ∃ x, x = s % n := ⟨_, rfl⟩
  obtain ⟨y, hye⟩ : ∃ y, y = t % n := ⟨_, rfl⟩
  rw [← hxe] at hx
  rw [← hye] at hy
  have hxn : x < n := by rw [hxe]; exact Nat.mod_lt _ HN0.out
  have hyn : y < n := by rw [hye]; exact Nat.mod_lt _ HN0.out
  have HXN := Lib.hid hxn; have HYN := Lib.hid hyn
  have hwr : IntKind.i64.wrap (s : Int) = (s : Int) := by rw [IntKind.wrap_i64]; omega
  have hwt : IntKind.i64.wrap (t : Int) = (t : Int) := by rw [IntKind.wrap_i64]; omega
  have hwx : IntKind.i64.wrap (x : Int) = (x : Int) := by rw [IntKind.wrap_i64]; omega
  have hwy : IntKind.i64.wrap (y : Int) = (y : Int) := by rw [IntKind.wrap_i64]; omega
  have hnz : ¬ (n : Int) = 0 := by have := HN0.out; omega
  have y2 := (HXc.out.lbv HK2.out).1
  clear hxe hye
  go_wp2_with fail
  clear hx hy hwr hwt hwx hwy hnz y2
  have hL := HLB.out
  obtain ⟨b1, o1, rfl, _, d1⟩ := (HBI.out _ HBc.out.drew).cell (i := x) (by omega)
  obtain ⟨_, _, e2, _, d2⟩ := (HBI.out _ HBc.out.drew).cell (i := y) (by omega)
  simp only [Option.some.injEq, Addr.mk.injEq, and_true] at e2
  obtain ⟨rfl, rfl⟩ := e2
  obtain ⟨sm, hsm⟩ : ∃ sm, sm = ((blkN m).getD x 0 == (blkN m).getD y 0) := ⟨_, rfl⟩
  have HSM := Lib.hid (show sm = true → (blkN m).getD x 0 = (blkN m).getD y 0 from fun h => by rw [hsm] at h; exact eq_of_beq h)
  obtain ⟨p, hp⟩ : ∃ p, p = (blkN m).getD x 0 := ⟨_, rfl⟩
  obtain ⟨q, hq⟩ : ∃ q, q = (blkN m).getD y 0 := ⟨_, rfl⟩
  rw [← hp] at d1 hsm
  rw [← hq] at d2 hsm
  have hsm' := hsm.symm
  clear hL hsm hp hq
  go_region
  go_wp2_with fail
  clear d1 d2 hsm'
  have HKM0 := Lib.hid (show KM w3 w.heap.size C m wc.drew from ⟨HXc.out.below (Below.refl _ _).drew, HBc.out.drew⟩)
  go_loopw [12, 13, 15] (fun u v i wr => ∃ x y k : Nat, x < n ∧ y < n ∧ k ≤ Lw ∧ u = .int .i64 x ∧ v = .int .i64 y ∧ i = .int .i64 k ∧ Hid (sm = true → (blkN m).getD x 0 = (blkN m).getD y 0) ∧ Hid (KM w3 w.heap.size C m wr)) (fun _ _ i _ => Lw - (intOf i).toNat)
  case atStart => exact ⟨x, y, 0, hxn, hyn, Nat.zero_le _, rfl, rfl, rfl, HSM, HKM0⟩
  case round =>
    clear hxn hyn HXN HYN HSM HKM0
    obtain ⟨x, y, k, hxn, hyn, hk, rfl, rfl, rfl, HSM, HKM⟩ := hrel
    go_upto_region 10 with fail
    go_cut [65] from 58 to 81 (fun t wx => t = .bool (decide (k < Lw ∧ k < 50)) ∧ wx = wr)
    case first =>
      by_cases h1 : k < Lw
      case neg =>
        go_wp2_with fail
        go_meet
        exact ⟨congrArg Value.bool (decide_eq_false (p := k < Lw ∧ k < 50) (by omega)).symm, rfl⟩
      by_cases h2 : k < 50
      case neg =>
        have t2 : decide ((k : Int) < 50) = false := by simp; omega
        go_wp2_with fail
        go_meet
        exact ⟨congrArg Value.bool (decide_eq_false (p := k < Lw ∧ k < 50) (by omega)).symm, rfl⟩
      have t2 : decide ((k : Int) < 50) = true := by simp; omega
      go_wp2_with fail
      go_meet
      exact ⟨congrArg Value.bool (decide_eq_true (p := k < Lw ∧ k < 50) (by omega)).symm, rfl⟩
    case rest =>
    obtain ⟨rfl, rfl⟩ := hcut
    by_cases hlt : k < Lw ∧ k < 50
    case pos =>
      rw [decide_eq_true hlt]
      have HLT := Lib.hid hlt
      have hki : k < Lw := hlt.1
      obtain ⟨bw, ow, rfl, _, dw⟩ := HBC.out k hki
      have hb8 : bs.getD k 0 < 256 := HW.out.lt (by rw [← HLL.out.2]; exact hki)
      obtain ⟨b, hbe⟩ : ∃ b, b = bs.getD k 0 := ⟨_, rfl⟩
      rw [← hbe] at dw hb8
      have HBW := Lib.hid dw; have HB8 := Lib.hid hb8
      have HXX := Lib.hid (show x < m.lb.length ∧ y < m.lb.length from ⟨by rw [← HN.out]; exact hxn, by rw [← HN.out]; exact hyn⟩)
      have HKD := Lib.hid (show KM w3 w.heap.size C m wc.drew from ⟨HKM.out.x.below (Below.refl _ _).drew, HKM.out.lo.drew⟩)
      have hb8i : (b : Int) < 256 := by omega
      clear hlt dw hb8 hbe
      go_wp2_with fail
      refine wp_region_W (fun i => decide (i < 7)) 7 1 (by kernel_rfl) (by kernel_rfl) (KM.up w3 w.heap.size C m) HKD.out ?_
      refine wpW_taken (i := 0) rfl (by kernel_rfl) (by kernel_rfl) (by kernel_rfl) (by kernel_rfl) (KM.up w3 w.heap.size C m) ?_
      apply Exists.intro
      refine ⟨Or.inl ⟨rfl, fun W hW => ?hy⟩, ?_⟩
      case hy =>
        exact does_eq (run_load_dfa (.tmp 5) rfl rfl hW.x)
      simp only [Act.put, List.setIfInBounds_toArray, List.set]
      refine wpW_taken (i := 1) rfl (by kernel_rfl) (by kernel_rfl) (by kernel_rfl) (by kernel_rfl) (KM.up w3 w.heap.size C m) ?_
      apply Exists.intro
      refine ⟨Or.inl ⟨rfl, fun W hW => ?hy⟩, ?_⟩
      case hy =>
        go_simp
        exact RegionU.does_value rfl
      simp only [Act.put, List.setIfInBounds_toArray, List.set]
      refine wpW_taken (i := 2) rfl (by kernel_rfl) (by kernel_rfl) (by kernel_rfl) (by kernel_rfl) (KM.up w3 w.heap.size C m) ?_
      apply Exists.intro
      refine ⟨Or.inl ⟨rfl, fun W hW => ?hy⟩, ?_⟩
      case hy =>
        go_simp
        exact RegionU.does_value rfl
      simp only [Act.put, List.setIfInBounds_toArray, List.set]
      refine wpW_taken (i := 3) rfl (by kernel_rfl) (by kernel_rfl) (by kernel_rfl) (by kernel_rfl) (KM.up w3 w.heap.size C m) ?_
      apply Exists.intro
      refine ⟨Or.inl ⟨rfl, fun W hW => ?hy⟩, ?_⟩
      case hy =>
        go_simp
        exact RegionU.does_value rfl
      simp only [Act.put, List.setIfInBounds_toArray, List.set]
      refine wpW_taken (i := 4) rfl (by kernel_rfl) (by kernel_rfl) (by kernel_rfl) (by kernel_rfl) (KM.up w3 w.heap.size C m) ?_
      apply Exists.intro
      refine ⟨Or.inl ⟨rfl, fun W hW => ?hy⟩, ?_⟩
      case hy =>
        go_simp
        exact RegionU.does_value rfl
      simp only [Act.put, List.setIfInBounds_toArray, List.set]
      refine wpW_taken (i := 5) rfl (by kernel_rfl) (by kernel_rfl) (by kernel_rfl) (by kernel_rfl) (KM.up w3 w.heap.size C m) ?_
      apply Exists.intro
      refine ⟨Or.inl ⟨rfl, fun W hW => ?hy⟩, ?_⟩
      case hy =>
        have d := (Below.cell (p := ⟨bw, ow + k, none⟩) (HB3.out.trans (hW.lo.mono HB3.out.size)) (World.block_lt_of_cell? _ _ HBW.out)).trans HBW.out
        go_simp
        exact RegionU.does_value rfl
      simp only [Act.put, List.setIfInBounds_toArray, List.set]
      refine wpW_taken (i := 6) rfl (by kernel_rfl) (by kernel_rfl) (by kernel_rfl) (by kernel_rfl) (KM.up w3 w.heap.size C m) ?_
      apply Exists.intro
      refine ⟨Or.inl ⟨rfl, fun W hW => ?hy⟩, ?_⟩
      case hy =>
        go_simp
        exact RegionU.does_call ((To_any W hW.x.is (x : Int) b HB8.out).mono fun e w' ⟨h, hb⟩ => ⟨h.trans (by rw [toV_yes HOK.out HXX.out.1]), hb⟩)
      simp only [Act.put, List.setIfInBounds_toArray, List.set]
      refine wpW_done1 (i := 7) rfl (by kernel_rfl) (by kernel_rfl) ?_
      intro W hW
      have HKW := Lib.hid (show KM w3 w.heap.size C m W.drew from ⟨hW.x.below (Below.refl _ _).drew, hW.lo.drew⟩)
      clear hW
      go_wp2_with fail
      refine wp_region_W (fun i => decide (i < 7)) 7 1 (by kernel_rfl) (by kernel_rfl) (KM.up w3 w.heap.size C m) HKW.out ?_
      refine wpW_taken (i := 0) rfl (by kernel_rfl) (by kernel_rfl) (by kernel_rfl) (by kernel_rfl) (KM.up w3 w.heap.size C m) ?_
      apply Exists.intro
      refine ⟨Or.inl ⟨rfl, fun W hW => ?hy⟩, ?_⟩
      case hy =>
        exact does_eq (run_load_dfa (.tmp 5) rfl rfl hW.x)
      simp only [Act.put, List.setIfInBounds_toArray, List.set]
      refine wpW_taken (i := 1) rfl (by kernel_rfl) (by kernel_rfl) (by kernel_rfl) (by kernel_rfl) (KM.up w3 w.heap.size C m) ?_
      apply Exists.intro
      refine ⟨Or.inl ⟨rfl, fun W hW => ?hy⟩, ?_⟩
      case hy =>
        go_simp
        exact RegionU.does_value rfl
      simp only [Act.put, List.setIfInBounds_toArray, List.set]
      refine wpW_taken (i := 2) rfl (by kernel_rfl) (by kernel_rfl) (by kernel_rfl) (by kernel_rfl) (KM.up w3 w.heap.size C m) ?_
      apply Exists.intro
      refine ⟨Or.inl ⟨rfl, fun W hW => ?hy⟩, ?_⟩
      case hy =>
        go_simp
        exact RegionU.does_value rfl
      simp only [Act.put, List.setIfInBounds_toArray, List.set]
      refine wpW_taken (i := 3) rfl (by kernel_rfl) (by kernel_rfl) (by kernel_rfl) (by kernel_rfl) (KM.up w3 w.heap.size C m) ?_
      apply Exists.intro
      refine ⟨Or.inl ⟨rfl, fun W hW => ?hy⟩, ?_⟩
      case hy =>
        go_simp
        exact RegionU.does_value rfl
      simp only [Act.put, List.setIfInBounds_toArray, List.set]
      refine wpW_taken (i := 4) rfl (by kernel_rfl) (by kernel_rfl) (by kernel_rfl) (by kernel_rfl) (KM.up w3 w.heap.size C m) ?_
      apply Exists.intro
      refine ⟨Or.inl ⟨rfl, fun W hW => ?hy⟩, ?_⟩
      case hy =>
        go_simp
        exact RegionU.does_value rfl
      simp only [Act.put, List.setIfInBounds_toArray, List.set]
      refine wpW_taken (i := 5) rfl (by kernel_rfl) (by kernel_rfl) (by kernel_rfl) (by kernel_rfl) (KM.up w3 w.heap.size C m) ?_
      apply Exists.intro
      refine ⟨Or.inl ⟨rfl, fun W hW => ?hy⟩, ?_⟩
      case hy =>
        have d := (Below.cell (p := ⟨bw, ow + k, none⟩) (HB3.out.trans (hW.lo.mono HB3.out.size)) (World.block_lt_of_cell? _ _ HBW.out)).trans HBW.out
        go_simp
        exact RegionU.does_value rfl
      simp only [Act.put, List.setIfInBounds_toArray, List.set]
      refine wpW_taken (i := 6) rfl (by kernel_rfl) (by kernel_rfl) (by kernel_rfl) (by kernel_rfl) (KM.up w3 w.heap.size C m) ?_
      apply Exists.intro
      refine ⟨Or.inl ⟨rfl, fun W hW => ?hy⟩, ?_⟩
      case hy =>
        go_simp
        exact RegionU.does_call ((To_any W hW.x.is (y : Int) b HB8.out).mono fun e w' ⟨h, hb⟩ => ⟨h.trans (by rw [toV_yes HOK.out HXX.out.2]), hb⟩)
      simp only [Act.put, List.setIfInBounds_toArray, List.set]
      refine wpW_done1 (i := 7) rfl (by kernel_rfl) (by kernel_rfl) ?_
      intro W2 hW
      have HKM2 := Lib.hid (show KM w3 w.heap.size C m W2 from hW)
      clear hW
      have HB2 := Lib.hid (show sm = true → (blkN m).getD (step m x b) 0 = (blkN m).getD (step m y b) 0 from fun e => blk_step HOK.out HXX.out.1 HXX.out.2 HB8.out (HSM.out e))
      have HS1 := Lib.hid (show step m x b < n by rw [HN.out]; exact (HOK.out.cell HXX.out.1 (HOK.out.cls' HB8.out)).2)
      have HS2 := Lib.hid (show step m y b < n by rw [HN.out]; exact (HOK.out.cell HXX.out.2 (HOK.out.cls' HB8.out)).2)
      go_wp2_with fail
      refine ⟨⟨step m x b, step m y b, k + 1, HS1.out, HS2.out, HLT.out.1, rfl, rfl, by go_num, HB2, HKM2⟩, by have := HLT.out; simp [intOf]; omega⟩
    case neg =>
      rw [decide_eq_false hlt]
      clear hlt hk
      have HXX := Lib.hid (show x < m.lb.length ∧ y < m.lb.length from ⟨by rw [← HN.out]; exact hxn, by rw [← HN.out]; exact hyn⟩)
      cases sm with
      | false =>
        have HKD := Lib.hid (show KM w3 w.heap.size C m wc.drew from ⟨HKM.out.x.below (Below.refl _ _).drew, HKM.out.lo.drew⟩)
        go_wp2_with fail
        refine wp_region_W (fun i => decide (i < 29)) 29 1 (by kernel_rfl) (by kernel_rfl) (KM.up w3 w.heap.size C m) HKD.out ?_
        refine wpW_taken (i := 0) rfl (by kernel_rfl) (by kernel_rfl) (by kernel_rfl) (by kernel_rfl) (KM.up w3 w.heap.size C m) ?_
        apply Exists.intro
        refine ⟨Or.inl ⟨rfl, fun W hW => ?hy⟩, ?_⟩
        case hy =>
          go_simp
          exact RegionU.does_value rfl
        simp only [Act.put, List.setIfInBounds_toArray, List.set]
        refine wpW_taken (i := 1) rfl (by kernel_rfl) (by kernel_rfl) (by kernel_rfl) (by kernel_rfl) (KM.up w3 w.heap.size C m) ?_
        apply Exists.intro
        refine ⟨Or.inl ⟨rfl, fun W hW => ?hy⟩, ?_⟩
        case hy =>
          go_simp
          exact RegionU.does_value rfl
        simp only [Act.put, List.setIfInBounds_toArray, List.set]
        refine wpW_taken (i := 2) rfl (by kernel_rfl) (by kernel_rfl) (by kernel_rfl) (by kernel_rfl) (KM.up w3 w.heap.size C m) ?_
        apply Exists.intro
        refine ⟨Or.inl ⟨rfl, fun W hW => ?hy⟩, ?_⟩
        case hy =>
          go_simp
          exact RegionU.does_value rfl
        simp only [Act.put, List.setIfInBounds_toArray, List.set]
        refine wpW_taken (i := 3) rfl (by kernel_rfl) (by kernel_rfl) (by kernel_rfl) (by kernel_rfl) (KM.up w3 w.heap.size C m) ?_
        apply Exists.intro
        refine ⟨Or.inr ⟨rfl, rfl⟩, ?_⟩
        simp only [Act.put, List.setIfInBounds_toArray, List.set]
        refine wpW_taken (i := 4) rfl (by kernel_rfl) (by kernel_rfl) (by kernel_rfl) (by kernel_rfl) (KM.up w3 w.heap.size C m) ?_
        apply Exists.intro
        refine ⟨Or.inr ⟨rfl, rfl⟩, ?_⟩
        simp only [Act.put, List.setIfInBounds_toArray, List.set]
        refine wpW_taken (i := 5) rfl (by kernel_rfl) (by kernel_rfl) (by kernel_rfl) (by kernel_rfl) (KM.up w3 w.heap.size C m) ?_
        apply Exists.intro
        refine ⟨Or.inr ⟨rfl, rfl⟩, ?_⟩
        simp only [Act.put, List.setIfInBounds_toArray, List.set]
        refine wpW_taken (i := 6) rfl (by kernel_rfl) (by kernel_rfl) (by kernel_rfl) (by kernel_rfl) (KM.up w3 w.heap.size C m) ?_
        apply Exists.intro
        refine ⟨Or.inr ⟨rfl, rfl⟩, ?_⟩
        simp only [Act.put, List.setIfInBounds_toArray, List.set]
        refine wpW_taken (i := 7) rfl (by kernel_rfl) (by kernel_rfl) (by kernel_rfl) (by kernel_rfl) (KM.up w3 w.heap.size C m) ?_
        apply Exists.intro
        refine ⟨Or.inr ⟨rfl, rfl⟩, ?_⟩
        simp only [Act.put, List.setIfInBounds_toArray, List.set]
        refine wpW_taken (i := 8) rfl (by kernel_rfl) (by kernel_rfl) (by kernel_rfl) (by kernel_rfl) (KM.up w3 w.heap.size C m) ?_
        apply Exists.intro
        refine ⟨Or.inr ⟨rfl, rfl⟩, ?_⟩
        simp only [Act.put, List.setIfInBounds_toArray, List.set]
        refine wpW_taken (i := 9) rfl (by kernel_rfl) (by kernel_rfl) (by kernel_rfl) (by kernel_rfl) (KM.up w3 w.heap.size C m) ?_
        apply Exists.intro
        refine ⟨Or.inr ⟨rfl, rfl⟩, ?_⟩
        simp only [Act.put, List.setIfInBounds_toArray, List.set]
        refine wpW_taken (i := 10) rfl (by kernel_rfl) (by kernel_rfl) (by kernel_rfl) (by kernel_rfl) (KM.up w3 w.heap.size C m) ?_
        apply Exists.intro
        refine ⟨Or.inr ⟨rfl, rfl⟩, ?_⟩
        simp only [Act.put, List.setIfInBounds_toArray, List.set]
        refine wpW_taken (i := 11) rfl (by kernel_rfl) (by kernel_rfl) (by kernel_rfl) (by kernel_rfl) (KM.up w3 w.heap.size C m) ?_
        apply Exists.intro
        refine ⟨Or.inr ⟨rfl, rfl⟩, ?_⟩
        simp only [Act.put, List.setIfInBounds_toArray, List.set]
        refine wpW_taken (i := 12) rfl (by kernel_rfl) (by kernel_rfl) (by kernel_rfl) (by kernel_rfl) (KM.up w3 w.heap.size C m) ?_
        apply Exists.intro
        refine ⟨Or.inr ⟨rfl, rfl⟩, ?_⟩
        simp only [Act.put, List.setIfInBounds_toArray, List.set]
        refine wpW_taken (i := 13) rfl (by kernel_rfl) (by kernel_rfl) (by kernel_rfl) (by kernel_rfl) (KM.up w3 w.heap.size C m) ?_
        apply Exists.intro
        refine ⟨Or.inr ⟨rfl, rfl⟩, ?_⟩
        simp only [Act.put, List.setIfInBounds_toArray, List.set]
        refine wpW_taken (i := 14) rfl (by kernel_rfl) (by kernel_rfl) (by kernel_rfl) (by kernel_rfl) (KM.up w3 w.heap.size C m) ?_
        apply Exists.intro
        refine ⟨Or.inr ⟨rfl, rfl⟩, ?_⟩
        simp only [Act.put, List.setIfInBounds_toArray, List.set]
        refine wpW_taken (i := 15) rfl (by kernel_rfl) (by kernel_rfl) (by kernel_rfl) (by kernel_rfl) (KM.up w3 w.heap.size C m) ?_
        apply Exists.intro
        refine ⟨Or.inr ⟨rfl, rfl⟩, ?_⟩
        simp only [Act.put, List.setIfInBounds_toArray, List.set]
        refine wpW_taken (i := 16) rfl (by kernel_rfl) (by kernel_rfl) (by kernel_rfl) (by kernel_rfl) (KM.up w3 w.heap.size C m) ?_
        apply Exists.intro
        refine ⟨Or.inr ⟨rfl, rfl⟩, ?_⟩
        simp only [Act.put, List.setIfInBounds_toArray, List.set]
        refine wpW_taken (i := 17) rfl (by kernel_rfl) (by kernel_rfl) (by kernel_rfl) (by kernel_rfl) (KM.up w3 w.heap.size C m) ?_
        apply Exists.intro
        refine ⟨Or.inr ⟨rfl, rfl⟩, ?_⟩
        simp only [Act.put, List.setIfInBounds_toArray, List.set]
        refine wpW_taken (i := 18) rfl (by kernel_rfl) (by kernel_rfl) (by kernel_rfl) (by kernel_rfl) (KM.up w3 w.heap.size C m) ?_
        apply Exists.intro
        refine ⟨Or.inr ⟨rfl, rfl⟩, ?_⟩
        simp only [Act.put, List.setIfInBounds_toArray, List.set]
        refine wpW_taken (i := 19) rfl (by kernel_rfl) (by kernel_rfl) (by kernel_rfl) (by kernel_rfl) (KM.up w3 w.heap.size C m) ?_
        apply Exists.intro
        refine ⟨Or.inr ⟨rfl, rfl⟩, ?_⟩
        simp only [Act.put, List.setIfInBounds_toArray, List.set]
        refine wpW_taken (i := 20) rfl (by kernel_rfl) (by kernel_rfl) (by kernel_rfl) (by kernel_rfl) (KM.up w3 w.heap.size C m) ?_
        apply Exists.intro
        refine ⟨Or.inr ⟨rfl, rfl⟩, ?_⟩
        simp only [Act.put, List.setIfInBounds_toArray, List.set]
        refine wpW_taken (i := 21) rfl (by kernel_rfl) (by kernel_rfl) (by kernel_rfl) (by kernel_rfl) (KM.up w3 w.heap.size C m) ?_
        apply Exists.intro
        refine ⟨Or.inr ⟨rfl, rfl⟩, ?_⟩
        simp only [Act.put, List.setIfInBounds_toArray, List.set]
        refine wpW_taken (i := 22) rfl (by kernel_rfl) (by kernel_rfl) (by kernel_rfl) (by kernel_rfl) (KM.up w3 w.heap.size C m) ?_
        apply Exists.intro
        refine ⟨Or.inr ⟨rfl, rfl⟩, ?_⟩
        simp only [Act.put, List.setIfInBounds_toArray, List.set]
        refine wpW_taken (i := 23) rfl (by kernel_rfl) (by kernel_rfl) (by kernel_rfl) (by kernel_rfl) (KM.up w3 w.heap.size C m) ?_
        apply Exists.intro
        refine ⟨Or.inr ⟨rfl, rfl⟩, ?_⟩
        simp only [Act.put, List.setIfInBounds_toArray, List.set]
        refine wpW_taken (i := 24) rfl (by kernel_rfl) (by kernel_rfl) (by kernel_rfl) (by kernel_rfl) (KM.up w3 w.heap.size C m) ?_
        apply Exists.intro
        refine ⟨Or.inr ⟨rfl, rfl⟩, ?_⟩
        simp only [Act.put, List.setIfInBounds_toArray, List.set]
        refine wpW_taken (i := 25) rfl (by kernel_rfl) (by kernel_rfl) (by kernel_rfl) (by kernel_rfl) (KM.up w3 w.heap.size C m) ?_
        apply Exists.intro
        refine ⟨Or.inl ⟨rfl, fun W hW => ?hy⟩, ?_⟩
        case hy =>
          go_simp
          exact RegionU.does_value rfl
        simp only [Act.put, List.setIfInBounds_toArray, List.set]
        refine wpW_taken (i := 26) rfl (by kernel_rfl) (by kernel_rfl) (by kernel_rfl) (by kernel_rfl) (KM.up w3 w.heap.size C m) ?_
        apply Exists.intro
        refine ⟨Or.inl ⟨rfl, fun W hW => ?hy⟩, ?_⟩
        case hy =>
          go_simp
          exact RegionU.does_value rfl
        simp only [Act.put, List.setIfInBounds_toArray, List.set]
        refine wpW_taken (i := 27) rfl (by kernel_rfl) (by kernel_rfl) (by kernel_rfl) (by kernel_rfl) (KM.up w3 w.heap.size C m) ?_
        apply Exists.intro
        refine ⟨Or.inl ⟨rfl, fun W hW => ?hy⟩, ?_⟩
        case hy =>
          go_simp
          exact RegionU.does_call ((HKN W).mono fun e w' ⟨h, hb⟩ => ⟨h, hb⟩)
        simp only [Act.put, List.setIfInBounds_toArray, List.set]
        refine wpW_taken (i := 28) rfl (by kernel_rfl) (by kernel_rfl) (by kernel_rfl) (by kernel_rfl) (KM.up w3 w.heap.size C m) ?_
        apply Exists.intro
        refine ⟨Or.inl ⟨rfl, fun W hW => ?hy⟩, ?_⟩
        case hy =>
          go_simp
          exact RegionU.does_value rfl
        simp only [Act.put, List.setIfInBounds_toArray, List.set]
        refine wpW_done1 (i := 29) rfl (by kernel_rfl) (by kernel_rfl) ?_
        intro W hW
        have HW := Lib.hid hW.lo
        clear hW
        go_wp2_with fail
        go_ret
        exact ⟨rfl, HB3.out.trans (HW.out.mono HB3.out.size)⟩
      | true =>
        have y2 := (HKM.out.x.lbv HK2.out).2
        obtain ⟨b2, o2, rfl, _, d1⟩ := y2.cell (i := x) HXX.out.1
        obtain ⟨_, _, e2, _, d2⟩ := y2.cell (i := y) HXX.out.2
        simp only [Option.some.injEq, Addr.mk.injEq, and_true] at e2
        obtain ⟨rfl, rfl⟩ := e2
        have hL := HLB.out
        obtain ⟨_, _, e2, _, d3⟩ := (HBI.out _ HKM.out.lo).cell (i := x) (by omega)
        simp only [Option.some.injEq, Addr.mk.injEq, and_true] at e2
        obtain ⟨rfl, rfl⟩ := e2
        obtain ⟨_, _, e2, _, d4⟩ := (HBI.out _ HKM.out.lo).cell (i := y) (by omega)
        simp only [Option.some.injEq, Addr.mk.injEq, and_true] at e2
        obtain ⟨rfl, rfl⟩ := e2
        rw [← HSM.out rfl] at d4
        rw [← blk_lab HOK.out HXX.out.1 HXX.out.2 (HSM.out rfl)] at d2
        obtain ⟨p, hp⟩ : ∃ p, p = m.lb.getD x 0 := ⟨_, rfl⟩
        obtain ⟨q, hq⟩ : ∃ q, q = (blkN m).getD x 0 := ⟨_, rfl⟩
        rw [← hp] at d1 d2
        rw [← hq] at d3 d4
        have HD1 := Lib.hid d1; have HD2 := Lib.hid d2; have HD3 := Lib.hid d3; have HD4 := Lib.hid d4
        have HKD := Lib.hid (show KM wc w.heap.size C m wc.drew from ⟨HKM.out.x.below (Below.refl _ _).drew, (Below.refl _ _).drew⟩)
        have HLO := Lib.hid HKM.out.lo
        clear y2 d1 d2 d3 d4 hL hp hq
        go_wp2_with fail
        refine wp_region_W (fun i => decide (i < 29)) 29 1 (by kernel_rfl) (by kernel_rfl) (KM.up wc w.heap.size C m) HKD.out ?_
        refine wpW_taken (i := 0) rfl (by kernel_rfl) (by kernel_rfl) (by kernel_rfl) (by kernel_rfl) (KM.up wc w.heap.size C m) ?_
        apply Exists.intro
        refine ⟨Or.inl ⟨rfl, fun W hW => ?hy⟩, ?_⟩
        case hy =>
          go_simp
          exact RegionU.does_value rfl
        simp only [Act.put, List.setIfInBounds_toArray, List.set]
        refine wpW_taken (i := 1) rfl (by kernel_rfl) (by kernel_rfl) (by kernel_rfl) (by kernel_rfl) (KM.up wc w.heap.size C m) ?_
        apply Exists.intro
        refine ⟨Or.inl ⟨rfl, fun W hW => ?hy⟩, ?_⟩
        case hy =>
          go_simp
          exact RegionU.does_value rfl
        simp only [Act.put, List.setIfInBounds_toArray, List.set]
        refine wpW_taken (i := 2) rfl (by kernel_rfl) (by kernel_rfl) (by kernel_rfl) (by kernel_rfl) (KM.up wc w.heap.size C m) ?_
        apply Exists.intro
        refine ⟨Or.inl ⟨rfl, fun W hW => ?hy⟩, ?_⟩
        case hy =>
          go_simp
          exact RegionU.does_value rfl
        simp only [Act.put, List.setIfInBounds_toArray, List.set]
        refine wpW_taken (i := 3) rfl (by kernel_rfl) (by kernel_rfl) (by kernel_rfl) (by kernel_rfl) (KM.up wc w.heap.size C m) ?_
        apply Exists.intro
        refine ⟨Or.inl ⟨rfl, fun W hW => ?hy⟩, ?_⟩
        case hy =>
          go_simp
          exact RegionU.does_value rfl
        simp only [Act.put, List.setIfInBounds_toArray, List.set]
        refine wpW_taken (i := 4) rfl (by kernel_rfl) (by kernel_rfl) (by kernel_rfl) (by kernel_rfl) (KM.up wc w.heap.size C m) ?_
        apply Exists.intro
        refine ⟨Or.inl ⟨rfl, fun W hW => ?hy⟩, ?_⟩
        case hy =>
          have d := (hW.x.lbv HK2.out).1
          go_simp
          exact RegionU.does_value rfl
        simp only [Act.put, List.setIfInBounds_toArray, List.set]
        refine wpW_taken (i := 5) rfl (by kernel_rfl) (by kernel_rfl) (by kernel_rfl) (by kernel_rfl) (KM.up wc w.heap.size C m) ?_
        apply Exists.intro
        refine ⟨Or.inl ⟨rfl, fun W hW => ?hy⟩, ?_⟩
        case hy =>
          go_simp
          exact RegionU.does_value rfl
        simp only [Act.put, List.setIfInBounds_toArray, List.set]
        refine wpW_taken (i := 6) rfl (by kernel_rfl) (by kernel_rfl) (by kernel_rfl) (by kernel_rfl) (KM.up wc w.heap.size C m) ?_
        apply Exists.intro
        refine ⟨Or.inl ⟨rfl, fun W hW => ?hy⟩, ?_⟩
        case hy =>
          go_simp
          exact RegionU.does_value rfl
        simp only [Act.put, List.setIfInBounds_toArray, List.set]
        refine wpW_taken (i := 7) rfl (by kernel_rfl) (by kernel_rfl) (by kernel_rfl) (by kernel_rfl) (KM.up wc w.heap.size C m) ?_
        apply Exists.intro
        refine ⟨Or.inl ⟨rfl, fun W hW => ?hy⟩, ?_⟩
        case hy =>
          have d := (Below.cell (p := ⟨b2, o2 + x, none⟩) hW.lo (World.block_lt_of_cell? _ _ HD1.out)).trans HD1.out
          go_simp
          exact RegionU.does_value rfl
        simp only [Act.put, List.setIfInBounds_toArray, List.set]
        refine wpW_taken (i := 8) rfl (by kernel_rfl) (by kernel_rfl) (by kernel_rfl) (by kernel_rfl) (KM.up wc w.heap.size C m) ?_
        apply Exists.intro
        refine ⟨Or.inl ⟨rfl, fun W hW => ?hy⟩, ?_⟩
        case hy =>
          go_simp
          exact RegionU.does_value rfl
        simp only [Act.put, List.setIfInBounds_toArray, List.set]
        refine wpW_taken (i := 9) rfl (by kernel_rfl) (by kernel_rfl) (by kernel_rfl) (by kernel_rfl) (KM.up wc w.heap.size C m) ?_
        apply Exists.intro
        refine ⟨Or.inl ⟨rfl, fun W hW => ?hy⟩, ?_⟩
        case hy =>
          have d := (hW.x.lbv HK2.out).1
          go_simp
          exact RegionU.does_value rfl
        simp only [Act.put, List.setIfInBounds_toArray, List.set]
        refine wpW_taken (i := 10) rfl (by kernel_rfl) (by kernel_rfl) (by kernel_rfl) (by kernel_rfl) (KM.up wc w.heap.size C m) ?_
        apply Exists.intro
        refine ⟨Or.inl ⟨rfl, fun W hW => ?hy⟩, ?_⟩
        case hy =>
          go_simp
          exact RegionU.does_value rfl
        simp only [Act.put, List.setIfInBounds_toArray, List.set]
        refine wpW_taken (i := 11) rfl (by kernel_rfl) (by kernel_rfl) (by kernel_rfl) (by kernel_rfl) (KM.up wc w.heap.size C m) ?_
        apply Exists.intro
        refine ⟨Or.inl ⟨rfl, fun W hW => ?hy⟩, ?_⟩
        case hy =>
          go_simp
          exact RegionU.does_value rfl
        simp only [Act.put, List.setIfInBounds_toArray, List.set]
        refine wpW_taken (i := 12) rfl (by kernel_rfl) (by kernel_rfl) (by kernel_rfl) (by kernel_rfl) (KM.up wc w.heap.size C m) ?_
        apply Exists.intro
        refine ⟨Or.inl ⟨rfl, fun W hW => ?hy⟩, ?_⟩
        case hy =>
          have d := (Below.cell (p := ⟨b2, o2 + y, none⟩) hW.lo (World.block_lt_of_cell? _ _ HD2.out)).trans HD2.out
          go_simp
          exact RegionU.does_value rfl
        simp only [Act.put, List.setIfInBounds_toArray, List.set]
        refine wpW_taken (i := 13) rfl (by kernel_rfl) (by kernel_rfl) (by kernel_rfl) (by kernel_rfl) (KM.up wc w.heap.size C m) ?_
        apply Exists.intro
        refine ⟨Or.inl ⟨rfl, fun W hW => ?hy⟩, ?_⟩
        case hy =>
          go_simp
          exact RegionU.does_value rfl
        simp only [Act.put, List.setIfInBounds_toArray, List.set]
        refine wpW_taken (i := 14) rfl (by kernel_rfl) (by kernel_rfl) (by kernel_rfl) (by kernel_rfl) (KM.up wc w.heap.size C m) ?_
        apply Exists.intro
        refine ⟨Or.inl ⟨rfl, fun W hW => ?hy⟩, ?_⟩
        case hy =>
          go_simp
          exact RegionU.does_value rfl
        simp only [Act.put, List.setIfInBounds_toArray, List.set]
        refine wpW_taken (i := 15) rfl (by kernel_rfl) (by kernel_rfl) (by kernel_rfl) (by kernel_rfl) (KM.up wc w.heap.size C m) ?_
        apply Exists.intro
        refine ⟨Or.inl ⟨rfl, fun W hW => ?hy⟩, ?_⟩
        case hy =>
          go_simp
          exact RegionU.does_value rfl
        simp only [Act.put, List.setIfInBounds_toArray, List.set]
        refine wpW_taken (i := 16) rfl (by kernel_rfl) (by kernel_rfl) (by kernel_rfl) (by kernel_rfl) (KM.up wc w.heap.size C m) ?_
        apply Exists.intro
        refine ⟨Or.inl ⟨rfl, fun W hW => ?hy⟩, ?_⟩
        case hy =>
          go_simp
          exact RegionU.does_value rfl
        simp only [Act.put, List.setIfInBounds_toArray, List.set]
        refine wpW_taken (i := 17) rfl (by kernel_rfl) (by kernel_rfl) (by kernel_rfl) (by kernel_rfl) (KM.up wc w.heap.size C m) ?_
        apply Exists.intro
        refine ⟨Or.inl ⟨rfl, fun W hW => ?hy⟩, ?_⟩
        case hy =>
          go_simp
          exact RegionU.does_value rfl
        simp only [Act.put, List.setIfInBounds_toArray, List.set]
        refine wpW_taken (i := 18) rfl (by kernel_rfl) (by kernel_rfl) (by kernel_rfl) (by kernel_rfl) (KM.up wc w.heap.size C m) ?_
        apply Exists.intro
        refine ⟨Or.inl ⟨rfl, fun W hW => ?hy⟩, ?_⟩
        case hy =>
          have d := (Below.cell (p := ⟨b1, o1 + x, none⟩) hW.lo (World.block_lt_of_cell? _ _ HD3.out)).trans HD3.out
          go_simp
          exact RegionU.does_value rfl
        simp only [Act.put, List.setIfInBounds_toArray, List.set]
        refine wpW_taken (i := 19) rfl (by kernel_rfl) (by kernel_rfl) (by kernel_rfl) (by kernel_rfl) (KM.up wc w.heap.size C m) ?_
        apply Exists.intro
        refine ⟨Or.inl ⟨rfl, fun W hW => ?hy⟩, ?_⟩
        case hy =>
          go_simp
          exact RegionU.does_value rfl
        simp only [Act.put, List.setIfInBounds_toArray, List.set]
        refine wpW_taken (i := 20) rfl (by kernel_rfl) (by kernel_rfl) (by kernel_rfl) (by kernel_rfl) (KM.up wc w.heap.size C m) ?_
        apply Exists.intro
        refine ⟨Or.inl ⟨rfl, fun W hW => ?hy⟩, ?_⟩
        case hy =>
          go_simp
          exact RegionU.does_value rfl
        simp only [Act.put, List.setIfInBounds_toArray, List.set]
        refine wpW_taken (i := 21) rfl (by kernel_rfl) (by kernel_rfl) (by kernel_rfl) (by kernel_rfl) (KM.up wc w.heap.size C m) ?_
        apply Exists.intro
        refine ⟨Or.inl ⟨rfl, fun W hW => ?hy⟩, ?_⟩
        case hy =>
          go_simp
          exact RegionU.does_value rfl
        simp only [Act.put, List.setIfInBounds_toArray, List.set]
        refine wpW_taken (i := 22) rfl (by kernel_rfl) (by kernel_rfl) (by kernel_rfl) (by kernel_rfl) (KM.up wc w.heap.size C m) ?_
        apply Exists.intro
        refine ⟨Or.inl ⟨rfl, fun W hW => ?hy⟩, ?_⟩
        case hy =>
          have d := (Below.cell (p := ⟨b1, o1 + y, none⟩) hW.lo (World.block_lt_of_cell? _ _ HD4.out)).trans HD4.out
          go_simp
          exact RegionU.does_value rfl
        simp only [Act.put, List.setIfInBounds_toArray, List.set]
        refine wpW_taken (i := 23) rfl (by kernel_rfl) (by kernel_rfl) (by kernel_rfl) (by kernel_rfl) (KM.up wc w.heap.size C m) ?_
        apply Exists.intro
        refine ⟨Or.inl ⟨rfl, fun W hW => ?hy⟩, ?_⟩
        case hy =>
          go_simp
          exact RegionU.does_value rfl
        simp only [Act.put, List.setIfInBounds_toArray, List.set]
        refine wpW_taken (i := 24) rfl (by kernel_rfl) (by kernel_rfl) (by kernel_rfl) (by kernel_rfl) (KM.up wc w.heap.size C m) ?_
        apply Exists.intro
        refine ⟨Or.inl ⟨rfl, fun W hW => ?hy⟩, ?_⟩
        case hy =>
          go_simp
          exact RegionU.does_value rfl
        simp only [Act.put, List.setIfInBounds_toArray, List.set]
        refine wpW_taken (i := 25) rfl (by kernel_rfl) (by kernel_rfl) (by kernel_rfl) (by kernel_rfl) (KM.up wc w.heap.size C m) ?_
        apply Exists.intro
        refine ⟨Or.inl ⟨rfl, fun W hW => ?hy⟩, ?_⟩
        case hy =>
          go_simp
          exact RegionU.does_value rfl
        simp only [Act.put, List.setIfInBounds_toArray, List.set]
        refine wpW_taken (i := 26) rfl (by kernel_rfl) (by kernel_rfl) (by kernel_rfl) (by kernel_rfl) (KM.up wc w.heap.size C m) ?_
        apply Exists.intro
        refine ⟨Or.inl ⟨rfl, fun W hW => ?hy⟩, ?_⟩
        case hy =>
          go_simp
          exact RegionU.does_value rfl
        simp only [Act.put, List.setIfInBounds_toArray, List.set]
        refine wpW_taken (i := 27) rfl (by kernel_rfl) (by kernel_rfl) (by kernel_rfl) (by kernel_rfl) (KM.up wc w.heap.size C m) ?_
        apply Exists.intro
        refine ⟨Or.inl ⟨rfl, fun W hW => ?hy⟩, ?_⟩
        case hy =>
          go_simp
          exact RegionU.does_call ((HKN W).mono fun e w' ⟨h, hb⟩ => ⟨h, hb⟩)
        simp only [Act.put, List.setIfInBounds_toArray, List.set]
        refine wpW_taken (i := 28) rfl (by kernel_rfl) (by kernel_rfl) (by kernel_rfl) (by kernel_rfl) (KM.up wc w.heap.size C m) ?_
        apply Exists.intro
        refine ⟨Or.inl ⟨rfl, fun W hW => ?hy⟩, ?_⟩
        case hy =>
          go_simp
          exact RegionU.does_value rfl
        simp only [Act.put, List.setIfInBounds_toArray, List.set]
        refine wpW_done1 (i := 29) rfl (by kernel_rfl) (by kernel_rfl) ?_
        intro W hW
        have HW := Lib.hid hW.lo
        clear hW
        go_wp2_with fail
        go_ret
        exact ⟨rfl, HB3.out.trans ((HLO.out.trans (HW.out.mono HLO.out.size)).mono HB3.out.size)⟩
end Go.Proofs.Ytfhddbjojpmbcaa.DfaW
