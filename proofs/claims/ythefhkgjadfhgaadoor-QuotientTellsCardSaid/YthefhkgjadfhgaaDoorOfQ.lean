/- Walk of Of: the machine of blocks. -/
import Derived.Test.YthefhkgjadfhgaaDoorBuilt
import Derived.Test.YthefhkgjadfhgaaDoorStabQ
namespace Go.Proofs.YthefhkgjadfhgaaDoor.DfaW
set_option linter.unusedVariables false
set_option linter.unusedSimpArgs false
open Go.Proofs.YthefhkgjadfhgaaDoor.RegionU (Up wpW_taken wpW_takenY wpW_one wpW_two wpW_done1 wpW_done2 wpW_done3 wpW_have wp_region_W)
open Go.RowKit Go.Maps Go.Proofs.YthefhkgjadfhgaaDoor.PartM Go.Proofs.YthefhkgjadfhgaaDoor.PartW
def labsQ (m : Mc) (l : List Int) : List Int := (reps (blkE l) l.length).map fun s => m.lb.getD s 0
def rowsQ (m : Mc) (l : List Int) : List (List Int) := (reps (blkE l) l.length).map (ofRow m l)
theorem rowsQ_len (m : Mc) (l : List Int) : (rowsQ m l).length = (firstsI (blkE l) l.length).length := by simp [rowsQ, firstsI]
theorem labsQ_len (m : Mc) (l : List Int) : (labsQ m l).length = (firstsI (blkE l) l.length).length := by simp [labsQ, firstsI]
/-- The k-th first one. -/
theorem firstsI_lt {E : Nat → Nat → Bool} {n k : Nat} (hk : k < (firstsI E n).length) : ∃ s : Nat, (reps E n).getD k 0 = s ∧ (firstsI E n).getD k 0 = s ∧ s < n := by
  unfold firstsI at hk ⊢
  rw [List.length_map] at hk
  refine ⟨(reps E n)[k], by simp [List.getD, hk], by simp [List.getD, hk], ?_⟩
  have := List.getElem_mem hk
  unfold reps at this
  exact List.mem_range.1 (List.mem_filter.1 this).1
theorem labsQ_pick {m : Mc} {l : List Int} (hl : l.length = m.lb.length) : (∀ i, i < (firstsI (blkE l) l.length).length → ∃ k : Nat, (firstsI (blkE l) l.length).getD i 0 = k ∧ k < m.lb.length ∧ m.lb.getD k 0 = m.lb.getD ((reps (blkE l) l.length).getD i 0) 0) ∧
    (List.range (firstsI (blkE l) l.length).length).map (fun i => m.lb.getD ((reps (blkE l) l.length).getD i 0) 0) = labsQ m l := by
  refine ⟨fun i hi => ?_, ?_⟩
  · obtain ⟨s, h1, h2, h3⟩ := firstsI_lt hi
    exact ⟨s, h2, by omega, by rw [h1]⟩
  · have := range_map (reps (blkE l) l.length) 0 fun s => m.lb.getD s 0
    rw [firstsI_len, ← reps_len]; exact this
theorem rowsQ_at {m : Mc} {l : List Int} {k : Nat} (hk : k < (firstsI (blkE l) l.length).length) : (rowsQ m l).getD k [] = ofRow m l ((reps (blkE l) l.length).getD k 0) := by
  have h : k < (reps (blkE l) l.length).length := by rw [firstsI_len, ← reps_len] at hk; exact hk
  unfold rowsQ
  simp [List.getD, h]
/-- A row of the blocks, picked. -/
theorem rowQ_pick {m : Mc} {l : List Int} (hok : Ok m) (hl : l.length = m.lb.length) {s : Nat} (hs : s < m.lb.length) :
    (∀ i, i < (m.nx.getD s []).length → ∃ k : Nat, (m.nx.getD s []).getD i 0 = k ∧ k < (numsTo (blkE l) l.length).length ∧ (numsTo (blkE l) l.length).getD k 0 = ((nm (blkE l) (((m.nx.getD s []).getD i 0).toNat) : Nat) : Int)) ∧
    (List.range (m.nx.getD s []).length).map (fun i => ((nm (blkE l) (((m.nx.getD s []).getD i 0).toNat) : Nat) : Int)) = ofRow m l s := by
  refine ⟨fun i hi => ?_, range_map (m.nx.getD s []) 0 fun t => ((nm (blkE l) t.toNat : Nat) : Int)⟩
  have hr := hok.row hs
  have h4 := hok.cell hs (c := i) (by omega)
  refine ⟨at2 m.nx s i, h4.1, by rw [numsTo_len, hl]; exact h4.2, ?_⟩
  rw [numsTo_at _ (by rw [hl]; exact h4.2), h4.1]; rfl
/-- What the loop knows. -/
def OfQ (W5 : World) (bk : Nat) (C : Array Value) (m : Mc) (l : List Int) (v2 u : Value) (R : Nat) (i : Value) (wr : World) : Prop :=
  ∃ (k : Nat) (v1 : Value), k ≤ R ∧ i = .int .i64 k ∧ Rw W5 wr bk W5.heap.size (ofC C) m.wd v1 v2 u ((rowsQ m l).take k)
set_option maxRecDepth 100000 in
set_option maxHeartbeats 8000000 in
theorem quoOf_any : OfC 14 := fun {C m v l X} w hm hv h6 hX => by
  have hx := (Bx.new hm.is).alloc (.cells Tryd.zeroCells27 27)
  have hz : Ar ((w.alloc (.cells C 27)).alloc (.cells Tryd.zeroCells27 27)) (w.heap.size + 1) Tryd.zeroCells27 27 := by
    have := Ar.new (w.alloc (.cells C 27)) Tryd.zeroCells27 27
    rw [World.size_alloc] at this; exact this
  have hb0 : Below w.heap.size w ((w.alloc (.cells C 27)).alloc (.cells Tryd.zeroCells27 27)) := ((Below.refl _ _).alloc (Nat.le_refl _) _).alloc (by simp) _
  have hs0 : ((w.alloc (.cells C 27)).alloc (.cells Tryd.zeroCells27 27)).heap.size = w.heap.size + 2 := by simp
  obtain ⟨a1, a2, a3, c1, c2, c3, k1, k2, k3⟩ := hm.is.slices
  obtain ⟨va, vc, rfl, _, g2, _⟩ := hv.open
  have HK := Lib.hid (show C[257]? = some (.slice a1 m.nx.length c1) ∧ C[258]? = some (.slice a2 m.lb.length c2) ∧ C[259]? = some (.slice a3 m.nm.length c3) from ⟨k1, k2, k3⟩)
  have HXX := Lib.hid hX; have H6 := Lib.hid h6
  have HX := Lib.hid hx; have HZ := Lib.hid hz; have HB0 := Lib.hid hb0; have HS0 := Lib.hid hs0
  have HZO := Lib.hid (IsM.one (zero_is w)); have HZS := Lib.hid zc_size
  have HA := Lib.hid hm.is.isA; have HAF := Lib.hid hm.is.oflt
  have HV := Lib.hid (fun W (hb : Below w.heap.size w W) => (hv.below hb).up hb.size)
  have HNM := Lib.hid (Bx.nmv hx k3).2.szs
  clear hx hz hb0 hs0 k1 k2 k3 hm hX hv g2 h6
  go_enter Tryd.func14, Tryd.ntmps14
  go_wp2_with (refine wpList_load_dfa rfl (.tmp 2) rfl rfl HX.out ?_)
  refine (RightD_any _ HX.out.is).mono ?_
  rintro e w2 ⟨hs, hb1⟩
  have HX2 := Lib.hid (HX.out.below hb1); have HZ2 := Lib.hid (HZ.out.below hb1)
  have HB2 := Lib.hid (HB0.out.trans (hb1.mono HB0.out.size))
  have HS2 := Lib.hid (show w.heap.size + 2 ≤ w2.heap.size by have := hb1.size; rw [HS0.out] at this; exact this)
  clear hb1 HX HZ HB0 HS0
  rcases hs.elim with ⟨rfl, hk⟩ | ⟨rfl, hk⟩
  case inr =>
    have HE := Lib.hid (of_no (l := l) hk)
    clear hs hk
    go_wp2_with (refine wpList_store_dfa rfl (.tmp 4) (.tmp 14) rfl rfl rfl HZ2.out HZS.out HZS.out HZO.out ?_; simp only [Act.put])
    refine bodyPost_ret (res_kept rfl rfl rfl (HZ2.out.row _) HZS.out) rfl ⟨_, by rw [HE.out.1]; rfl, by rw [HE.out.2]; exact zero_rx _ _, below_row HB2.out (by omega) _⟩
  have HOK := Lib.hid hk
  clear hs hk
  go_wp2_with (refine wpList_load_dfa rfl (.tmp 2) rfl rfl HX2.out ?_)
  refine (stable_any _ HX2.out.is HOK.out (HV.out _ HB2.out) H6.out).mono ?_
  rintro e w3 ⟨hs, hb1⟩
  have HX3 := Lib.hid (HX2.out.below hb1); have HZ3 := Lib.hid (HZ2.out.below hb1)
  have HB3 := Lib.hid (HB2.out.trans (hb1.mono HB2.out.size))
  have HS3 := Lib.hid (Nat.le_trans HS2.out hb1.size)
  clear hb1 HX2 HZ2 HB2 HS2
  rcases hs.elim with ⟨rfl, hk⟩ | ⟨rfl, hk⟩
  case inr =>
    have HE := Lib.hid (of_arg HOK.out hk)
    clear hs hk
    go_wp2_with (refine wpList_store_dfa rfl (.tmp 4) (.tmp 19) rfl rfl rfl HZ3.out HZS.out HZS.out HZO.out ?_; simp only [Act.put])
    refine bodyPost_ret (res_kept rfl rfl rfl (HZ3.out.row _) HZS.out) rfl ⟨_, by rw [HE.out.1]; rfl, by rw [HE.out.2]; exact zero_rx _ _, below_row HB3.out (by omega) _⟩
  have HST := Lib.hid hk
  have HE := Lib.hid (of_yes hk)
  clear hs hk
  have hn5 := HOK.out.lbs.2.1
  have HLN := Lib.hid (show l.length = m.lb.length ∧ l.length ≤ 65536 from ⟨HST.out.2.1, by have := HST.out.2.1; omega⟩)
  go_wp2_with fail
  refine (normal_any _ (HV.out _ HB3.out) H6.out (by have := HLN.out.2; omega)).mono ?_
  rintro e W0 ⟨u, x, rfl, ho1, ho2, hb1⟩
  have HX := Lib.hid (HX3.out.below hb1); have HZ := Lib.hid (HZ3.out.below hb1)
  have HB0 := Lib.hid (HB3.out.trans (hb1.mono HB3.out.size))
  have HS0 := Lib.hid (Nat.le_trans HS3.out hb1.size)
  have hi1 := ho1.is; have hi2 := ho2.is
  unfold normV at hi1
  obtain ⟨L, hL⟩ : ∃ L, L = l.length := ⟨_, rfl⟩
  rw [← hL] at hi1 hi2
  have HL := Lib.hid hL
  obtain ⟨au, cu, rfl, _, _, _⟩ := hi1.open
  obtain ⟨ax, cx, rfl, _, _, hcx⟩ := hi2.open
  rw [numsTo_len] at hi1 ⊢
  obtain ⟨R, hR⟩ : ∃ r, r = (firstsI (blkE l) L).length := ⟨_, rfl⟩
  have hRL : R ≤ L := by rw [hR, firstsI_len]; exact rk_le _
  have HRE := Lib.hid (show R = (firstsI (blkE l) L).length ∧ R ≤ 65536 from ⟨hR, by have := HLN.out.2; omega⟩)
  have hRi : (R : Int) ≤ 65536 := by have := HRE.out.2; omega
  rw [← hR] at hi2 hcx ⊢
  have HU := Lib.hid hi1; have HXS := Lib.hid hi2; have HCX := Lib.hid hcx
  clear ho1 ho2 hb1 hi1 hi2 hcx hR hRL HX3 HZ3 HB3 HS3 hL hn5
  go_wp2_with fail
  have HPK := Lib.hid (fun W (hW : KB W0 W) => picked_any W (((HX.out.below hW).lbv HK.out.2.1).2) ((HXS.out.below hW).up (Below.size hW)) (by rw [← HRE.out.1]; have := HRE.out.2; omega) (by have := (labsQ_pick (m := m) HLN.out.1).1; rw [← HL.out] at this; exact this))
  have HPL := Lib.hid (show (List.range (firstsI (blkE l) L).length).map (fun i => m.lb.getD ((reps (blkE l) L).getD i 0) 0) = labsQ m l by have := (labsQ_pick (m := m) HLN.out.1).2; rw [← HL.out] at this; exact this)
  rw [HPL.out] at HPK
  have HLL := Lib.hid (show (labsQ m l).length = R by rw [labsQ_len, ← HL.out, HRE.out.1])
  have HNL := Lib.hid (show m.nm.length ≤ 65536 by have := HOK.out.nms.1; omega)
  have HD := Lib.hid (show KB W0 W0.drew from (Below.refl _ _).drew)
  refine wp_region_W (fun i => decide (i < 13)) 13 1 (by kernel_rfl) (by kernel_rfl) (KB.up W0) HD.out ?_
  refine wpW_taken (i := 0) rfl (by kernel_rfl) (by kernel_rfl) (by kernel_rfl) (by kernel_rfl) (KB.up W0) ?_
  apply Exists.intro
  refine ⟨Or.inl ⟨rfl, fun W hW => ?hy⟩, ?_⟩
  case hy =>
    go_simp
    exact RegionU.does_value rfl
  simp only [Act.put, List.setIfInBounds_toArray, List.set]
  refine wpW_taken (i := 1) rfl (by kernel_rfl) (by kernel_rfl) (by kernel_rfl) (by kernel_rfl) (KB.up W0) ?_
  apply Exists.intro
  refine ⟨Or.inl ⟨rfl, fun W hW => ?hy⟩, ?_⟩
  case hy =>
    exact does_eq (run_load_of (.tmp 25) rfl rfl (HX.out.below hW))
  simp only [Act.put, List.setIfInBounds_toArray, List.set]
  refine wpW_taken (i := 2) rfl (by kernel_rfl) (by kernel_rfl) (by kernel_rfl) (by kernel_rfl) (KB.up W0) ?_
  apply Exists.intro
  refine ⟨Or.inl ⟨rfl, fun W hW => ?hy⟩, ?_⟩
  case hy =>
    go_simp
    exact RegionU.does_value rfl
  simp only [Act.put, List.setIfInBounds_toArray, List.set]
  refine wpW_taken (i := 3) rfl (by kernel_rfl) (by kernel_rfl) (by kernel_rfl) (by kernel_rfl) (KB.up W0) ?_
  apply Exists.intro
  refine ⟨Or.inl ⟨rfl, fun W hW => ?hy⟩, ?_⟩
  case hy =>
    have d := (HX.out.below hW).wd
    go_simp
    exact RegionU.does_value rfl
  simp only [Act.put, List.setIfInBounds_toArray, List.set]
  refine wpW_taken (i := 4) rfl (by kernel_rfl) (by kernel_rfl) (by kernel_rfl) (by kernel_rfl) (KB.up W0) ?_
  apply Exists.intro
  refine ⟨Or.inl ⟨rfl, fun W hW => ?hy⟩, ?_⟩
  case hy =>
    go_simp
    exact RegionU.does_value rfl
  simp only [Act.put, List.setIfInBounds_toArray, List.set]
  refine wpW_taken (i := 5) rfl (by kernel_rfl) (by kernel_rfl) (by kernel_rfl) (by kernel_rfl) (KB.up W0) ?_
  apply Exists.intro
  refine ⟨Or.inl ⟨rfl, fun W hW => ?hy⟩, ?_⟩
  case hy =>
    have d := ((HX.out.below hW).lbv HK.out.2.1).1
    go_simp
    exact RegionU.does_value rfl
  simp only [Act.put, List.setIfInBounds_toArray, List.set]
  refine wpW_taken (i := 6) rfl (by kernel_rfl) (by kernel_rfl) (by kernel_rfl) (by kernel_rfl) (KB.up W0) ?_
  apply Exists.intro
  refine ⟨Or.inl ⟨rfl, fun W hW => ?hy⟩, ?_⟩
  case hy =>
    go_simp
    exact RegionU.does_value rfl
  simp only [Act.put, List.setIfInBounds_toArray, List.set]
  refine wpW_taken (i := 8) rfl (by kernel_rfl) (by kernel_rfl) (by kernel_rfl) (by kernel_rfl) (KB.up W0) ?_
  apply Exists.intro
  refine ⟨Or.inl ⟨rfl, fun W hW => ?hy⟩, ?_⟩
  case hy =>
    go_simp
    exact RegionU.does_value rfl
  simp only [Act.put, List.setIfInBounds_toArray, List.set]
  refine wpW_taken (i := 9) rfl (by kernel_rfl) (by kernel_rfl) (by kernel_rfl) (by kernel_rfl) (KB.up W0) ?_
  apply Exists.intro
  refine ⟨Or.inl ⟨rfl, fun W hW => ?hy⟩, ?_⟩
  case hy =>
    have d := ((HX.out.below hW).nmv HK.out.2.2).1
    go_simp
    exact RegionU.does_value rfl
  simp only [Act.put, List.setIfInBounds_toArray, List.set]
  refine have REST : ∀ (W : World) (b : Nat) (a7 : Option Addr) (c7 : Nat) (a8 : Option Addr) (c8 : Nat), KB W0 W → OI W W0.heap.size (.slice a7 R c7) (labsQ m l) → OS W W0.heap.size (.slice a8 m.nm.length c8) m.nm → Ar W b Tryd.zeroCells27 27 → W0.heap.size ≤ b → wpList Tryd.prog ?opsR ?QR ?tlR ((?actR : Nat → Option Addr → Nat → Option Addr → Nat → Act) b a7 c7 a8 c8) W := ?rest; ?main
  case main =>
    refine wpW_two (i := 7) (j := 12) (by kernel_rfl) (by kernel_rfl) (by kernel_rfl) rfl rfl rfl rfl (QI W0.heap.size (labsQ m l)) (QB W0.heap.size Tryd.zeroCells27) (QI.up _ _) (QB.up _ _) (fun W hW => ?hy7) (fun W hW => ?hy12) ?_ ?_
    case hy7 =>
      go_simp
      exact does_in ((HPK.out W hW).mono fun e w' ⟨v, h, ho, hb⟩ => ⟨v, h, owns_base ho (Below.size (show KB W0 W from hW)), hb⟩)
    case hy12 =>
      go_simp
      exact RegionU.does_made ⟨_, rfl, Ar.new _ _ _, Below.size (show KB W0 W from hW)⟩ (al_b _ _)
    · intro u7
      simp only [Act.put, List.setIfInBounds_toArray, List.set]
      refine wpW_have (p := ∃ a5 c5, u7 = .slice a5 R c5) (fun W hW => ?_) ?_
      · obtain ⟨a5, c5, hf5, _, _⟩ := OI.len (show OI _ _ _ _ from hW.2); rw [HLL.out] at hf5; exact ⟨a5, c5, hf5⟩
      rintro ⟨a7, c7, rfl⟩
      refine wpW_two (i := 10) (j := 12) (by kernel_rfl) (by kernel_rfl) (by kernel_rfl) rfl rfl rfl rfl (QT W0.heap.size m.nm) (QB W0.heap.size Tryd.zeroCells27) (QT.up _ _) (QB.up _ _) (fun W hW => ?hy10) (fun W hW => ?hy12) ?_ ?_
      case hy10 =>
        go_simp
        exact does_in ((clonesS_any W ((HX.out.below (show KB W0 W from hW.1)).nmv HK.out.2.2).2 HNL.out).mono fun e w' ⟨v, h, ho, hb⟩ => ⟨v, h, owns_base ho (Below.size (show KB W0 W from hW.1)), hb⟩)
      case hy12 =>
        go_simp
        exact RegionU.does_made ⟨_, rfl, Ar.new _ _ _, Below.size (show KB W0 W from hW.1)⟩ (al_b _ _)
      · intro u10
        simp only [Act.put, List.setIfInBounds_toArray, List.set]
        refine wpW_have (p := ∃ a5 c5, u10 = .slice a5 m.nm.length c5) (fun W hW => ?_) ?_
        · obtain ⟨a5, c5, hf5, _, _⟩ := OS.len (show OS _ _ _ _ from hW.2); exact ⟨a5, c5, hf5⟩
        rintro ⟨a8, c8, rfl⟩
        refine wpW_taken (i := 11) rfl (by kernel_rfl) (by kernel_rfl) (by kernel_rfl) (by kernel_rfl) (((KB.up W0).and (QI.up _ _ (.slice a7 R c7))).and (QT.up _ _ (.slice a8 m.nm.length c8))) ?_
        apply Exists.intro
        refine ⟨Or.inl ⟨rfl, fun W hW => ?hy⟩, ?_⟩
        case hy =>
          exact does_eq (run_op_build6 (.tmp 26) (.tmp 28) (.tmp 32) (.tmp 35) rfl HA.out.size rfl rfl rfl rfl)
        simp only [Act.put, List.setIfInBounds_toArray, List.set]
        refine wpW_one (i := 12) (by kernel_rfl) (by kernel_rfl) rfl rfl (QB W0.heap.size Tryd.zeroCells27) (QB.up _ _) (fun W hW => ?hy) ?_
        case hy =>
          go_simp
          exact RegionU.does_made ⟨_, rfl, Ar.new _ _ _, Below.size (show KB W0 W from hW.1.1)⟩ (al_b _ _)
        intro u12
        simp only [Act.put, List.setIfInBounds_toArray, List.set]
        refine wpW_have (p := ∃ b, u12 = .pointer (some ⟨b, 0, none⟩)) (fun W hW => ?_) ?_
        · obtain ⟨b, h, _⟩ := hW.2; exact ⟨b, h⟩
        rintro ⟨b, rfl⟩
        refine wpW_done1 (i := 13) rfl (by kernel_rfl) (by kernel_rfl) ?_
        intro W hW
        obtain ⟨b2, h3, h4, h5⟩ := hW.2
        obtain rfl : b = b2 := by simpa using h3
        exact REST W b a7 c7 a8 c8 hW.1.1.1 hW.1.1.2 hW.1.2 h4 h5
      · intro u12
        simp only [Act.put, List.setIfInBounds_toArray, List.set]
        refine wpW_have (p := ∃ b, u12 = .pointer (some ⟨b, 0, none⟩)) (fun W hW => ?_) ?_
        · obtain ⟨b, h, _⟩ := hW.2; exact ⟨b, h⟩
        rintro ⟨b, rfl⟩
        refine wpW_one (i := 10) (by kernel_rfl) (by kernel_rfl) rfl rfl (QT W0.heap.size m.nm) (QT.up _ _) (fun W hW => ?hy) ?_
        case hy =>
          go_simp
          exact does_in ((clonesS_any W ((HX.out.below (show KB W0 W from hW.1.1)).nmv HK.out.2.2).2 HNL.out).mono fun e w' ⟨v, h, ho, hb⟩ => ⟨v, h, owns_base ho (Below.size (show KB W0 W from hW.1.1)), hb⟩)
        intro u10
        simp only [Act.put, List.setIfInBounds_toArray, List.set]
        refine wpW_have (p := ∃ a5 c5, u10 = .slice a5 m.nm.length c5) (fun W hW => ?_) ?_
        · obtain ⟨a5, c5, hf5, _, _⟩ := OS.len (show OS _ _ _ _ from hW.2); exact ⟨a5, c5, hf5⟩
        rintro ⟨a8, c8, rfl⟩
        refine wpW_taken (i := 11) rfl (by kernel_rfl) (by kernel_rfl) (by kernel_rfl) (by kernel_rfl) ((((KB.up W0).and (QI.up _ _ (.slice a7 R c7))).and (QB.up _ _ (.pointer (some ⟨b, 0, none⟩)))).and (QT.up _ _ (.slice a8 m.nm.length c8))) ?_
        apply Exists.intro
        refine ⟨Or.inl ⟨rfl, fun W hW => ?hy⟩, ?_⟩
        case hy =>
          exact does_eq (run_op_build6 (.tmp 26) (.tmp 28) (.tmp 32) (.tmp 35) rfl HA.out.size rfl rfl rfl rfl)
        simp only [Act.put, List.setIfInBounds_toArray, List.set]
        refine wpW_done1 (i := 13) rfl (by kernel_rfl) (by kernel_rfl) ?_
        intro W hW
        obtain ⟨b2, h3, h4, h5⟩ := hW.1.2
        obtain rfl : b = b2 := by simpa using h3
        exact REST W b a7 c7 a8 c8 hW.1.1.1 hW.1.1.2 hW.2 h4 h5
    · intro u12
      simp only [Act.put, List.setIfInBounds_toArray, List.set]
      refine wpW_have (p := ∃ b, u12 = .pointer (some ⟨b, 0, none⟩)) (fun W hW => ?_) ?_
      · obtain ⟨b, h, _⟩ := hW.2; exact ⟨b, h⟩
      rintro ⟨b, rfl⟩
      refine wpW_one (i := 7) (by kernel_rfl) (by kernel_rfl) rfl rfl (QI W0.heap.size (labsQ m l)) (QI.up _ _) (fun W hW => ?hy) ?_
      case hy =>
        go_simp
        exact does_in ((HPK.out W hW.1).mono fun e w' ⟨v, h, ho, hb⟩ => ⟨v, h, owns_base ho (Below.size (show KB W0 W from hW.1)), hb⟩)
      intro u7
      simp only [Act.put, List.setIfInBounds_toArray, List.set]
      refine wpW_have (p := ∃ a5 c5, u7 = .slice a5 R c5) (fun W hW => ?_) ?_
      · obtain ⟨a5, c5, hf5, _, _⟩ := OI.len (show OI _ _ _ _ from hW.2); rw [HLL.out] at hf5; exact ⟨a5, c5, hf5⟩
      rintro ⟨a7, c7, rfl⟩
      refine wpW_one (i := 10) (by kernel_rfl) (by kernel_rfl) rfl rfl (QT W0.heap.size m.nm) (QT.up _ _) (fun W hW => ?hy) ?_
      case hy =>
        go_simp
        exact does_in ((clonesS_any W ((HX.out.below (show KB W0 W from hW.1.1)).nmv HK.out.2.2).2 HNL.out).mono fun e w' ⟨v, h, ho, hb⟩ => ⟨v, h, owns_base ho (Below.size (show KB W0 W from hW.1.1)), hb⟩)
      intro u10
      simp only [Act.put, List.setIfInBounds_toArray, List.set]
      refine wpW_have (p := ∃ a5 c5, u10 = .slice a5 m.nm.length c5) (fun W hW => ?_) ?_
      · obtain ⟨a5, c5, hf5, _, _⟩ := OS.len (show OS _ _ _ _ from hW.2); exact ⟨a5, c5, hf5⟩
      rintro ⟨a8, c8, rfl⟩
      refine wpW_taken (i := 11) rfl (by kernel_rfl) (by kernel_rfl) (by kernel_rfl) (by kernel_rfl) ((((KB.up W0).and (QB.up _ _ (.pointer (some ⟨b, 0, none⟩)))).and (QI.up _ _ (.slice a7 R c7))).and (QT.up _ _ (.slice a8 m.nm.length c8))) ?_
      apply Exists.intro
      refine ⟨Or.inl ⟨rfl, fun W hW => ?hy⟩, ?_⟩
      case hy =>
        exact does_eq (run_op_build6 (.tmp 26) (.tmp 28) (.tmp 32) (.tmp 35) rfl HA.out.size rfl rfl rfl rfl)
      simp only [Act.put, List.setIfInBounds_toArray, List.set]
      refine wpW_done1 (i := 13) rfl (by kernel_rfl) (by kernel_rfl) ?_
      intro W hW
      obtain ⟨b2, h3, h4, h5⟩ := hW.1.1.2
      obtain rfl : b = b2 := by simpa using h3
      exact REST W b a7 c7 a8 c8 hW.1.1.1 hW.1.2 hW.2 h4 h5
  case rest =>
    intro W bk a7 c7 a8 c8 hKB hO hS hAb hbk
    have HONE := Lib.hid (oneAll (one_of HA.out) (x := .int .i64 m.wd) (v1 := nilS) (v2 := .slice a7 R c7) (v3 := .slice a8 m.nm.length c8) rfl rfl rfl rfl)
    have HMS := Lib.hid (fun (x v1 v2 v3 : Value) => mkC_size HA.out.size x v1 v2 v3)
    have hA5 := hAb.row (mkC (ofC C) (.int .i64 m.wd) nilS (.slice a7 R c7) (.slice a8 m.nm.length c8))
    have hkb : Below W0.heap.size W0 W := hKB
    have hs0 := HS0.out
    have hb5 : Below W0.heap.size W0 (W.setRow bk (mkC (ofC C) (.int .i64 m.wd) nilS (.slice a7 R c7) (.slice a8 m.nm.length c8))) := below_row hkb hbk _
    have hO5 : OI (W.setRow bk (mkC (ofC C) (.int .i64 m.wd) nilS (.slice a7 R c7) (.slice a8 m.nm.length c8))) W0.heap.size (.slice a7 R c7) (labsQ m l) := own_keep hO fun g hg => heap_row _ _ _ (own_apart hO hAb (by decide) hg)
    have hS5 : OS (W.setRow bk (mkC (ofC C) (.int .i64 m.wd) nilS (.slice a7 R c7) (.slice a8 m.nm.length c8))) W0.heap.size (.slice a8 m.nm.length c8) m.nm := own_keep hS fun g hg => heap_row _ _ _ (own_apart hS hAb (by decide) hg)
    refine wpList_store_dfa rfl (.tmp 8) (.tmp 36) rfl rfl rfl hAb HZS.out (HMS.out _ _ _ _) HONE.out ?_
    simp only [Act.put]
    have HKP := Lib.hid (Rw.first hA5)
    have HM5 := Lib.hid (rx_own (x := m.wd) HA.out HAF.out hA5 hO5 hS5 HNM.out)
    have HB5 := Lib.hid hb5; have HBK := Lib.hid hbk
    clear hA5 hb5 hO5 hS5 hKB hkb hO hS hAb hbk hs0 HD HPK HPL HONE
    generalize (W.setRow bk (mkC (ofC C) (.int .i64 m.wd) nilS (.slice a7 R c7) (.slice a8 m.nm.length c8))) = W5 at *
    have HQL := Lib.hid (show (rowsQ m l).length = R by rw [rowsQ_len, ← HL.out, HRE.out.1])
    go_wp2_with fail
    go_loopw [39] (OfQ W5 bk C m l (.slice a7 R c7) (.slice a8 m.nm.length c8) R) (fun i _ => R - (intOf i).toNat)
    case atStart => exact ⟨0, nilS, Nat.zero_le _, rfl, HKP.out⟩
    case round =>
      obtain ⟨k, v1, hk, rfl, hkp⟩ := hrel
      have hlr : ((rowsQ m l).take k).length = k := by rw [List.length_take, HQL.out]; omega
      have HLR := Lib.hid hlr
      have hbw : Below W0.heap.size W0 wr := HB5.out.trans (hkp.blow HBK.out)
      have hbx := HX.out.below hbw
      have hat := hkp.at HA.out.size
      obtain ⟨vs0, ho10, _⟩ := hkp.o1
      obtain ⟨av1, cv1, rfl⟩ := own_form ho10
      rw [hlr] at hat hkp
      clear ho10 hlr
      by_cases hlt : k < R
      · obtain ⟨s, hs1, hs2, hs3⟩ := firstsI_lt (show k < (firstsI (blkE l) L).length by rw [← HRE.out.1]; exact hlt)
        obtain ⟨bx, ox, rfl, hbx', dx⟩ := HCX.out k hlt
        rw [hs2] at dx
        have e1 := (hbw.cell (p := ⟨bx, ox + k, none⟩) hbx').trans dx
        have hsm : s < m.lb.length := by rw [← HLN.out.1, ← HL.out]; exact hs3
        obtain ⟨y1, hRS⟩ := hbx.nxv HK.out.1
        obtain ⟨b1, o1, ar, cr, d, rfl, hd, hd6, hrl, hr1, hr2, hr3⟩ := row_is HOK.out hRS hsm
        have hpk := rowQ_pick HOK.out HLN.out.1 hsm
        rw [← HL.out] at hpk
        have HPR := Lib.hid (fun W (hW : KB wr W) => picked_any W (((HU.out.below hbw).below (hW.mono hbw.size)).up (Nat.le_trans hbw.size (Below.size hW))) ((hr2.below hW).up (Below.size hW)) (by rw [hrl]; omega) hpk.1)
        rw [hpk.2] at HPR
        have HRN := Lib.hid (show (ofRow m l s).length = d ∧ (rowsQ m l).getD k [] = ofRow m l s from ⟨by rw [ofRow_len]; exact hrl, by have := rowsQ_at (m := m) (l := l) (k := k) (by rw [← HL.out, ← HRE.out.1]; exact hlt); rw [← HL.out, hs1] at this; exact this⟩)
        have HSN := Lib.hid (show s < m.nx.length by rw [HOK.out.len]; exact hsm)
        have HY1 := Lib.hid (show wr.cell? ⟨w.heap.size, 257, none⟩ = some (.slice (some ⟨b1, o1, none⟩) m.nx.length c1) ∧ wr.cell? ⟨b1, o1 + s, none⟩ = some (.slice ar d cr) from ⟨y1, hr1⟩)
        have HLK := Lib.hid hlt; have HKP := Lib.hid hkp; have HAT := Lib.hid hat
        have hsi : (s : Int) ≤ 65536 := by have := HLN.out; omega
        clear hkp hat hRS hr1 hr2 hr3 hrl hpk dx hs1 hs2 hs3 hsm y1 hbx hbx' hbw hd hd6
        go_wp2_with fail
        clear e1
        have HDR := Lib.hid (show KB wr wr.drew from (Below.refl _ _).drew)
        refine wp_region_W (fun i => decide (i < 10)) 10 3 (by kernel_rfl) (by kernel_rfl) (KB.up wr) HDR.out ?_
        refine wpW_taken (i := 0) rfl (by kernel_rfl) (by kernel_rfl) (by kernel_rfl) (by kernel_rfl) (KB.up wr) ?_
        apply Exists.intro
        refine ⟨Or.inl ⟨rfl, fun W hW => ?hy⟩, ?_⟩
        case hy =>
          go_simp
          exact RegionU.does_value rfl
        simp only [Act.put, List.setIfInBounds_toArray, List.set]
        refine wpW_taken (i := 1) rfl (by kernel_rfl) (by kernel_rfl) (by kernel_rfl) (by kernel_rfl) (KB.up wr) ?_
        apply Exists.intro
        refine ⟨Or.inl ⟨rfl, fun W hW => ?hy⟩, ?_⟩
        case hy =>
          have d := (Below.cell (p := ⟨bk, 257, none⟩) hW HKP.out.box.lt).trans HAT.out
          go_simp
          exact RegionU.does_value rfl
        simp only [Act.put, List.setIfInBounds_toArray, List.set]
        refine wpW_taken (i := 2) rfl (by kernel_rfl) (by kernel_rfl) (by kernel_rfl) (by kernel_rfl) (KB.up wr) ?_
        apply Exists.intro
        refine ⟨Or.inl ⟨rfl, fun W hW => ?hy⟩, ?_⟩
        case hy =>
          go_simp
          exact RegionU.does_value rfl
        simp only [Act.put, List.setIfInBounds_toArray, List.set]
        refine wpW_taken (i := 3) rfl (by kernel_rfl) (by kernel_rfl) (by kernel_rfl) (by kernel_rfl) (KB.up wr) ?_
        apply Exists.intro
        refine ⟨Or.inl ⟨rfl, fun W hW => ?hy⟩, ?_⟩
        case hy =>
          go_simp
          exact RegionU.does_value rfl
        simp only [Act.put, List.setIfInBounds_toArray, List.set]
        refine wpW_taken (i := 4) rfl (by kernel_rfl) (by kernel_rfl) (by kernel_rfl) (by kernel_rfl) (KB.up wr) ?_
        apply Exists.intro
        refine ⟨Or.inl ⟨rfl, fun W hW => ?hy⟩, ?_⟩
        case hy =>
          have d := (Below.cell (p := ⟨w.heap.size, 257, none⟩) hW (World.block_lt_of_cell? _ _ HY1.out.1)).trans HY1.out.1
          go_simp
          exact RegionU.does_value rfl
        simp only [Act.put, List.setIfInBounds_toArray, List.set]
        refine wpW_taken (i := 5) rfl (by kernel_rfl) (by kernel_rfl) (by kernel_rfl) (by kernel_rfl) (KB.up wr) ?_
        apply Exists.intro
        refine ⟨Or.inl ⟨rfl, fun W hW => ?hy⟩, ?_⟩
        case hy =>
          go_simp
          exact RegionU.does_value rfl
        simp only [Act.put, List.setIfInBounds_toArray, List.set]
        refine wpW_taken (i := 6) rfl (by kernel_rfl) (by kernel_rfl) (by kernel_rfl) (by kernel_rfl) (KB.up wr) ?_
        apply Exists.intro
        refine ⟨Or.inl ⟨rfl, fun W hW => ?hy⟩, ?_⟩
        case hy =>
          have hlt := HSN.out
          go_simp
          exact RegionU.does_value rfl
        simp only [Act.put, List.setIfInBounds_toArray, List.set]
        refine wpW_taken (i := 7) rfl (by kernel_rfl) (by kernel_rfl) (by kernel_rfl) (by kernel_rfl) (KB.up wr) ?_
        apply Exists.intro
        refine ⟨Or.inl ⟨rfl, fun W hW => ?hy⟩, ?_⟩
        case hy =>
          have d := (Below.cell (p := ⟨b1, o1 + s, none⟩) hW (World.block_lt_of_cell? _ _ HY1.out.2)).trans HY1.out.2
          go_simp
          exact RegionU.does_value rfl
        simp only [Act.put, List.setIfInBounds_toArray, List.set]
        refine wpW_one (i := 8) (by kernel_rfl) (by kernel_rfl) rfl rfl (QI wr.heap.size (ofRow m l s)) (QI.up _ _) (fun W hW => ?hy) ?_
        case hy =>
          go_simp
          exact does_in ((HPR.out W hW).mono fun e w' ⟨v, h, ho, hb⟩ => ⟨v, h, owns_base ho (Below.size (show KB wr W from hW)), hb⟩)
        intro u3
        simp only [Act.put, List.setIfInBounds_toArray, List.set]
        refine wpW_have (p := ∃ a5 c5, u3 = .slice a5 d c5) (fun W hW => ?_) ?_
        · obtain ⟨a8, c8, hf8, _, _⟩ := OI.len (show OI _ _ _ _ from hW.2); rw [HRN.out.1] at hf8; exact ⟨a8, c8, hf8⟩
        rintro ⟨ay, cy, rfl⟩
        refine wpW_one (i := 9) (by kernel_rfl) (by kernel_rfl) rfl rfl (Q1 wr.heap.size 24 (.slice ay d cy)) (Q1.up _ _ _) (fun W hW => ?hy) ?_
        case hy =>
          go_simp
          exact RegionU.does_made ⟨_, rfl, Ar.new _ _ _, Below.size (show Below _ _ _ from hW.1)⟩ (al_b _ _)
        intro u4
        simp only [Act.put, List.setIfInBounds_toArray, List.set]
        refine wpW_have (p := ∃ b, u4 = .slice (some ⟨b, 0, none⟩) 1 1) (fun W hW => ?_) ?_
        · obtain ⟨b, h, _⟩ := hW.2; exact ⟨b, h⟩
        rintro ⟨b9, rfl⟩
        refine wpW_done3 (i := 10) (j := 11) (k := 12) rfl rfl rfl (by kernel_rfl) (by kernel_rfl) ?_
        rintro W ⟨⟨h1, h2⟩, b', h3, h4, h5⟩
        obtain rfl : b9 = b' := by simpa using h3
        have h1 : Below wr.heap.size wr W := h1
        have h2 : OI W wr.heap.size (.slice ay d cy) (ofRow m l s) := h2
        have HAL := Lib.hid (HKP.out.below h1)
        have HRI := Lib.hid (owns_base h2 HKP.out.base)
        obtain ⟨vs, ho1, hvs⟩ := HAL.out.o1
        have HO1 := Lib.hid ho1; have HVS := Lib.hid hvs
        clear ho1 hvs
        refine wpList_append_row rfl (.tmp 44) (.tmp 52) rfl rfl HO1.out HAL.out.base ⟨b9, 0, none⟩ 1 rfl (Ar.at' h4 0) rfl (by rw [HLR.out]; have := HRE.out.2; have := HLK.out; omega) ?_
        intro v1' w6 hO6 hg6
        obtain ⟨⟨yx6, hyx6⟩, hfx6⟩ := HAL.out.grown1 HA.out.size hg6
        have HKR := Lib.hid (HAL.out.row HA.out.size HVS.out HO1.out HRI.out hO6 hg6)
        obtain ⟨a9, c9, hv6⟩ := own_form hO6
        rw [HLR.out] at hv6
        subst hv6
        clear h1 h2 h3 h4 h5 hO6 hg6 HAL HRI HO1 HVS HPR HY1
        go_wp2_with fail
        refine ⟨⟨k + 1, .slice a9 (k + 1) c9, HLK.out, by go_num, ?_⟩, by have := HLK.out; simp [intOf]; omega⟩
        rw [takeR_snoc _ (by rw [HQL.out]; exact HLK.out), HRN.out.2]
        exact HKR.out
      · have hkn : k = R := by omega
        have h1 : (rowsQ m l).take k = rowsQ m l := List.take_of_length_le (by rw [HQL.out]; omega)
        rw [h1] at hkp
        have HLF := Lib.hid hkp
        have HRX := Lib.hid (Rw.rx (X := fun k => X k ∨ k = w.heap.size + 1) hkp HA.out HAF.out HM5.out (mkC_hi HA.out.size _ _ _ _ 2) (mkC_hi HA.out.size _ _ _ _ 3) (Nat.le_refl _) (fun k hk => .inl (hk.elim (fun h => by have := HXX.out k h; have := HS0.out; omega) fun e => by have := HS0.out; omega)) (.inr rfl) (fun k hk => by have := HB5.out.size; exact hk.elim (fun h => by have := HXX.out k h; have := HS0.out; omega) fun e => by have := HS0.out; omega))
        have HAZ2 := Lib.hid (show Ar wr (w.heap.size + 1) Tryd.zeroCells27 27 from (hbw.block _ (by have := HS0.out; omega)).trans HZ.out)
        have HBW := Lib.hid (HB0.out.trans (hbw.mono HB0.out.size))
        have HON := Lib.hid (oneAll (one_of HA.out) (x := .int .i64 m.wd) (v1 := .slice av1 k cv1) (v2 := .slice a7 R c7) (v3 := .slice a8 m.nm.length c8) rfl rfl rfl rfl)
        clear hkn hkp hbx h1 hat hbw
        go_wp2_with (first | (refine wpList_load_box rfl 27 (.tmp 8) rfl rfl HLF.out.box Tryd.underlying27 rfl (by rw [HMS.out]; exact infoD) ?_) | (refine wpList_store_dfa rfl (.tmp 4) (.tmp 56) rfl rfl rfl HAZ2.out HZS.out (HMS.out _ _ _ _) HON.out ?_; simp only [Act.put]))
        refine bodyPost_ret (res_kept rfl rfl rfl (HAZ2.out.row _) (HMS.out _ _ _ _)) rfl ⟨_, by rw [HE.out.1]; rfl, ?_, below_row HBW.out (by omega) _⟩
        rw [HE.out.2]
        exact (HRX.out.row (.inr rfl) (mkC (ofC C) (.int .i64 m.wd) (.slice av1 k cv1) (.slice a7 R c7) (.slice a8 m.nm.length c8))).mono (Y := X) fun k hk => .inl hk
end Go.Proofs.YthefhkgjadfhgaaDoor.DfaW
