/- Walk of DfaTrims. -/
import Derived.Test.YtkghnjgioijgpaaTrim
import Derived.Test.YtkghnjgioijgpaaSameD
namespace Go.Proofs.Ytkghnjgioijgpaa.DfaW
set_option linter.unusedVariables false
set_option linter.unusedSimpArgs false
open Go.Proofs.Ytkghnjgioijgpaa.RegionU (Up wpU_taken wpU_one wpU_mono wpU_done wp_region_U does wpT_taken wpT_one wpT_two wpT_done wp_region_T)
open Go.RowKit Go.Maps Go.Proofs.Ytkghnjgioijgpaa.PartM Go.Proofs.Ytkghnjgioijgpaa.PartW Go.Proofs.Ytkghnjgioijgpaa.DfaM
theorem Says.bit {e : Ending} {p : Prop} {b : Bool} (h : Says e p) (hb : b = true ↔ p) : e = .returned (.bool b) := by
  rcases h.elim with ⟨rfl, hp⟩ | ⟨rfl, hp⟩
  · rw [hb.2 hp]
  · cases b with
    | false => rfl
    | true => exact absurd (hb.1 rfl) hp
theorem same_own (m : Mc) : SameM m m := ⟨by simp [sameA], rfl, rfl, rfl, rfl⟩
def KD3 (W0 : World) (b d f : Nat) (C D F : Array Value) (m k j : Mc) (W : World) : Prop := Bx W b C m ∧ Bx W d D k ∧ Bx W f F j ∧ Below W0.heap.size W0 W
theorem KD3.up (W0 : World) (b d f : Nat) (C D F : Array Value) (m k j : Mc) : Up (KD3 W0 b d f C D F m k j) := fun W W' ⟨h1, h2, h3, h4⟩ hr => ⟨h1.below hr, h2.below hr, h3.below hr, h4.trans (hr.mono h4.size)⟩
theorem trim_is {m : Mc} (k : Ok m) : keptE m (castL (reachV m)) = 0 ∧ keptM m (castL (reachV m)) = trimM m := by
  rw [reachV_yes k]
  exact ⟨keptE_yes k (reach_good k), keptM_yes k (reach_good k)⟩
theorem st_bx {w : World} {D : Array Value} {m : Mc} (h : IsM w.heap.size w D m) : Bx ((w.alloc (.cells Try.zeroCells27 27)).setRow w.heap.size D) w.heap.size D m := bx_store h
set_option maxRecDepth 100000 in
set_option maxHeartbeats 4000000 in
theorem DfaTrims_any {C : Array Value} {m : Mc} {v : Value} {l : List Nat} (w : World) (h : IsM w.heap.size w C m) (hv : BS w.heap.size w v l) :
    Calls Try.prog 7 #[.agg C, v] w fun e w' => e = .returned (.bool true) ∧ Below w.heap.size w w' := by
  have hx := Bx.new h
  have hb0 : Below w.heap.size w (w.alloc (.cells C 27)) := (Below.refl _ _).alloc (Nat.le_refl _) _
  have hv' := hv.next hb0
  obtain ⟨a, cap, rfl, _, _, _⟩ := hv.open
  obtain ⟨L, hL⟩ : ∃ L, L = l.length := ⟨_, rfl⟩
  have HL2 := Lib.hid hv.2
  rw [← hL] at hv' ⊢
  have HX := Lib.hid hx; have HB0 := Lib.hid hb0; have HV := Lib.hid hv'; have HZS := Lib.hid zc_size
  clear h hx hb0 hv hv' hL
  obtain ⟨kE, hkE⟩ : ∃ kE, kE = keptE m (castL (reachV m)) := ⟨_, rfl⟩
  obtain ⟨t, ht⟩ : ∃ t, t = keptM m (castL (reachV m)) := ⟨_, rfl⟩
  have HT1 := Lib.hid (fun W (h : IsM W.heap.size W C m) => by have := Trim_any W h; rw [← hkE, ← ht] at this; exact this)
  have HKE := Lib.hid hkE; have HTT := Lib.hid ht
  clear hkE ht
  go_enter Try.func7, Try.ntmps7
  go_wp2_with (refine wpList_load_dfa rfl (.tmp 2) rfl rfl HX.out ?_)
  refine (HT1.out _ HX.out.is).mono ?_
  rintro e w1 ⟨D, rfl, hd, hb⟩
  obtain ⟨B, hB⟩ : ∃ B, B = w.heap.size := ⟨_, rfl⟩
  rw [← hB] at HX ⊢
  have HX1 := Lib.hid (HX.out.below hb); have HB1 := Lib.hid (HB0.out.trans (hb.mono HB0.out.size)); have HV1 := Lib.hid (HV.out.next hb)
  have HD := Lib.hid hd.is
  have HB2 := Lib.hid (ist_below w1 D); have HX2 := Lib.hid (HX1.out.below HB2.out); have HY2 := Lib.hid (bx_store HD.out); have HV2 := Lib.hid (HV1.out.next HB2.out)
  have HB3 := Lib.hid (HB1.out.trans (HB2.out.mono HB1.out.size))
  clear hb hd HX HB0 HV hB
  by_cases hk : Ok m
  case neg =>
    obtain rfl : kE = 6 := by rw [HKE.out]; exact keptE_no hk
    have HK := Lib.hid hk
    clear hk
    go_wp2_with (first | (refine wpList_store_dfa rfl (.tmp 5) (.tmp 12) rfl (by rfl) (by rfl) (Ar.new _ _ _) HZS.out HD.out.size HD.out.one ?_; simp only [Act.put]) | (refine wpList_load_dfa rfl (.tmp 2) rfl rfl HX2.out ?_))
    refine (RightD_any _ HX2.out.is).mono ?_
    rintro e w3 ⟨hs, hb⟩
    rcases hs.elim with ⟨_, hn⟩ | ⟨rfl, _⟩
    · exact absurd hn HK.out
    have HB4 := Lib.hid (HB3.out.trans (hb.mono HB3.out.size))
    clear hb hs
    go_wp2_with fail
    refine (knows_any _).mono ?_
    rintro e w4 ⟨rfl, hb⟩
    have HB5 := Lib.hid (HB4.out.trans (hb.mono HB4.out.size))
    clear hb
    go_wp2_with fail
    go_ret
    exact ⟨rfl, HB5.out⟩
  obtain rfl : kE = 0 := by rw [HKE.out]; exact (trim_is hk).1
  have ht : t = trimM m := by rw [HTT.out]; exact (trim_is hk).2
  have hkt : Ok t := by rw [ht]; exact trim_ok hk
  have HT2 := Lib.hid (fun W (h : IsM W.heap.size W D t) => by
    have := Trim_any W h
    rw [(trim_is hkt).1, (trim_is hkt).2, show trimM t = t by rw [ht]; exact trim_trim hk] at this
    exact this)
  have HK := Lib.hid hk; have HKT := Lib.hid hkt; have HTM := Lib.hid ht
  clear hk hkt ht
  go_wp2_with (first | (refine wpList_store_dfa rfl (.tmp 5) (.tmp 12) rfl (by rfl) (by rfl) (Ar.new _ _ _) HZS.out HD.out.size HD.out.one ?_; simp only [Act.put]) | (refine wpList_load_dfa rfl (.tmp 5) rfl rfl HY2.out ?_))
  refine (HT2.out _ HY2.out.is).mono ?_
  rintro e w3 ⟨F, rfl, hf, hb⟩
  have HX3 := Lib.hid (HX2.out.below hb); have HY3 := Lib.hid (HY2.out.below hb); have HV3 := Lib.hid (HV2.out.next hb); have HB4 := Lib.hid (HB3.out.trans (hb.mono HB3.out.size))
  have HF := Lib.hid hf.is
  obtain ⟨X, hX⟩ : ∃ X, X = w1.heap.size := ⟨_, rfl⟩
  rw [← hX] at HY3 ⊢
  have HB5 := Lib.hid (ist_below w3 F)
  have HX4 := Lib.hid (HX3.out.below HB5.out); have HY4 := Lib.hid (HY3.out.below HB5.out); have HZ4 := Lib.hid (bx_store HF.out); have HV4 := Lib.hid (HV3.out.next HB5.out); have HB6 := Lib.hid (HB4.out.trans (HB5.out.mono HB4.out.size))
  clear hb hf hX HX2 HY2 HV2 HB3 HX3 HY3 HV3 HB4 HB2 HX1 HB1 HV1 HT1 HT2
  go_wp2_with (refine wpList_store_dfa rfl (.tmp 7) (.tmp 25) rfl (by rfl) (by rfl) (Ar.new _ _ _) HZS.out HF.out.size HF.out.one ?_; simp only [Act.put])
  obtain ⟨Y, hY⟩ : ∃ Y, Y = w3.heap.size := ⟨_, rfl⟩
  rw [← hY] at HX4 HY4 HZ4 HV4 HB6 ⊢
  generalize (w3.alloc (.cells Try.zeroCells27 27)).setRow Y F = W0 at *
  clear HB5 hY
  obtain ⟨T, hT⟩ : ∃ T, T = tellV m l := ⟨_, rfl⟩
  obtain ⟨y, hy⟩ : ∃ y, y = nameV m l := ⟨_, rfl⟩
  have htn : tellV t l = T ∧ nameV t l = y := by
    have := keep_tell HK.out (reach_good HK.out) (bs := l) HL2.out
    rw [hT, hy, HTM.out]; exact this
  obtain ⟨RR, hRR⟩ : ∃ RR, RR = castL (reachV t) := ⟨_, rfl⟩
  have hlen : t.lb.length = RR.length := by
    rw [hRR, castL_len, reachV_yes HKT.out, HTM.out, trim_reach HK.out, List.length_range, trim_len]
  have hle : t.lb.length ≤ m.lb.length := by rw [HTM.out, trim_len]; exact reach_len HK.out
  obtain ⟨p1, hp1, hq1⟩ := HY4.out.lb
  obtain ⟨p2, hp2, hq2⟩ := HX4.out.lb
  obtain ⟨a5, c5, rfl, _, _, _⟩ := hq1.open
  obtain ⟨a6, c6, rfl, _, _, _⟩ := hq2.open
  rw [hlen] at hp1 hle
  obtain ⟨n1, hn1⟩ : ∃ n1, n1 = RR.length := ⟨_, rfl⟩
  obtain ⟨n2, hn2⟩ : ∃ n2, n2 = m.lb.length := ⟨_, rfl⟩
  rw [← hn1] at hp1 hle
  rw [← hn2] at hp2 hle
  have HN1 := Lib.hid hn1
  have HLE := Lib.hid (show (n1 : Int) ≤ (n2 : Int) by omega)
  have HC1 := Lib.hid (fun W (h : Below W0.heap.size W0 W) => (h.cell (p := ⟨X, 258, none⟩) HY4.out.ar.lt).trans hp1)
  have HC2 := Lib.hid (fun W (h : Below W0.heap.size W0 W) => (h.cell (p := ⟨B, 258, none⟩) HX4.out.ar.lt).trans hp2)
  have H1 := Lib.hid (fun W (h : IsM W.heap.size W D t) => (RightD_any W h).mono fun e w' (x : Says e (Ok t) ∧ Below W.heap.size W w') => And.intro (x.1.bit (b := true) (by simp [HKT.out])) x.2)
  have H2 := Lib.hid (fun W (h : IsM W.heap.size W D t) (hB : Below W0.heap.size W0 W) => by have := Tell_any W h (HV4.out.next hB); rw [htn.1] at this; exact this)
  have H3 := Lib.hid (fun W (h : IsM W.heap.size W C m) (hB : Below W0.heap.size W0 W) => by have := Tell_any W h (HV4.out.next hB); rw [← hT] at this; exact this)
  have H4 := Lib.hid (fun W (h : IsM W.heap.size W D t) (hB : Below W0.heap.size W0 W) => by have := Name_any' W h (HV4.out.next hB); rw [htn.2] at this; exact this)
  have H5 := Lib.hid (fun W (h : IsM W.heap.size W C m) (hB : Below W0.heap.size W0 W) => by have := Name_any' W h (HV4.out.next hB); rw [← hy] at this; exact this)
  have H6 := Lib.hid (fun W (h : IsM W.heap.size W D t) => by have := Reach_any W h; rw [← hRR] at this; exact this)
  have H7 := Lib.hid (fun W (h : IsM W.heap.size W D t) (h2 : IsM W.heap.size W F t) => (SameD_any W h h2).mono fun e w' (x : Says e (SameM t t) ∧ Below W.heap.size W w') => And.intro (x.1.bit (b := true) (by simp [same_own])) x.2)
  have HD3 := Lib.hid (show KD3 W0 B X Y C D F m t t W0.drew from ⟨HX4.out.drew, HY4.out.drew, HZ4.out.drew, (Below.refl _ _).drew⟩)
  clear hT hy htn hRR hlen hle hp1 hp2 hq1 hq2 hn1 hn2
  go_wp2_with fail
  refine wp_region_U (by kernel_rfl) (KD3.up W0 B X Y C D F m t t) HD3.out ?_
  refine wpU_taken (i := 0) rfl (by kernel_rfl) (by kernel_rfl) (by kernel_rfl) (KD3.up W0 B X Y C D F m t t) ?_
  apply Exists.intro
  refine ⟨Or.inl ⟨rfl, fun W hW => ?hy⟩, ?_⟩
  case hy =>
    obtain ⟨hX, hY, hZ, hB⟩ := hW
    exact does_eq (run_load_dfa (.tmp 5) rfl rfl hY)
  simp only [Act.put, List.setIfInBounds_toArray, List.set]
  refine wpU_taken (i := 1) rfl (by kernel_rfl) (by kernel_rfl) (by kernel_rfl) (KD3.up W0 B X Y C D F m t t) ?_
  apply Exists.intro
  refine ⟨Or.inl ⟨rfl, fun W hW => ?hy⟩, ?_⟩
  case hy =>
    obtain ⟨hX, hY, hZ, hB⟩ := hW
    go_simp
    exact RegionU.does_call (H1.out W hY.is)
  simp only [Act.put, List.setIfInBounds_toArray, List.set]
  refine wpU_taken (i := 2) rfl (by kernel_rfl) (by kernel_rfl) (by kernel_rfl) (KD3.up W0 B X Y C D F m t t) ?_
  apply Exists.intro
  refine ⟨Or.inl ⟨rfl, fun W hW => ?hy⟩, ?_⟩
  case hy =>
    obtain ⟨hX, hY, hZ, hB⟩ := hW
    go_simp
    exact RegionU.does_value rfl
  simp only [Act.put, List.setIfInBounds_toArray, List.set]
  refine wpU_taken (i := 3) rfl (by kernel_rfl) (by kernel_rfl) (by kernel_rfl) (KD3.up W0 B X Y C D F m t t) ?_
  apply Exists.intro
  refine ⟨Or.inl ⟨rfl, fun W hW => ?hy⟩, ?_⟩
  case hy =>
    obtain ⟨hX, hY, hZ, hB⟩ := hW
    exact does_eq (run_load_dfa (.tmp 5) rfl rfl hY)
  simp only [Act.put, List.setIfInBounds_toArray, List.set]
  refine wpU_taken (i := 4) rfl (by kernel_rfl) (by kernel_rfl) (by kernel_rfl) (KD3.up W0 B X Y C D F m t t) ?_
  apply Exists.intro
  refine ⟨Or.inl ⟨rfl, fun W hW => ?hy⟩, ?_⟩
  case hy =>
    obtain ⟨hX, hY, hZ, hB⟩ := hW
    go_simp
    exact RegionU.does_value rfl
  simp only [Act.put, List.setIfInBounds_toArray, List.set]
  refine wpU_taken (i := 5) rfl (by kernel_rfl) (by kernel_rfl) (by kernel_rfl) (KD3.up W0 B X Y C D F m t t) ?_
  apply Exists.intro
  refine ⟨Or.inl ⟨rfl, fun W hW => ?hy⟩, ?_⟩
  case hy =>
    obtain ⟨hX, hY, hZ, hB⟩ := hW
    go_simp
    exact RegionU.does_call (H2.out W hY.is hB)
  simp only [Act.put, List.setIfInBounds_toArray, List.set]
  refine wpU_taken (i := 6) rfl (by kernel_rfl) (by kernel_rfl) (by kernel_rfl) (KD3.up W0 B X Y C D F m t t) ?_
  apply Exists.intro
  refine ⟨Or.inl ⟨rfl, fun W hW => ?hy⟩, ?_⟩
  case hy =>
    obtain ⟨hX, hY, hZ, hB⟩ := hW
    exact does_eq (run_load_dfa (.tmp 2) rfl rfl hX)
  simp only [Act.put, List.setIfInBounds_toArray, List.set]
  refine wpU_taken (i := 7) rfl (by kernel_rfl) (by kernel_rfl) (by kernel_rfl) (KD3.up W0 B X Y C D F m t t) ?_
  apply Exists.intro
  refine ⟨Or.inl ⟨rfl, fun W hW => ?hy⟩, ?_⟩
  case hy =>
    obtain ⟨hX, hY, hZ, hB⟩ := hW
    go_simp
    exact RegionU.does_value rfl
  simp only [Act.put, List.setIfInBounds_toArray, List.set]
  refine wpU_taken (i := 8) rfl (by kernel_rfl) (by kernel_rfl) (by kernel_rfl) (KD3.up W0 B X Y C D F m t t) ?_
  apply Exists.intro
  refine ⟨Or.inl ⟨rfl, fun W hW => ?hy⟩, ?_⟩
  case hy =>
    obtain ⟨hX, hY, hZ, hB⟩ := hW
    go_simp
    exact RegionU.does_call (H3.out W hX.is hB)
  simp only [Act.put, List.setIfInBounds_toArray, List.set]
  refine wpU_taken (i := 9) rfl (by kernel_rfl) (by kernel_rfl) (by kernel_rfl) (KD3.up W0 B X Y C D F m t t) ?_
  apply Exists.intro
  refine ⟨Or.inl ⟨rfl, fun W hW => ?hy⟩, ?_⟩
  case hy =>
    obtain ⟨hX, hY, hZ, hB⟩ := hW
    go_simp
    try simp only [beq_self_eq_true, bne_self_eq_false, Bool.not_true, Bool.not_false, decide_true]
    exact RegionU.does_value rfl
  simp only [Act.put, List.setIfInBounds_toArray, List.set]
  refine wpU_taken (i := 10) rfl (by kernel_rfl) (by kernel_rfl) (by kernel_rfl) (KD3.up W0 B X Y C D F m t t) ?_
  apply Exists.intro
  refine ⟨Or.inl ⟨rfl, fun W hW => ?hy⟩, ?_⟩
  case hy =>
    obtain ⟨hX, hY, hZ, hB⟩ := hW
    go_simp
    exact RegionU.does_value rfl
  simp only [Act.put, List.setIfInBounds_toArray, List.set]
  refine wpU_taken (i := 11) rfl (by kernel_rfl) (by kernel_rfl) (by kernel_rfl) (KD3.up W0 B X Y C D F m t t) ?_
  apply Exists.intro
  refine ⟨Or.inl ⟨rfl, fun W hW => ?hy⟩, ?_⟩
  case hy =>
    obtain ⟨hX, hY, hZ, hB⟩ := hW
    go_simp
    exact RegionU.does_value rfl
  simp only [Act.put, List.setIfInBounds_toArray, List.set]
  refine wpU_taken (i := 12) rfl (by kernel_rfl) (by kernel_rfl) (by kernel_rfl) (KD3.up W0 B X Y C D F m t t) ?_
  apply Exists.intro
  refine ⟨Or.inl ⟨rfl, fun W hW => ?hy⟩, ?_⟩
  case hy =>
    obtain ⟨hX, hY, hZ, hB⟩ := hW
    exact does_eq (run_load_dfa (.tmp 5) rfl rfl hY)
  simp only [Act.put, List.setIfInBounds_toArray, List.set]
  refine wpU_taken (i := 13) rfl (by kernel_rfl) (by kernel_rfl) (by kernel_rfl) (KD3.up W0 B X Y C D F m t t) ?_
  apply Exists.intro
  refine ⟨Or.inl ⟨rfl, fun W hW => ?hy⟩, ?_⟩
  case hy =>
    obtain ⟨hX, hY, hZ, hB⟩ := hW
    go_simp
    exact RegionU.does_value rfl
  simp only [Act.put, List.setIfInBounds_toArray, List.set]
  refine wpU_taken (i := 14) rfl (by kernel_rfl) (by kernel_rfl) (by kernel_rfl) (KD3.up W0 B X Y C D F m t t) ?_
  apply Exists.intro
  refine ⟨Or.inl ⟨rfl, fun W hW => ?hy⟩, ?_⟩
  case hy =>
    obtain ⟨hX, hY, hZ, hB⟩ := hW
    go_simp
    exact RegionU.does_call (H4.out W hY.is hB)
  simp only [Act.put, List.setIfInBounds_toArray, List.set]
  refine wpU_taken (i := 15) rfl (by kernel_rfl) (by kernel_rfl) (by kernel_rfl) (KD3.up W0 B X Y C D F m t t) ?_
  apply Exists.intro
  refine ⟨Or.inl ⟨rfl, fun W hW => ?hy⟩, ?_⟩
  case hy =>
    obtain ⟨hX, hY, hZ, hB⟩ := hW
    exact does_eq (run_load_dfa (.tmp 2) rfl rfl hX)
  simp only [Act.put, List.setIfInBounds_toArray, List.set]
  refine wpU_taken (i := 16) rfl (by kernel_rfl) (by kernel_rfl) (by kernel_rfl) (KD3.up W0 B X Y C D F m t t) ?_
  apply Exists.intro
  refine ⟨Or.inl ⟨rfl, fun W hW => ?hy⟩, ?_⟩
  case hy =>
    obtain ⟨hX, hY, hZ, hB⟩ := hW
    go_simp
    exact RegionU.does_value rfl
  simp only [Act.put, List.setIfInBounds_toArray, List.set]
  refine wpU_taken (i := 17) rfl (by kernel_rfl) (by kernel_rfl) (by kernel_rfl) (KD3.up W0 B X Y C D F m t t) ?_
  apply Exists.intro
  refine ⟨Or.inl ⟨rfl, fun W hW => ?hy⟩, ?_⟩
  case hy =>
    obtain ⟨hX, hY, hZ, hB⟩ := hW
    go_simp
    exact RegionU.does_call (H5.out W hX.is hB)
  simp only [Act.put, List.setIfInBounds_toArray, List.set]
  refine wpU_taken (i := 18) rfl (by kernel_rfl) (by kernel_rfl) (by kernel_rfl) (KD3.up W0 B X Y C D F m t t) ?_
  apply Exists.intro
  refine ⟨Or.inl ⟨rfl, fun W hW => ?hy⟩, ?_⟩
  case hy =>
    obtain ⟨hX, hY, hZ, hB⟩ := hW
    go_simp
    try simp only [beq_self_eq_true, bne_self_eq_false, Bool.not_true, Bool.not_false, decide_true]
    exact RegionU.does_value rfl
  simp only [Act.put, List.setIfInBounds_toArray, List.set]
  refine wpU_taken (i := 19) rfl (by kernel_rfl) (by kernel_rfl) (by kernel_rfl) (KD3.up W0 B X Y C D F m t t) ?_
  apply Exists.intro
  refine ⟨Or.inl ⟨rfl, fun W hW => ?hy⟩, ?_⟩
  case hy =>
    obtain ⟨hX, hY, hZ, hB⟩ := hW
    go_simp
    exact RegionU.does_value rfl
  simp only [Act.put, List.setIfInBounds_toArray, List.set]
  refine wpU_taken (i := 20) rfl (by kernel_rfl) (by kernel_rfl) (by kernel_rfl) (KD3.up W0 B X Y C D F m t t) ?_
  apply Exists.intro
  refine ⟨Or.inl ⟨rfl, fun W hW => ?hy⟩, ?_⟩
  case hy =>
    obtain ⟨hX, hY, hZ, hB⟩ := hW
    go_simp
    exact RegionU.does_value rfl
  simp only [Act.put, List.setIfInBounds_toArray, List.set]
  refine wpU_taken (i := 21) rfl (by kernel_rfl) (by kernel_rfl) (by kernel_rfl) (KD3.up W0 B X Y C D F m t t) ?_
  apply Exists.intro
  refine ⟨Or.inl ⟨rfl, fun W hW => ?hy⟩, ?_⟩
  case hy =>
    obtain ⟨hX, hY, hZ, hB⟩ := hW
    exact does_eq (run_load_dfa (.tmp 5) rfl rfl hY)
  simp only [Act.put, List.setIfInBounds_toArray, List.set]
  refine wpU_taken (i := 24) rfl (by kernel_rfl) (by kernel_rfl) (by kernel_rfl) (KD3.up W0 B X Y C D F m t t) ?_
  apply Exists.intro
  refine ⟨Or.inl ⟨rfl, fun W hW => ?hy⟩, ?_⟩
  case hy =>
    obtain ⟨hX, hY, hZ, hB⟩ := hW
    go_simp
    exact RegionU.does_value rfl
  simp only [Act.put, List.setIfInBounds_toArray, List.set]
  refine wpU_taken (i := 25) rfl (by kernel_rfl) (by kernel_rfl) (by kernel_rfl) (KD3.up W0 B X Y C D F m t t) ?_
  apply Exists.intro
  refine ⟨Or.inl ⟨rfl, fun W hW => ?hy⟩, ?_⟩
  case hy =>
    obtain ⟨hX, hY, hZ, hB⟩ := hW
    have hc := HC1.out W hB
    go_simp
    exact RegionU.does_value rfl
  simp only [Act.put, List.setIfInBounds_toArray, List.set]
  refine wpU_taken (i := 26) rfl (by kernel_rfl) (by kernel_rfl) (by kernel_rfl) (KD3.up W0 B X Y C D F m t t) ?_
  apply Exists.intro
  refine ⟨Or.inl ⟨rfl, fun W hW => ?hy⟩, ?_⟩
  case hy =>
    obtain ⟨hX, hY, hZ, hB⟩ := hW
    go_simp
    exact RegionU.does_value rfl
  simp only [Act.put, List.setIfInBounds_toArray, List.set]
  refine wpU_one (i := 22) (by kernel_rfl) rfl rfl (OT W0.heap.size RR) (OT.up _ _) (fun W hW => ?hy) ?_
  case hy =>
    obtain ⟨hX, hY, hZ, hB⟩ := hW
    go_simp
    exact does_in ((H6.out W hY.is).mono fun e w' ⟨v, h, ho, hb⟩ => ⟨v, h, owns_base ho hB.size, hb⟩)
  intro u1
  simp only [Act.put, List.setIfInBounds_toArray, List.set]
  refine wpU_taken (i := 23) rfl (by kernel_rfl) (by kernel_rfl) (by kernel_rfl) ((KD3.up W0 B X Y C D F m t t).and (OT.up _ _ u1)) ?_
  refine ⟨(.int .i64 (n1 : Nat)), Or.inl ⟨rfl, fun W hW => ?hy⟩, ?_⟩
  case hy =>
    obtain ⟨-, h1⟩ := hW
    obtain ⟨a1, c1, hu, _, _⟩ := OI.len h1
    rw [← HN1.out] at hu
    subst hu
    go_simp
    exact RegionU.does_value rfl
  simp only [Act.put, List.setIfInBounds_toArray, List.set]
  refine wpU_mono _ _ _ (KD3 W0 B X Y C D F m t t) _ (fun W hW => hW.1) ?_
  refine wpU_taken (i := 27) rfl (by kernel_rfl) (by kernel_rfl) (by kernel_rfl) (KD3.up W0 B X Y C D F m t t) ?_
  apply Exists.intro
  refine ⟨Or.inl ⟨rfl, fun W hW => ?hy⟩, ?_⟩
  case hy =>
    obtain ⟨hX, hY, hZ, hB⟩ := hW
    go_simp
    try simp only [beq_self_eq_true, bne_self_eq_false, Bool.not_true, Bool.not_false, decide_true]
    exact RegionU.does_value rfl
  simp only [Act.put, List.setIfInBounds_toArray, List.set]
  refine wpU_taken (i := 28) rfl (by kernel_rfl) (by kernel_rfl) (by kernel_rfl) (KD3.up W0 B X Y C D F m t t) ?_
  apply Exists.intro
  refine ⟨Or.inl ⟨rfl, fun W hW => ?hy⟩, ?_⟩
  case hy =>
    obtain ⟨hX, hY, hZ, hB⟩ := hW
    go_simp
    exact RegionU.does_value rfl
  simp only [Act.put, List.setIfInBounds_toArray, List.set]
  refine wpU_taken (i := 29) rfl (by kernel_rfl) (by kernel_rfl) (by kernel_rfl) (KD3.up W0 B X Y C D F m t t) ?_
  apply Exists.intro
  refine ⟨Or.inl ⟨rfl, fun W hW => ?hy⟩, ?_⟩
  case hy =>
    obtain ⟨hX, hY, hZ, hB⟩ := hW
    go_simp
    exact RegionU.does_value rfl
  simp only [Act.put, List.setIfInBounds_toArray, List.set]
  refine wpU_taken (i := 30) rfl (by kernel_rfl) (by kernel_rfl) (by kernel_rfl) (KD3.up W0 B X Y C D F m t t) ?_
  apply Exists.intro
  refine ⟨Or.inl ⟨rfl, fun W hW => ?hy⟩, ?_⟩
  case hy =>
    obtain ⟨hX, hY, hZ, hB⟩ := hW
    go_simp
    exact RegionU.does_value rfl
  simp only [Act.put, List.setIfInBounds_toArray, List.set]
  refine wpU_taken (i := 31) rfl (by kernel_rfl) (by kernel_rfl) (by kernel_rfl) (KD3.up W0 B X Y C D F m t t) ?_
  apply Exists.intro
  refine ⟨Or.inl ⟨rfl, fun W hW => ?hy⟩, ?_⟩
  case hy =>
    obtain ⟨hX, hY, hZ, hB⟩ := hW
    go_simp
    try simp only [beq_self_eq_true, bne_self_eq_false, Bool.not_true, Bool.not_false, decide_true]
    exact RegionU.does_value rfl
  simp only [Act.put, List.setIfInBounds_toArray, List.set]
  refine wpU_taken (i := 32) rfl (by kernel_rfl) (by kernel_rfl) (by kernel_rfl) (KD3.up W0 B X Y C D F m t t) ?_
  apply Exists.intro
  refine ⟨Or.inl ⟨rfl, fun W hW => ?hy⟩, ?_⟩
  case hy =>
    obtain ⟨hX, hY, hZ, hB⟩ := hW
    go_simp
    exact RegionU.does_value rfl
  simp only [Act.put, List.setIfInBounds_toArray, List.set]
  refine wpU_taken (i := 33) rfl (by kernel_rfl) (by kernel_rfl) (by kernel_rfl) (KD3.up W0 B X Y C D F m t t) ?_
  apply Exists.intro
  refine ⟨Or.inl ⟨rfl, fun W hW => ?hy⟩, ?_⟩
  case hy =>
    obtain ⟨hX, hY, hZ, hB⟩ := hW
    go_simp
    exact RegionU.does_value rfl
  simp only [Act.put, List.setIfInBounds_toArray, List.set]
  refine wpU_taken (i := 34) rfl (by kernel_rfl) (by kernel_rfl) (by kernel_rfl) (KD3.up W0 B X Y C D F m t t) ?_
  apply Exists.intro
  refine ⟨Or.inl ⟨rfl, fun W hW => ?hy⟩, ?_⟩
  case hy =>
    obtain ⟨hX, hY, hZ, hB⟩ := hW
    exact does_eq (run_load_dfa (.tmp 5) rfl rfl hY)
  simp only [Act.put, List.setIfInBounds_toArray, List.set]
  refine wpU_taken (i := 35) rfl (by kernel_rfl) (by kernel_rfl) (by kernel_rfl) (KD3.up W0 B X Y C D F m t t) ?_
  apply Exists.intro
  refine ⟨Or.inl ⟨rfl, fun W hW => ?hy⟩, ?_⟩
  case hy =>
    obtain ⟨hX, hY, hZ, hB⟩ := hW
    exact does_eq (run_load_dfa (.tmp 7) rfl rfl hZ)
  simp only [Act.put, List.setIfInBounds_toArray, List.set]
  refine wpU_taken (i := 36) rfl (by kernel_rfl) (by kernel_rfl) (by kernel_rfl) (KD3.up W0 B X Y C D F m t t) ?_
  apply Exists.intro
  refine ⟨Or.inl ⟨rfl, fun W hW => ?hy⟩, ?_⟩
  case hy =>
    obtain ⟨hX, hY, hZ, hB⟩ := hW
    go_simp
    exact RegionU.does_call (H7.out W hY.is hZ.is)
  simp only [Act.put, List.setIfInBounds_toArray, List.set]
  refine wpU_taken (i := 37) rfl (by kernel_rfl) (by kernel_rfl) (by kernel_rfl) (KD3.up W0 B X Y C D F m t t) ?_
  apply Exists.intro
  refine ⟨Or.inl ⟨rfl, fun W hW => ?hy⟩, ?_⟩
  case hy =>
    obtain ⟨hX, hY, hZ, hB⟩ := hW
    go_simp
    exact RegionU.does_value rfl
  simp only [Act.put, List.setIfInBounds_toArray, List.set]
  refine wpU_taken (i := 38) rfl (by kernel_rfl) (by kernel_rfl) (by kernel_rfl) (KD3.up W0 B X Y C D F m t t) ?_
  apply Exists.intro
  refine ⟨Or.inl ⟨rfl, fun W hW => ?hy⟩, ?_⟩
  case hy =>
    obtain ⟨hX, hY, hZ, hB⟩ := hW
    go_simp
    exact RegionU.does_value rfl
  simp only [Act.put, List.setIfInBounds_toArray, List.set]
  refine wpU_taken (i := 39) rfl (by kernel_rfl) (by kernel_rfl) (by kernel_rfl) (KD3.up W0 B X Y C D F m t t) ?_
  apply Exists.intro
  refine ⟨Or.inl ⟨rfl, fun W hW => ?hy⟩, ?_⟩
  case hy =>
    obtain ⟨hX, hY, hZ, hB⟩ := hW
    go_simp
    exact RegionU.does_value rfl
  simp only [Act.put, List.setIfInBounds_toArray, List.set]
  refine wpU_taken (i := 40) rfl (by kernel_rfl) (by kernel_rfl) (by kernel_rfl) (KD3.up W0 B X Y C D F m t t) ?_
  apply Exists.intro
  refine ⟨Or.inl ⟨rfl, fun W hW => ?hy⟩, ?_⟩
  case hy =>
    obtain ⟨hX, hY, hZ, hB⟩ := hW
    have hc := HC1.out W hB
    go_simp
    exact RegionU.does_value rfl
  simp only [Act.put, List.setIfInBounds_toArray, List.set]
  refine wpU_taken (i := 41) rfl (by kernel_rfl) (by kernel_rfl) (by kernel_rfl) (KD3.up W0 B X Y C D F m t t) ?_
  apply Exists.intro
  refine ⟨Or.inl ⟨rfl, fun W hW => ?hy⟩, ?_⟩
  case hy =>
    obtain ⟨hX, hY, hZ, hB⟩ := hW
    go_simp
    exact RegionU.does_value rfl
  simp only [Act.put, List.setIfInBounds_toArray, List.set]
  refine wpU_taken (i := 42) rfl (by kernel_rfl) (by kernel_rfl) (by kernel_rfl) (KD3.up W0 B X Y C D F m t t) ?_
  apply Exists.intro
  refine ⟨Or.inl ⟨rfl, fun W hW => ?hy⟩, ?_⟩
  case hy =>
    obtain ⟨hX, hY, hZ, hB⟩ := hW
    go_simp
    exact RegionU.does_value rfl
  simp only [Act.put, List.setIfInBounds_toArray, List.set]
  refine wpU_taken (i := 43) rfl (by kernel_rfl) (by kernel_rfl) (by kernel_rfl) (KD3.up W0 B X Y C D F m t t) ?_
  apply Exists.intro
  refine ⟨Or.inl ⟨rfl, fun W hW => ?hy⟩, ?_⟩
  case hy =>
    obtain ⟨hX, hY, hZ, hB⟩ := hW
    have hc := HC2.out W hB
    go_simp
    exact RegionU.does_value rfl
  simp only [Act.put, List.setIfInBounds_toArray, List.set]
  refine wpU_taken (i := 44) rfl (by kernel_rfl) (by kernel_rfl) (by kernel_rfl) (KD3.up W0 B X Y C D F m t t) ?_
  apply Exists.intro
  refine ⟨Or.inl ⟨rfl, fun W hW => ?hy⟩, ?_⟩
  case hy =>
    obtain ⟨hX, hY, hZ, hB⟩ := hW
    go_simp
    exact RegionU.does_value rfl
  simp only [Act.put, List.setIfInBounds_toArray, List.set]
  refine wpU_taken (i := 45) rfl (by kernel_rfl) (by kernel_rfl) (by kernel_rfl) (KD3.up W0 B X Y C D F m t t) ?_
  apply Exists.intro
  refine ⟨Or.inl ⟨rfl, fun W hW => ?hy⟩, ?_⟩
  case hy =>
    obtain ⟨hX, hY, hZ, hB⟩ := hW
    have hle := HLE.out
    go_simp
    exact RegionU.does_value rfl
  simp only [Act.put, List.setIfInBounds_toArray, List.set]
  refine wpU_taken (i := 46) rfl (by kernel_rfl) (by kernel_rfl) (by kernel_rfl) (KD3.up W0 B X Y C D F m t t) ?_
  apply Exists.intro
  refine ⟨Or.inl ⟨rfl, fun W hW => ?hy⟩, ?_⟩
  case hy =>
    obtain ⟨hX, hY, hZ, hB⟩ := hW
    go_simp
    exact RegionU.does_value rfl
  simp only [Act.put, List.setIfInBounds_toArray, List.set]
  refine wpU_taken (i := 47) rfl (by kernel_rfl) (by kernel_rfl) (by kernel_rfl) (KD3.up W0 B X Y C D F m t t) ?_
  apply Exists.intro
  refine ⟨Or.inl ⟨rfl, fun W hW => ?hy⟩, ?_⟩
  case hy =>
    obtain ⟨hX, hY, hZ, hB⟩ := hW
    go_simp
    exact RegionU.does_value rfl
  simp only [Act.put, List.setIfInBounds_toArray, List.set]
  refine wpU_taken (i := 48) rfl (by kernel_rfl) (by kernel_rfl) (by kernel_rfl) (KD3.up W0 B X Y C D F m t t) ?_
  apply Exists.intro
  refine ⟨Or.inl ⟨rfl, fun W hW => ?hy⟩, ?_⟩
  case hy =>
    obtain ⟨hX, hY, hZ, hB⟩ := hW
    go_simp
    exact RegionU.does_call (knows_any W)
  simp only [Act.put, List.setIfInBounds_toArray, List.set]
  refine wpU_taken (i := 49) rfl (by kernel_rfl) (by kernel_rfl) (by kernel_rfl) (KD3.up W0 B X Y C D F m t t) ?_
  apply Exists.intro
  refine ⟨Or.inl ⟨rfl, fun W hW => ?hy⟩, ?_⟩
  case hy =>
    obtain ⟨hX, hY, hZ, hB⟩ := hW
    go_simp
    exact RegionU.does_value rfl
  simp only [Act.put, List.setIfInBounds_toArray, List.set]
  refine wpU_taken (i := 50) rfl (by kernel_rfl) (by kernel_rfl) (by kernel_rfl) (KD3.up W0 B X Y C D F m t t) ?_
  apply Exists.intro
  refine ⟨Or.inl ⟨rfl, fun W hW => ?hy⟩, ?_⟩
  case hy =>
    obtain ⟨hX, hY, hZ, hB⟩ := hW
    go_simp
    exact RegionU.does_value rfl
  simp only [Act.put, List.setIfInBounds_toArray, List.set]
  refine wpU_done (by kernel_rfl) ?_
  rintro W ⟨-, -, -, hB⟩
  go_wp2_with fail
  go_ret
  exact ⟨rfl, HB6.out.trans (hB.mono HB6.out.size)⟩
end Go.Proofs.Ytkghnjgioijgpaa.DfaW
