/- Walk of Merge: a machine with the classes of the bytes that are not told apart. -/
import Derived.Test.YthefhkgjadfhgaaDoorClsM
import Derived.Test.YthefhkgjadfhgaaDoorPLeasts
import Derived.Test.YthefhkgjadfhgaaDoorRefMerge
import Derived.Test.YthefhkgjadfhgaaDoorNormI
namespace Go.Proofs.YthefhkgjadfhgaaDoor.DfaW
set_option linter.unusedVariables false
set_option linter.unusedSimpArgs false
open Go.Proofs.YthefhkgjadfhgaaDoor.RegionU (Up wpW_taken wpW_takenY wpW_one wpW_two wpW_done1 wpW_done2 wpW_done3 wpW_have wp_region_W)
open Go.RowKit Go.Maps Go.Proofs.YthefhkgjadfhgaaDoor.PartM Go.Proofs.YthefhkgjadfhgaaDoor.PartW
/-- The same of Merge, where the table lies that tells a word's least bit. -/
def MergeT (f : FuncId) : Prop := ∀ {C : Array Value} {m : Mc} {X : Nat → Prop} (w : World), SetW.Env w → Rx X w C m → (∀ k, X k → k < w.heap.size) → Calls Tryd.prog f #[.agg C] w fun e w' => ∃ D, e = .returned (.tuple #[.agg D, .int .i64 (mergeE m)]) ∧ Rx X w' D (mergeM m) ∧ Below w.heap.size w w'
theorem clonesI_any {B : Nat} {a : Option Addr} {n c : Nat} {l : List Int} (w : World) (h : IS B w (.slice a n c) l) (hl : l.length ≤ 65536) : Calls Tryd.prog 25 #[.slice a n c] w fun e w' => ∃ v', e = .returned v' ∧ OI w' w.heap.size v' l ∧ Below w.heap.size w w' := by
  obtain ⟨a', cap, he, h1, h2, h3⟩ := h.open
  simp only [Value.slice.injEq] at he
  obtain ⟨rfl, rfl, rfl⟩ := he
  rcases Nat.eq_zero_or_pos l.length with h0 | h0
  · obtain rfl := List.length_eq_zero_iff.1 h0
    cases a with
    | none => exact (Tryd.slices_Clone_int_nil 0 c w).mono fun e w' ⟨h, hw⟩ => ⟨_, h, OI.nil _ _, by rw [hw]; exact Below.refl _ _⟩
    | some ad => exact (Tryd.slices_Clone_int_zero ad c w).mono fun e w' ⟨v', h, ho, _, hb⟩ => ⟨v', h, ho, hb⟩
  · obtain ⟨b, o, rfl, hb, hc⟩ := IS.cells (cap := c) h3 h0
    refine (Tryd.slices_Clone_int b o l.length c l w (Nat.le_refl _) (by omega) (fun j hj => by rw [hc j hj])).mono fun e w' ⟨v', h, ho, _, hb⟩ => ⟨v', h, ?_, hb⟩
    rw [List.take_length] at ho
    exact ho
/-- The classes of the least bytes. -/
def fsQ (m : Mc) (k : Nat) : List Int := (List.range k).map fun i => ((m.of (lowN (colE m) i) : Nat) : Int)
theorem fsQ_len (m : Mc) (k : Nat) : (fsQ m k).length = k := by simp [fsQ]
theorem fsQ_succ (m : Mc) (k : Nat) : fsQ m (k + 1) = fsQ m k ++ [((m.of (lowN (colE m) k) : Nat) : Int)] := by simp [fsQ, List.range_succ]
theorem fsQ_at (m : Mc) {k i : Nat} (hi : i < k) : (fsQ m k).getD i 0 = ((m.of (lowN (colE m) i) : Nat) : Int) := by simp [fsQ, List.getD, hi]
/-- A row, picked. -/
theorem rowM_pick {m : Mc} (hok : Ok m) {s d : Nat} (hd : m.wd = (d : Int)) (hs : s < m.lb.length) : (∀ i, i < (fsQ m (rk (colE m) 256)).length → ∃ k : Nat, (fsQ m (rk (colE m) 256)).getD i 0 = k ∧ k < (m.nx.getD s []).length ∧ (m.nx.getD s []).getD k 0 = (m.nx.getD s []).getD (m.of (lowN (colE m) i)) 0) ∧
    (List.range (fsQ m (rk (colE m) 256)).length).map (fun i => (m.nx.getD s []).getD (m.of (lowN (colE m) i)) 0) = mergeRow m (m.nx.getD s []) := by
  refine ⟨fun i hi => ?_, ?_⟩
  · rw [fsQ_len] at hi
    refine ⟨m.of (lowN (colE m) i), fsQ_at m hi, ?_, rfl⟩
    have h1 := hok.cls' (low_spec (colE_eqv m) hi).1
    have h2 := hok.row hs
    omega
  · rw [fsQ_len, ← reps_len]
    exact range_map (reps (colE m) 256) 0 fun b => (m.nx.getD s []).getD (m.of b) 0
/-- What the loops know. -/
def MqF (w W : World) (m : Mc) (K : Nat) (u i : Value) (wr : World) : Prop := ∃ k : Nat, k ≤ K ∧ i = .int .i64 k ∧ OI wr W.heap.size u (fsQ m k) ∧ Below W.heap.size W wr
def MqL (W5 : World) (bk : Nat) (A : Array Value) (x : Int) (m : Mc) (v2 u : Value) (n : Nat) (i : Value) (wr : World) : Prop :=
  ∃ (k : Nat) (v1 : Value), k ≤ n ∧ i = .int .i64 k ∧ Rw W5 wr bk W5.heap.size A x v1 v2 u ((mergeN m).nx.take k)
theorem refMergeT : MergeT 9 := fun w _ hm hX => refMerge_any w hm hX
set_option maxRecDepth 100000 in
set_option maxHeartbeats 8000000 in
theorem quoMerge_any : MergeT 8 := fun {C m X} w he hm hX => by
  have hx := (Bx.new hm.is).alloc (.cells Tryd.zeroCells27 27)
  have hz : Ar ((w.alloc (.cells C 27)).alloc (.cells Tryd.zeroCells27 27)) (w.heap.size + 1) Tryd.zeroCells27 27 := by
    have := Ar.new (w.alloc (.cells C 27)) Tryd.zeroCells27 27
    rw [World.size_alloc] at this; exact this
  have hb0 : Below w.heap.size w ((w.alloc (.cells C 27)).alloc (.cells Tryd.zeroCells27 27)) := ((Below.refl _ _).alloc (Nat.le_refl _) _).alloc (by simp) _
  have hs0 : ((w.alloc (.cells C 27)).alloc (.cells Tryd.zeroCells27 27)).heap.size = w.heap.size + 2 := by simp
  obtain ⟨a1, a2, a3, c1, c2, c3, k1, k2, k3⟩ := hm.is.slices
  have HK := Lib.hid (show C[257]? = some (.slice a1 m.nx.length c1) ∧ C[258]? = some (.slice a2 m.lb.length c2) ∧ C[259]? = some (.slice a3 m.nm.length c3) from ⟨k1, k2, k3⟩)
  have HXX := Lib.hid hX; have HENV := Lib.hid he
  have HX := Lib.hid hx; have HZ := Lib.hid hz; have HB0 := Lib.hid hb0; have HS0 := Lib.hid hs0
  have HZO := Lib.hid (IsM.one (zero_is w)); have HZS := Lib.hid zc_size
  have HOF := Lib.hid hm.is.of'
  have HNM := Lib.hid (Bx.nmv hx k3).2.szs
  clear hx hz hb0 hs0 k1 k2 k3 hm hX he
  obtain ⟨Z, hZ, hz⟩ := zeroA
  have HZ8 := Lib.hid hZ
  clear hZ
  go_enter Tryd.func8, Tryd.ntmps8
  go_wp2_with (refine wpList_load_dfa rfl (.tmp 1) rfl rfl HX.out ?_)
  refine (quoClasses_any _ HX.out.is).mono ?_
  rintro e w3 ⟨A, rfl, hA, hb3⟩
  have HA := Lib.hid hA
  have hb3b : Below w3.heap.size w3 ((w3.alloc (.cells Z 22)).setRow w3.heap.size A) := below_row ((Below.refl _ _).alloc (Nat.le_refl _) _) (Nat.le_refl _) _
  have hb33 := hb3.trans (hb3b.mono hb3.size)
  have HX3 := Lib.hid (HX.out.below hb33); have HZ3 := Lib.hid (HZ.out.below hb33)
  have HB3 := Lib.hid (HB0.out.trans (hb33.mono HB0.out.size))
  have HS3 := Lib.hid (show w.heap.size + 2 ≤ w3.heap.size by have := hb3.size; rw [HS0.out] at this; exact this)
  have HAR := Lib.hid ((Ar.new w3 Z 22).row A)
  clear hA hb3 hb3b hb33 HX HZ HB0 HS0
  by_cases hok : Ok m
  case neg =>
    have HE := Lib.hid (merge_no hok)
    have t0 : (clsN m == 0) = true := by rw [(cls_no hok).1]; rfl
    clear hok
    go_wp2_with (first | (refine wpList_store_arr rfl 22 (.tmp 4) (.tmp 15) rfl rfl rfl (Ar.new _ _ _) HZ8.out.size HA.out infoA ?_; simp only [Act.put]) | (refine wpList_store_dfa rfl (.tmp 2) (.tmp 19) rfl rfl rfl HZ3.out HZS.out HZS.out HZO.out ?_; simp only [Act.put]))
    refine bodyPost_ret (res_kept rfl rfl rfl (HZ3.out.row _) HZS.out) rfl ⟨_, by rw [HE.out.1]; rfl, by rw [HE.out.2]; exact zero_rx _ _, below_row HB3.out (by omega) _⟩
  have HOK := Lib.hid hok
  have HE := Lib.hid (merge_yes hok)
  have HA := Lib.hid (show IsA A (nm (colE m)) by have := HA.out; rw [(cls_yes hok).2] at this; exact this)
  rw [(cls_yes hok).1]
  clear hok
  obtain ⟨K, hK⟩ : ∃ K, K = rk (colE m) 256 := ⟨_, rfl⟩
  have hK0 : 0 < K := by rw [hK]; exact rk_pos (colE_eqv m)
  have hK6 : (K : Int) ≤ 256 := by have := rk_le (E := colE m) 256; omega
  have t0 : ((K : Int) == 0) = false := by simp; omega
  have HKE := Lib.hid (show K = rk (colE m) 256 ∧ K ≤ 256 from ⟨hK, by omega⟩)
  rw [← hK]
  clear hK
  go_wp2_with (first | (refine wpList_store_arr rfl 22 (.tmp 4) (.tmp 15) rfl rfl rfl (Ar.new _ _ _) HZ8.out.size HA.out infoA ?_; simp only [Act.put]) | (refine wpList_load_arr rfl 22 (.tmp 4) rfl rfl HAR.out HA.out.size Tryd.underlying22 infoA ?_))
  clear t0
  obtain ⟨b4, hb4⟩ : ∃ b, b = w3.heap.size := ⟨_, rfl⟩
  rw [← hb4] at HS3 HAR HX3 HZ3 HB3 ⊢
  generalize ((w3.alloc (.cells Z 22)).setRow b4 A) = W3 at *
  clear hb4
  refine (PLeasts_any HA.out (fun b hb => by have := nm_le (E := colE m) b; omega) W3 (HENV.out.below HB3.out)).mono ?_
  rintro e w4 ⟨v6, rfl, ho6, hb4⟩
  rw [byKey_nm (colE_eqv m), ← HKE.out.1] at ho6
  obtain ⟨a6, c6, rfl⟩ := own_form ho6
  have hv6 := VS.of_owns ho6 (fun a c e => by
    rcases ho6.2 with ⟨e2, _⟩ | ⟨g, cap, cur, e2, _, _, _, hc, _⟩
    · rw [e2] at e; simp only [Value.slice.injEq] at e; have := e.2.2; omega
    · rw [e2] at e; simp only [Value.slice.injEq] at e; rw [← e.2.2]; exact hc)
  obtain ⟨a7, c7, e7, -, -, hc7⟩ := hv6
  simp only [Value.slice.injEq] at e7
  obtain ⟨rfl, -, -⟩ := e7
  rw [lowL_length] at hc7
  obtain ⟨b6, o6, rfl, -, -⟩ := hc7 0 hK0
  have hc6 : ∀ i, i < K → b6 < w4.heap.size ∧ w4.cell? ⟨b6, o6 + i, none⟩ = some (.int .u8 (lowN (colE m) i : Nat)) := fun i hi => by
    obtain ⟨b, o, e, h1, h2⟩ := hc7 i hi
    simp only [Option.some.injEq, Addr.mk.injEq, and_true] at e
    obtain ⟨rfl, rfl⟩ := e
    exact ⟨h1, h2.trans (lowL_at _ hi)⟩
  have HC6 := Lib.hid hc6
  have HX4 := Lib.hid (HX3.out.below hb4); have HZ4 := Lib.hid (HZ3.out.below hb4); have HAR4 := Lib.hid (HAR.out.below hb4)
  have HB4 := Lib.hid (HB3.out.trans (hb4.mono HB3.out.size))
  have HS4 := Lib.hid (show w.heap.size + 2 ≤ w4.heap.size from Nat.le_trans HS3.out (Nat.le_trans (Nat.le_of_lt HAR.out.lt) hb4.size))
  obtain ⟨n, hn⟩ : ∃ n, n = m.nx.length := ⟨_, rfl⟩
  have HN := Lib.hid (show n = m.nx.length ∧ m.lb.length = n ∧ n ≤ 65536 from ⟨hn, by rw [hn, HOK.out.len], by rw [hn, HOK.out.len]; have := HOK.out.lbs.2.1; omega⟩)
  have hni : (n : Int) ≤ 65536 := by have := HN.out.2.2; omega
  rw [← hn] at HK
  clear hc7 hc6 ho6 hb4 HX3 HZ3 HB3 HS3 HAR hn hK0
  go_wp2_with fail
  go_loopw [6, 23] (fun u i wr => MqF w w4 m K u i wr) (fun _ i _ => K - (intOf i).toNat)
  case atStart => exact ⟨0, Nat.zero_le _, rfl, OI.nil _ _, Below.refl _ _⟩
  case round =>
    obtain ⟨k, hk, rfl, ho, hb⟩ := hrel
    obtain ⟨au, cu, rfl, _, _⟩ := ho.len
    rw [fsQ_len] at ho ⊢
    by_cases hlt : k < K
    · have hc6 := HC6.out k hlt
      have z1 := (hb.cell (p := ⟨b6, o6 + k, none⟩) hc6.1).trans hc6.2
      have hl := (low_spec (colE_eqv m) (i := k) (by rw [← HKE.out.1]; exact hlt)).1
      have z2 := (Ar.at' (HX4.out.ar.below hb) (lowN (colE m) k)).trans (HOF.out _ hl)
      have hof6 := HX4.out.is.oflt _ hl
      have HFS := Lib.hid (fsQ_succ m k)
      obtain ⟨b, hb'⟩ : ∃ b, b = lowN (colE m) k := ⟨_, rfl⟩
      rw [← hb'] at z1 z2 hl hof6 HFS
      obtain ⟨q, hq⟩ : ∃ q, q = m.of b := ⟨_, rfl⟩
      rw [← hq] at z2 hof6 HFS
      have hbi : (b : Int) < 256 := by omega
      have hwr : IntKind.i64.wrap (q : Int) = (q : Int) := by rw [IntKind.wrap_i64]; omega
      have HO := Lib.hid (ho.below (al_b wr (.cells #[.int .i64 (q : Int)] 3)))
      have HB := Lib.hid (hb.alloc hb.size (.cells #[.int .i64 (q : Int)] 3))
      have HLT := Lib.hid hlt
      clear ho hb hc6 hb' hq
      go_wp2_with (at_builtin; refine wpList_append_int rfl (.tmp 27) (.tmp 33) rfl rfl HO.out HB.out.size ⟨wr.heap.size, 0, none⟩ 1 (q : Int) rfl (by rw [World.cell?_alloc_new]; rfl) rfl (by rw [fsQ_len]; have := HLT.out; omega) ?_; intro v' w5 hO5 hb5; have HO5 := Lib.hid hO5; have HB5 := Lib.hid (HB.out.trans hb5); clear hO5 hb5; go_frame)
      exact ⟨⟨k + 1, HLT.out, by go_num, by rw [HFS.out]; exact HO5.out, HB5.out⟩, by have := HLT.out; simp [intOf]; omega⟩
    · have hkn : k = K := by omega
      subst hkn
      have HFI := Lib.hid ho.is
      have HX := Lib.hid (HX4.out.below hb); have HZ := Lib.hid (HZ4.out.below hb); have HAR := Lib.hid (HAR4.out.below hb)
      have HB0 := Lib.hid (HB4.out.trans (hb.mono HB4.out.size)); have HS0 := Lib.hid (Nat.le_trans HS4.out hb.size)
      clear ho hb hlt HX4 HZ4 HAR4 HB4 HS4 HC6
      go_wp2_with fail
      generalize wr = W0 at *
      have HLB := Lib.hid (show m.lb.length ≤ 65536 by have := HN.out; omega)
      have HNL := Lib.hid (show m.nm.length ≤ 65536 by have := HOK.out.nms.1; omega)
      have HD := Lib.hid (show KB W0 W0.drew from (Below.refl _ _).drew)
      refine wp_region_W (fun i => decide (i < 10)) 10 1 (by kernel_rfl) (by kernel_rfl) (KB.up W0) HD.out ?_
      refine wpW_taken (i := 0) rfl (by kernel_rfl) (by kernel_rfl) (by kernel_rfl) (by kernel_rfl) (KB.up W0) ?_
      apply Exists.intro
      refine ⟨Or.inl ⟨rfl, fun W hW => ?hy⟩, ?_⟩
      case hy =>
        exact does_eq (run_load_arr 22 (.tmp 4) rfl rfl (HAR.out.below hW) HA.out.size Tryd.underlying22 infoA)
      simp only [Act.put, List.setIfInBounds_toArray, List.set]
      refine wpW_taken (i := 1) rfl (by kernel_rfl) (by kernel_rfl) (by kernel_rfl) (by kernel_rfl) (KB.up W0) ?_
      apply Exists.intro
      refine ⟨Or.inl ⟨rfl, fun W hW => ?hy⟩, ?_⟩
      case hy =>
        go_simp
        exact RegionU.does_value rfl
      simp only [Act.put, List.setIfInBounds_toArray, List.set]
      refine wpW_taken (i := 2) rfl (by kernel_rfl) (by kernel_rfl) (by kernel_rfl) (by kernel_rfl) (KB.up W0) ?_
      apply Exists.intro
      refine ⟨Or.inl ⟨rfl, fun W hW => ?hy⟩, ?_⟩
      case hy =>
        go_simp
        exact RegionU.does_value rfl
      simp only [Act.put, List.setIfInBounds_toArray, List.set]
      refine wpW_taken (i := 3) rfl (by kernel_rfl) (by kernel_rfl) (by kernel_rfl) (by kernel_rfl) (KB.up W0) ?_
      apply Exists.intro
      refine ⟨Or.inl ⟨rfl, fun W hW => ?hy⟩, ?_⟩
      case hy =>
        have d := ((HX.out.below hW).lbv HK.out.2.1).1
        go_simp
        exact RegionU.does_value rfl
      simp only [Act.put, List.setIfInBounds_toArray, List.set]
      refine wpW_taken (i := 5) rfl (by kernel_rfl) (by kernel_rfl) (by kernel_rfl) (by kernel_rfl) (KB.up W0) ?_
      apply Exists.intro
      refine ⟨Or.inl ⟨rfl, fun W hW => ?hy⟩, ?_⟩
      case hy =>
        go_simp
        exact RegionU.does_value rfl
      simp only [Act.put, List.setIfInBounds_toArray, List.set]
      refine wpW_taken (i := 6) rfl (by kernel_rfl) (by kernel_rfl) (by kernel_rfl) (by kernel_rfl) (KB.up W0) ?_
      apply Exists.intro
      refine ⟨Or.inl ⟨rfl, fun W hW => ?hy⟩, ?_⟩
      case hy =>
        have d := ((HX.out.below hW).nmv HK.out.2.2).1
        go_simp
        exact RegionU.does_value rfl
      simp only [Act.put, List.setIfInBounds_toArray, List.set]
      refine have REST : ∀ (W : World) (b : Nat) (a7 : Option Addr) (c7 : Nat) (a8 : Option Addr) (c8 : Nat), KB W0 W → OI W W0.heap.size (.slice a7 m.lb.length c7) m.lb → OS W W0.heap.size (.slice a8 m.nm.length c8) m.nm → Ar W b Tryd.zeroCells27 27 → W0.heap.size ≤ b → wpList Tryd.prog ?opsR ?QR ?tlR ((?actR : Nat → Option Addr → Nat → Option Addr → Nat → Act) b a7 c7 a8 c8) W := ?rest; ?main
      case main =>
        refine wpW_two (i := 4) (j := 9) (by kernel_rfl) (by kernel_rfl) (by kernel_rfl) rfl rfl rfl rfl (QI W0.heap.size m.lb) (QB W0.heap.size Tryd.zeroCells27) (QI.up _ _) (QB.up _ _) (fun W hW => ?hy4) (fun W hW => ?hy9) ?_ ?_
        case hy4 =>
          go_simp
          exact does_in ((clonesI_any W ((HX.out.below (show KB W0 W from hW)).lbv HK.out.2.1).2 HLB.out).mono fun e w' ⟨v, h, ho, hb⟩ => ⟨v, h, owns_base ho (Below.size (show KB W0 W from hW)), hb⟩)
        case hy9 =>
          go_simp
          exact RegionU.does_made ⟨_, rfl, Ar.new _ _ _, Below.size (show KB W0 W from hW)⟩ (al_b _ _)
        · intro u4
          simp only [Act.put, List.setIfInBounds_toArray, List.set]
          refine wpW_have (p := ∃ a5 c5, u4 = .slice a5 m.lb.length c5) (fun W hW => ?_) ?_
          · obtain ⟨a5, c5, hf5, _, _⟩ := OI.len (show OI _ _ _ _ from hW.2); exact ⟨a5, c5, hf5⟩
          rintro ⟨a7, c7, rfl⟩
          refine wpW_two (i := 7) (j := 9) (by kernel_rfl) (by kernel_rfl) (by kernel_rfl) rfl rfl rfl rfl (QT W0.heap.size m.nm) (QB W0.heap.size Tryd.zeroCells27) (QT.up _ _) (QB.up _ _) (fun W hW => ?hy7) (fun W hW => ?hy9) ?_ ?_
          case hy7 =>
            go_simp
            exact does_in ((clonesS_any W ((HX.out.below (show KB W0 W from hW.1)).nmv HK.out.2.2).2 HNL.out).mono fun e w' ⟨v, h, ho, hb⟩ => ⟨v, h, owns_base ho (Below.size (show KB W0 W from hW.1)), hb⟩)
          case hy9 =>
            go_simp
            exact RegionU.does_made ⟨_, rfl, Ar.new _ _ _, Below.size (show KB W0 W from hW.1)⟩ (al_b _ _)
          · intro u7
            simp only [Act.put, List.setIfInBounds_toArray, List.set]
            refine wpW_have (p := ∃ a5 c5, u7 = .slice a5 m.nm.length c5) (fun W hW => ?_) ?_
            · obtain ⟨a5, c5, hf5, _, _⟩ := OS.len (show OS _ _ _ _ from hW.2); exact ⟨a5, c5, hf5⟩
            rintro ⟨a8, c8, rfl⟩
            refine wpW_taken (i := 8) rfl (by kernel_rfl) (by kernel_rfl) (by kernel_rfl) (by kernel_rfl) (((KB.up W0).and (QI.up _ _ (.slice a7 m.lb.length c7))).and (QT.up _ _ (.slice a8 m.nm.length c8))) ?_
            apply Exists.intro
            refine ⟨Or.inl ⟨rfl, fun W hW => ?hy⟩, ?_⟩
            case hy =>
              exact does_eq (run_op_build6 (.tmp 36) (.tmp 37) (.tmp 40) (.tmp 43) rfl HA.out.size rfl rfl rfl rfl)
            simp only [Act.put, List.setIfInBounds_toArray, List.set]
            refine wpW_one (i := 9) (by kernel_rfl) (by kernel_rfl) rfl rfl (QB W0.heap.size Tryd.zeroCells27) (QB.up _ _) (fun W hW => ?hy) ?_
            case hy =>
              go_simp
              exact RegionU.does_made ⟨_, rfl, Ar.new _ _ _, Below.size (show KB W0 W from hW.1.1)⟩ (al_b _ _)
            intro u9
            simp only [Act.put, List.setIfInBounds_toArray, List.set]
            refine wpW_have (p := ∃ b, u9 = .pointer (some ⟨b, 0, none⟩)) (fun W hW => ?_) ?_
            · obtain ⟨b, h, _⟩ := hW.2; exact ⟨b, h⟩
            rintro ⟨b, rfl⟩
            refine wpW_done1 (i := 10) rfl (by kernel_rfl) (by kernel_rfl) ?_
            intro W hW
            obtain ⟨b2, h3, h4, h5⟩ := hW.2
            obtain rfl : b = b2 := by simpa using h3
            exact REST W b a7 c7 a8 c8 hW.1.1.1 hW.1.1.2 hW.1.2 h4 h5
          · intro u9
            simp only [Act.put, List.setIfInBounds_toArray, List.set]
            refine wpW_have (p := ∃ b, u9 = .pointer (some ⟨b, 0, none⟩)) (fun W hW => ?_) ?_
            · obtain ⟨b, h, _⟩ := hW.2; exact ⟨b, h⟩
            rintro ⟨b, rfl⟩
            refine wpW_one (i := 7) (by kernel_rfl) (by kernel_rfl) rfl rfl (QT W0.heap.size m.nm) (QT.up _ _) (fun W hW => ?hy) ?_
            case hy =>
              go_simp
              exact does_in ((clonesS_any W ((HX.out.below (show KB W0 W from hW.1.1)).nmv HK.out.2.2).2 HNL.out).mono fun e w' ⟨v, h, ho, hb⟩ => ⟨v, h, owns_base ho (Below.size (show KB W0 W from hW.1.1)), hb⟩)
            intro u7
            simp only [Act.put, List.setIfInBounds_toArray, List.set]
            refine wpW_have (p := ∃ a5 c5, u7 = .slice a5 m.nm.length c5) (fun W hW => ?_) ?_
            · obtain ⟨a5, c5, hf5, _, _⟩ := OS.len (show OS _ _ _ _ from hW.2); exact ⟨a5, c5, hf5⟩
            rintro ⟨a8, c8, rfl⟩
            refine wpW_taken (i := 8) rfl (by kernel_rfl) (by kernel_rfl) (by kernel_rfl) (by kernel_rfl) ((((KB.up W0).and (QI.up _ _ (.slice a7 m.lb.length c7))).and (QB.up _ _ (.pointer (some ⟨b, 0, none⟩)))).and (QT.up _ _ (.slice a8 m.nm.length c8))) ?_
            apply Exists.intro
            refine ⟨Or.inl ⟨rfl, fun W hW => ?hy⟩, ?_⟩
            case hy =>
              exact does_eq (run_op_build6 (.tmp 36) (.tmp 37) (.tmp 40) (.tmp 43) rfl HA.out.size rfl rfl rfl rfl)
            simp only [Act.put, List.setIfInBounds_toArray, List.set]
            refine wpW_done1 (i := 10) rfl (by kernel_rfl) (by kernel_rfl) ?_
            intro W hW
            obtain ⟨b2, h3, h4, h5⟩ := hW.1.2
            obtain rfl : b = b2 := by simpa using h3
            exact REST W b a7 c7 a8 c8 hW.1.1.1 hW.1.1.2 hW.2 h4 h5
        · intro u9
          simp only [Act.put, List.setIfInBounds_toArray, List.set]
          refine wpW_have (p := ∃ b, u9 = .pointer (some ⟨b, 0, none⟩)) (fun W hW => ?_) ?_
          · obtain ⟨b, h, _⟩ := hW.2; exact ⟨b, h⟩
          rintro ⟨b, rfl⟩
          refine wpW_one (i := 4) (by kernel_rfl) (by kernel_rfl) rfl rfl (QI W0.heap.size m.lb) (QI.up _ _) (fun W hW => ?hy) ?_
          case hy =>
            go_simp
            exact does_in ((clonesI_any W ((HX.out.below (show KB W0 W from hW.1)).lbv HK.out.2.1).2 HLB.out).mono fun e w' ⟨v, h, ho, hb⟩ => ⟨v, h, owns_base ho (Below.size (show KB W0 W from hW.1)), hb⟩)
          intro u4
          simp only [Act.put, List.setIfInBounds_toArray, List.set]
          refine wpW_have (p := ∃ a5 c5, u4 = .slice a5 m.lb.length c5) (fun W hW => ?_) ?_
          · obtain ⟨a5, c5, hf5, _, _⟩ := OI.len (show OI _ _ _ _ from hW.2); exact ⟨a5, c5, hf5⟩
          rintro ⟨a7, c7, rfl⟩
          refine wpW_one (i := 7) (by kernel_rfl) (by kernel_rfl) rfl rfl (QT W0.heap.size m.nm) (QT.up _ _) (fun W hW => ?hy) ?_
          case hy =>
            go_simp
            exact does_in ((clonesS_any W ((HX.out.below (show KB W0 W from hW.1.1)).nmv HK.out.2.2).2 HNL.out).mono fun e w' ⟨v, h, ho, hb⟩ => ⟨v, h, owns_base ho (Below.size (show KB W0 W from hW.1.1)), hb⟩)
          intro u7
          simp only [Act.put, List.setIfInBounds_toArray, List.set]
          refine wpW_have (p := ∃ a5 c5, u7 = .slice a5 m.nm.length c5) (fun W hW => ?_) ?_
          · obtain ⟨a5, c5, hf5, _, _⟩ := OS.len (show OS _ _ _ _ from hW.2); exact ⟨a5, c5, hf5⟩
          rintro ⟨a8, c8, rfl⟩
          refine wpW_taken (i := 8) rfl (by kernel_rfl) (by kernel_rfl) (by kernel_rfl) (by kernel_rfl) ((((KB.up W0).and (QB.up _ _ (.pointer (some ⟨b, 0, none⟩)))).and (QI.up _ _ (.slice a7 m.lb.length c7))).and (QT.up _ _ (.slice a8 m.nm.length c8))) ?_
          apply Exists.intro
          refine ⟨Or.inl ⟨rfl, fun W hW => ?hy⟩, ?_⟩
          case hy =>
            exact does_eq (run_op_build6 (.tmp 36) (.tmp 37) (.tmp 40) (.tmp 43) rfl HA.out.size rfl rfl rfl rfl)
          simp only [Act.put, List.setIfInBounds_toArray, List.set]
          refine wpW_done1 (i := 10) rfl (by kernel_rfl) (by kernel_rfl) ?_
          intro W hW
          obtain ⟨b2, h3, h4, h5⟩ := hW.1.1.2
          obtain rfl : b = b2 := by simpa using h3
          exact REST W b a7 c7 a8 c8 hW.1.1.1 hW.1.2 hW.2 h4 h5
      case rest =>
        intro W bk a7 c7 a8 c8 hKB hO hS hAb hbk
        have HAF := Lib.hid (show ∀ i, i < 256 → nm (colE m) i < 256 from fun i hi => by have := nm_le (E := colE m) i; omega)
        have HONE := Lib.hid (oneAll (one_of HA.out) (x := .int .i64 k) (v1 := nilS) (v2 := .slice a7 m.lb.length c7) (v3 := .slice a8 m.nm.length c8) rfl rfl rfl rfl)
        have HMS := Lib.hid (fun (x v1 v2 v3 : Value) => mkC_size HA.out.size x v1 v2 v3)
        have hA5 := hAb.row (mkC A (.int .i64 k) nilS (.slice a7 m.lb.length c7) (.slice a8 m.nm.length c8))
        have hkb : Below W0.heap.size W0 W := hKB
        have hs0 := HS0.out
        have hb5 : Below W0.heap.size W0 (W.setRow bk (mkC A (.int .i64 k) nilS (.slice a7 m.lb.length c7) (.slice a8 m.nm.length c8))) := below_row hkb hbk _
        have hO5 : OI (W.setRow bk (mkC A (.int .i64 k) nilS (.slice a7 m.lb.length c7) (.slice a8 m.nm.length c8))) W0.heap.size (.slice a7 m.lb.length c7) m.lb := own_keep hO fun g hg => heap_row _ _ _ (own_apart hO hAb (by decide) hg)
        have hS5 : OS (W.setRow bk (mkC A (.int .i64 k) nilS (.slice a7 m.lb.length c7) (.slice a8 m.nm.length c8))) W0.heap.size (.slice a8 m.nm.length c8) m.nm := own_keep hS fun g hg => heap_row _ _ _ (own_apart hS hAb (by decide) hg)
        refine wpList_store_dfa rfl (.tmp 9) (.tmp 44) rfl rfl rfl hAb HZS.out (HMS.out _ _ _ _) HONE.out ?_
        simp only [Act.put]
        have HKP := Lib.hid (Rw.first hA5)
        have HM5 := Lib.hid (rx_own (x := (k : Int)) HA.out HAF.out hA5 hO5 hS5 HNM.out)
        have HB5 := Lib.hid hb5; have HBK := Lib.hid hbk
        have y1 := ((HX.out.below hb5).nxv HK.out.1).1
        clear hA5 hb5 hO5 hS5 hKB hkb hO hS hAb hbk hs0 HD HONE
        generalize (W.setRow bk (mkC A (.int .i64 k) nilS (.slice a7 m.lb.length c7) (.slice a8 m.nm.length c8))) = W5 at *
        have HQL := Lib.hid (show (mergeN m).nx.length = n by rw [HN.out.1]; simp [mergeN])
        obtain ⟨d0, hd0⟩ : ∃ d : Nat, m.wd = d := ⟨_, HOK.out.wd⟩
        have HWD := Lib.hid hd0
        clear hd0
        go_wp2_with fail
        clear y1
        go_loopw [48] (MqL W5 bk A k m (.slice a7 m.lb.length c7) (.slice a8 m.nm.length c8) n) (fun i _ => n - (intOf i).toNat)
        case atStart => exact ⟨0, nilS, Nat.zero_le _, rfl, HKP.out⟩
        case round =>
          rename World => wr
          obtain ⟨j, v1, hj, rfl, hkp⟩ := hrel
          have hlr : ((mergeN m).nx.take j).length = j := by rw [List.length_take, HQL.out]; omega
          have HLR := Lib.hid hlr
          have hbw : Below W0.heap.size W0 wr := HB5.out.trans (hkp.blow HBK.out)
          have hbx := HX.out.below hbw
          have hat := hkp.at HA.out.size
          obtain ⟨vs0, ho10, _⟩ := hkp.o1
          obtain ⟨av1, cv1, rfl⟩ := own_form ho10
          rw [hlr] at hat hkp
          clear ho10 hlr
          by_cases hlt : j < n
          · have hsm : j < m.lb.length := by rw [HN.out.2.1]; exact hlt
            obtain ⟨y1, hRS⟩ := hbx.nxv HK.out.1
            obtain ⟨b1, o1, ar, cr, d, rfl, hd, hd6, hrl, hr1, hr2, hr3⟩ := row_is HOK.out hRS hsm
            have hpk := rowM_pick HOK.out HWD.out hsm
            rw [← HKE.out.1] at hpk
            have HPR := Lib.hid (fun W (hW : KB wr W) => picked_any W ((hr2.below hW).up (Below.size hW)) (((HFI.out.below hbw).below (hW.mono hbw.size)).up (Nat.le_trans hbw.size (Below.size hW))) (by rw [fsQ_len]; have := HKE.out.2; omega) hpk.1)
            rw [hpk.2] at HPR
            have HRN := Lib.hid (show (mergeRow m (m.nx.getD j [])).length = k ∧ (mergeN m).nx.getD j [] = mergeRow m (m.nx.getD j []) from ⟨by rw [mergeRow_len]; exact HKE.out.1.symm, mergeN_row m (by rw [← HN.out.1]; exact hlt)⟩)
            have HLK := Lib.hid hlt; have HKP := Lib.hid hkp; have HAT := Lib.hid hat
            clear hkp hat hRS hr2 hr3 hrl hpk hsm y1 hbx hbw hd hd6
            go_wp2_with fail
            clear hr1
            have HDR := Lib.hid (show KB wr wr.drew from (Below.refl _ _).drew)
            refine wp_region_W (fun i => decide (i < 6)) 6 3 (by kernel_rfl) (by kernel_rfl) (KB.up wr) HDR.out ?_
            refine wpW_taken (i := 0) rfl (by kernel_rfl) (by kernel_rfl) (by kernel_rfl) (by kernel_rfl) (KB.up wr) ?_
            apply Exists.intro
            refine ⟨Or.inl ⟨rfl, fun W hW => ?hy⟩, ?_⟩
            case hy =>
              go_simp
              exact RegionU.does_value rfl
            simp only [Act.put, List.setIfInBounds_toArray, List.set]
            refine wpW_taken (i := 1) rfl (by kernel_rfl) (by kernel_rfl) (by kernel_rfl) (by kernel_rfl) (KB.up wr) ?_
            apply Exists.intro
            refine ⟨Or.inl ⟨rfl, fun W hW => ?hy⟩, ?_⟩
            case hy =>
              have d := (Below.cell (p := ⟨bk, 257, none⟩) hW HKP.out.box.lt).trans HAT.out
              go_simp
              exact RegionU.does_value rfl
            simp only [Act.put, List.setIfInBounds_toArray, List.set]
            refine wpW_taken (i := 2) rfl (by kernel_rfl) (by kernel_rfl) (by kernel_rfl) (by kernel_rfl) (KB.up wr) ?_
            apply Exists.intro
            refine ⟨Or.inl ⟨rfl, fun W hW => ?hy⟩, ?_⟩
            case hy =>
              go_simp
              exact RegionU.does_value rfl
            simp only [Act.put, List.setIfInBounds_toArray, List.set]
            refine wpW_taken (i := 3) rfl (by kernel_rfl) (by kernel_rfl) (by kernel_rfl) (by kernel_rfl) (KB.up wr) ?_
            apply Exists.intro
            refine ⟨Or.inl ⟨rfl, fun W hW => ?hy⟩, ?_⟩
            case hy =>
              go_simp
              exact RegionU.does_value rfl
            simp only [Act.put, List.setIfInBounds_toArray, List.set]
            refine wpW_one (i := 4) (by kernel_rfl) (by kernel_rfl) rfl rfl (QI wr.heap.size (mergeRow m (m.nx.getD j []))) (QI.up _ _) (fun W hW => ?hy) ?_
            case hy =>
              go_simp
              exact does_in ((HPR.out W hW).mono fun e w' ⟨v, h, ho, hb⟩ => ⟨v, h, owns_base ho (Below.size (show KB wr W from hW)), hb⟩)
            intro u3
            simp only [Act.put, List.setIfInBounds_toArray, List.set]
            refine wpW_have (p := ∃ a5 c5, u3 = .slice a5 k c5) (fun W hW => ?_) ?_
            · obtain ⟨a8, c8, hf8, _, _⟩ := OI.len (show OI _ _ _ _ from hW.2); rw [HRN.out.1] at hf8; exact ⟨a8, c8, hf8⟩
            rintro ⟨ay, cy, rfl⟩
            refine wpW_one (i := 5) (by kernel_rfl) (by kernel_rfl) rfl rfl (Q1 wr.heap.size 24 (.slice ay k cy)) (Q1.up _ _ _) (fun W hW => ?hy) ?_
            case hy =>
              go_simp
              exact RegionU.does_made ⟨_, rfl, Ar.new _ _ _, Below.size (show Below _ _ _ from hW.1)⟩ (al_b _ _)
            intro u4
            simp only [Act.put, List.setIfInBounds_toArray, List.set]
            refine wpW_have (p := ∃ b, u4 = .slice (some ⟨b, 0, none⟩) 1 1) (fun W hW => ?_) ?_
            · obtain ⟨b, h, _⟩ := hW.2; exact ⟨b, h⟩
            rintro ⟨b9, rfl⟩
            refine wpW_done3 (i := 6) (j := 7) (k := 8) rfl rfl rfl (by kernel_rfl) (by kernel_rfl) ?_
            rintro W ⟨⟨h1, h2⟩, b', h3, h4, h5⟩
            obtain rfl : b9 = b' := by simpa using h3
            have h1 : Below wr.heap.size wr W := h1
            have h2 : OI W wr.heap.size (.slice ay k cy) (mergeRow m (m.nx.getD j [])) := h2
            have HAL := Lib.hid (HKP.out.below h1)
            have HRI := Lib.hid (owns_base h2 HKP.out.base)
            obtain ⟨vs, ho1, hvs⟩ := HAL.out.o1
            have HO1 := Lib.hid ho1; have HVS := Lib.hid hvs
            clear ho1 hvs
            refine wpList_append_row rfl (.tmp 53) (.tmp 57) rfl rfl HO1.out HAL.out.base ⟨b9, 0, none⟩ 1 rfl (Ar.at' h4 0) rfl (by rw [HLR.out]; have := HN.out.2.2; have := HLK.out; omega) ?_
            intro v1' w6 hO6 hg6
            obtain ⟨⟨yx6, hyx6⟩, hfx6⟩ := HAL.out.grown1 HA.out.size hg6
            have HKR := Lib.hid (HAL.out.row HA.out.size HVS.out HO1.out HRI.out hO6 hg6)
            obtain ⟨a9, c9, hv6⟩ := own_form hO6
            rw [HLR.out] at hv6
            subst hv6
            clear h1 h2 h3 h4 h5 hO6 hg6 HAL HRI HO1 HVS HPR
            go_wp2_with fail
            refine ⟨⟨j + 1, .slice a9 (j + 1) c9, HLK.out, by go_num, ?_⟩, by have := HLK.out; simp [intOf]; omega⟩
            rw [takeR_snoc _ (by rw [HQL.out]; exact HLK.out), HRN.out.2]
            exact HKR.out
          · have hjn : j = n := by omega
            have h1 : (mergeN m).nx.take j = (mergeN m).nx := List.take_of_length_le (by rw [HQL.out]; omega)
            rw [h1] at hkp
            have HLF := Lib.hid hkp
            have HRX := Lib.hid (Rw.rx (X := fun k => X k ∨ k = w.heap.size + 1) hkp HA.out HAF.out HM5.out (mkC_hi HA.out.size _ _ _ _ 2) (mkC_hi HA.out.size _ _ _ _ 3) (Nat.le_refl _) (fun k hk => .inl (hk.elim (fun h => by have := HXX.out k h; have := HS0.out; omega) fun e => by have := HS0.out; omega)) (.inr rfl) (fun k hk => by have := HB5.out.size; exact hk.elim (fun h => by have := HXX.out k h; have := HS0.out; omega) fun e => by have := HS0.out; omega))
            have HAZ2 := Lib.hid (show Ar wr (w.heap.size + 1) Tryd.zeroCells27 27 from (hbw.block _ (by have := HS0.out; omega)).trans HZ.out)
            have HBW := Lib.hid (HB0.out.trans (hbw.mono HB0.out.size))
            have HON := Lib.hid (oneAll (one_of HA.out) (x := .int .i64 k) (v1 := .slice av1 j cv1) (v2 := .slice a7 m.lb.length c7) (v3 := .slice a8 m.nm.length c8) rfl rfl rfl rfl)
            clear hjn hkp hbx h1 hat hbw
            go_wp2_with (first | (refine wpList_load_box rfl 27 (.tmp 9) rfl rfl HLF.out.box Tryd.underlying27 rfl (by rw [HMS.out]; exact infoD) ?_) | (refine wpList_store_dfa rfl (.tmp 2) (.tmp 61) rfl rfl rfl HAZ2.out HZS.out (HMS.out _ _ _ _) HON.out ?_; simp only [Act.put]))
            refine bodyPost_ret (res_kept rfl rfl rfl (HAZ2.out.row _) (HMS.out _ _ _ _)) rfl ⟨_, by rw [HE.out.1]; rfl, ?_, below_row HBW.out (by omega) _⟩
            rw [HE.out.2]
            have := (HRX.out.row (.inr rfl) (mkC A (.int .i64 k) (.slice av1 j cv1) (.slice a7 m.lb.length c7) (.slice a8 m.nm.length c8))).mono (Y := X) fun k hk => .inl hk
            have hke := HKE.out.1
            unfold mergeN at this ⊢
            rw [← hke]
            exact this
end Go.Proofs.YthefhkgjadfhgaaDoor.DfaW
