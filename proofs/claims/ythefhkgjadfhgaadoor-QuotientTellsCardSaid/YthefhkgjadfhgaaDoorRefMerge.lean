/- Walk of the document's Merge. -/
import Derived.Test.YthefhkgjadfhgaaDoorMadeR
import Derived.Test.YthefhkgjadfhgaaDoorRefClasses
import Derived.Test.YthefhkgjadfhgaaDoorLeasts
namespace Go.Proofs.YthefhkgjadfhgaaDoor.DfaW
set_option linter.unusedVariables false
set_option linter.unusedSimpArgs false
open Go.Proofs.YthefhkgjadfhgaaDoor.RegionU (Up wpW_taken wpW_takenY wpW_one wpW_two wpW_done1 wpW_done2 wpW_done3 wpW_have wp_region_W)
open Go.RowKit Go.Maps Go.Proofs.YthefhkgjadfhgaaDoor.PartM Go.Proofs.YthefhkgjadfhgaaDoor.PartW
/-- A slice of one thing. -/
def S1 (n : Nat) (t : TypeId) (x : Value) (u : Value) (W : World) : Prop := ∃ b, u = .slice (some ⟨b, 0, none⟩) 1 1 ∧ Ar W b #[x] t ∧ n ≤ b
theorem S1.up (n : Nat) (t : TypeId) (x : Value) (u : Value) : Up (S1 n t x u) := fun W W' ⟨b, h1, h2, h3⟩ hr => ⟨b, h1, h2.below hr, h3⟩
theorem alloc_b (w : World) (o : Obj) : Below w.heap.size w (w.alloc o) := (Below.refl _ _).alloc (Nat.le_refl _) _
theorem byKey_nm {E : Nat → Nat → Bool} (hE : Eqv E) : byKey (nm E) = E := by
  funext a b
  rw [nm_iff hE]
  unfold byKey
  rw [Bool.eq_iff_iff, beq_iff_eq, decide_eq_true_eq]
theorem lowL_at (E : Nat → Nat → Bool) {k i : Nat} (hi : i < k) : (lowL E k)[i]? = some (.int .u8 (lowN E i : Nat)) := by simp [lowL, hi]
theorem mergeRow_low (m : Mc) (r : List Int) {k : Nat} (hk : k < rk (colE m) 256) : (mergeRow m r).getD k 0 = r.getD (m.of (lowN (colE m) k)) 0 := by
  have hl : k < (reps (colE m) 256).length := by rw [reps_len]; exact hk
  unfold mergeRow lowN
  simp [List.getD, hl]
/-- What the outer loop knows, the inner one. -/
def MgL (W : World) (bk : Nat) (A : Array Value) (x : Int) (m : Mc) (v2 u : Value) (n : Nat) (i : Value) (wr : World) : Prop :=
  ∃ (k : Nat) (v1 : Value), k ≤ n ∧ i = .int .i64 k ∧ Rw W wr bk W.heap.size A x v1 v2 u ((mergeN m).nx.take k)
def MgR (W1 : World) (r : List Int) (K : Nat) (v i : Value) (wi : World) : Prop := ∃ c : Nat, c ≤ K ∧ i = .int .i64 c ∧ OI wi W1.heap.size v (r.take c) ∧ Below W1.heap.size W1 wi
set_option maxRecDepth 100000 in
set_option maxHeartbeats 8000000 in
theorem refMerge_any {C : Array Value} {m : Mc} {X : Nat → Prop} (w : World) (hm : Rx X w C m) (hX : ∀ k, X k → k < w.heap.size) :
    Calls Tryd.prog 9 #[.agg C] w fun e w' => ∃ D, e = .returned (.tuple #[.agg D, .int .i64 (mergeE m)]) ∧ Rx X w' D (mergeM m) ∧ Below w.heap.size w w' := by
  have hx := (Bx.new hm.is).alloc (.cells Tryd.zeroCells27 27)
  have hz : Ar ((w.alloc (.cells C 27)).alloc (.cells Tryd.zeroCells27 27)) (w.heap.size + 1) Tryd.zeroCells27 27 := by
    have := Ar.new (w.alloc (.cells C 27)) Tryd.zeroCells27 27
    rw [World.size_alloc] at this; exact this
  have hb0 : Below w.heap.size w ((w.alloc (.cells C 27)).alloc (.cells Tryd.zeroCells27 27)) := ((Below.refl _ _).alloc (Nat.le_refl _) _).alloc (by simp) _
  have hs0 : ((w.alloc (.cells C 27)).alloc (.cells Tryd.zeroCells27 27)).heap.size = w.heap.size + 2 := by simp
  obtain ⟨a1, a2, a3, c1, c2, c3, k1, k2, k3⟩ := hm.is.slices
  have HK := Lib.hid (show C[257]? = some (.slice a1 m.nx.length c1) ∧ C[258]? = some (.slice a2 m.lb.length c2) ∧ C[259]? = some (.slice a3 m.nm.length c3) from ⟨k1, k2, k3⟩)
  have HM := Lib.hid hm; have HXX := Lib.hid hX
  have HX := Lib.hid hx; have HZ := Lib.hid hz; have HB0 := Lib.hid hb0; have HS0 := Lib.hid hs0
  have HZO := Lib.hid (IsM.one (zero_is w)); have HZS := Lib.hid zc_size
  have HOF := Lib.hid hm.is.of'
  clear hx hz hb0 hs0 k1 k2 k3 hm hX
  obtain ⟨Z, hZ, hz⟩ := zeroA
  have HZ8 := Lib.hid hZ
  clear hZ
  go_enter Tryd.func9, Tryd.ntmps9
  go_wp2_with (refine wpList_load_dfa rfl (.tmp 1) rfl rfl HX.out ?_)
  refine (refRightD_any _ HX.out.is).mono ?_
  rintro e w2 ⟨hs, hb1⟩
  have HX2 := Lib.hid (HX.out.below hb1); have HZ2 := Lib.hid (HZ.out.below hb1)
  have HB2 := Lib.hid (HB0.out.trans (hb1.mono HB0.out.size))
  have HS2 := Lib.hid (show w.heap.size + 2 ≤ w2.heap.size by have := hb1.size; rw [HS0.out] at this; exact this)
  clear hb1 HX HZ HB0 HS0
  rcases hs.elim with ⟨rfl, hk⟩ | ⟨rfl, hk⟩
  case inr =>
    have HE := Lib.hid (merge_no hk)
    clear hs hk
    go_wp2_with (refine wpList_store_dfa rfl (.tmp 2) (.tmp 14) rfl rfl rfl HZ2.out HZS.out HZS.out HZO.out ?_; simp only [Act.put])
    refine bodyPost_ret (res_kept rfl rfl rfl (HZ2.out.row _) HZS.out) rfl ⟨_, by rw [HE.out.1]; rfl, by rw [HE.out.2]; exact zero_rx _ _, below_row HB2.out (by omega) _⟩
  have HOK := Lib.hid hk
  have HE := Lib.hid (merge_yes hk)
  clear hs hk
  go_wp2_with (refine wpList_load_dfa rfl (.tmp 1) rfl rfl HX2.out ?_)
  refine (refClasses_any _ HX2.out.is).mono ?_
  rintro e w3 ⟨A, rfl, hA, hb3⟩
  rw [(cls_yes HOK.out).1]
  rw [(cls_yes HOK.out).2] at hA
  have HA := Lib.hid hA
  have hb3b : Below w3.heap.size w3 ((w3.alloc (.cells Z 22)).setRow w3.heap.size A) := below_row ((Below.refl _ _).alloc (Nat.le_refl _) _) (Nat.le_refl _) _
  have hb33 := hb3.trans (hb3b.mono hb3.size)
  have HX3 := Lib.hid (HX2.out.below hb33); have HZ3 := Lib.hid (HZ2.out.below hb33)
  have HB3 := Lib.hid (HB2.out.trans (hb33.mono HB2.out.size))
  have HS3 := Lib.hid (show w.heap.size + 2 ≤ w3.heap.size from Nat.le_trans HS2.out hb3.size)
  have HAR := Lib.hid ((Ar.new w3 Z 22).row A)
  obtain ⟨K, hK⟩ : ∃ K, K = rk (colE m) 256 := ⟨_, rfl⟩
  have hK6 : (K : Int) ≤ 256 := by have := rk_le (E := colE m) 256; omega
  have HKE := Lib.hid hK
  rw [← hK]
  clear hA hb3 hb3b hb33 HX2 HZ2 HB2 HS2 hK
  go_wp2_with (first | (refine wpList_store_arr rfl 22 (.tmp 4) (.tmp 18) rfl rfl rfl (Ar.new _ _ _) HZ8.out.size HA.out infoA ?_; simp only [Act.put]) | (refine wpList_load_arr rfl 22 (.tmp 4) rfl rfl HAR.out HA.out.size Tryd.underlying22 infoA ?_))
  obtain ⟨b4, hb4⟩ : ∃ b, b = w3.heap.size := ⟨_, rfl⟩
  rw [← hb4] at HS3 HAR HX3 HZ3 HB3 ⊢
  generalize ((w3.alloc (.cells Z 22)).setRow b4 A) = W3 at *
  clear hb4
  refine (refLeasts_any HA.out (fun b hb => by have := nm_le (E := colE m) b; omega) W3).mono ?_
  rintro e w4 ⟨v6, rfl, ho6, hb4⟩
  rw [byKey_nm (colE_eqv m), ← HKE.out] at ho6
  obtain ⟨a6, c6, rfl⟩ := own_form ho6
  have hK0 : 0 < K := by rw [HKE.out]; exact rk_pos (colE_eqv m)
  have hv6 := VS.of_owns ho6 (fun a c e => by
    rcases ho6.2 with ⟨e2, _⟩ | ⟨g, cap, cur, e2, _, _, _, hc, _⟩
    · rw [e2] at e; simp only [Value.slice.injEq] at e; have := e.2.2; omega
    · rw [e2] at e; simp only [Value.slice.injEq] at e; rw [← e.2.2]; exact hc)
  obtain ⟨a7, c7, e7, -, -, hc7⟩ := hv6
  simp only [Value.slice.injEq] at e7
  obtain ⟨rfl, -, -⟩ := e7
  rw [lowL_length] at hc7
  obtain ⟨b6, o6, rfl, -, -⟩ := hc7 0 hK0
  have hc6 : ∀ i, i < K → b6 < w4.heap.size ∧ w4.cell? ⟨b6, o6 + i, none⟩ = some (.int .u8 (lowN (colE m) i : Nat)) := fun i hi => by
    obtain ⟨b, o, e, h1, h2⟩ := hc7 i hi
    simp only [Option.some.injEq, Addr.mk.injEq, and_true] at e
    obtain ⟨rfl, rfl⟩ := e
    exact ⟨h1, h2.trans (lowL_at _ hi)⟩
  have HC6 := Lib.hid hc6
  have HX4 := Lib.hid (HX3.out.below hb4); have HZ4 := Lib.hid (HZ3.out.below hb4); have HAR4 := Lib.hid (HAR.out.below hb4)
  have HB4 := Lib.hid (HB3.out.trans (hb4.mono HB3.out.size))
  have HS4 := Lib.hid (show w.heap.size + 2 ≤ w4.heap.size from Nat.le_trans HS3.out (Nat.le_trans (Nat.le_of_lt HAR.out.lt) hb4.size))
  obtain ⟨n, hn⟩ : ∃ n, n = m.nx.length := ⟨_, rfl⟩
  have HN := Lib.hid (show n = m.nx.length ∧ m.lb.length = n from ⟨hn, by rw [hn, HOK.out.len]⟩)
  have hni : (n : Int) ≤ 65536 := by have := HOK.out.lbs.2.1; have := HN.out.2; omega
  rw [← hn] at HK
  clear hc7 hc6 ho6 hb4 HX3 HZ3 HB3 HS3 HAR hn
  have x2 := (HX4.out.lbv HK.out.2.1).1
  have x3 := (HX4.out.nmv HK.out.2.2).1
  have HONE := Lib.hid (oneAll (one_of HA.out) (x := .int .i64 K) (v1 := nilS) (v2 := .slice a2 m.lb.length c2) (v3 := .slice a3 m.nm.length c3) rfl rfl rfl rfl)
  have HMS := Lib.hid (fun (x v1 v2 v3 : Value) => mkC_size HA.out.size x v1 v2 v3)
  go_wp2_with (first | (refine wpList_load_arr rfl 22 (.tmp 4) rfl rfl HAR4.out HA.out.size Tryd.underlying22 infoA ?_) | (refine wpList_build6 rfl (.tmp 22) (.tmp 23) (.tmp 25) (.tmp 27) rfl HA.out.size rfl rfl rfl rfl ?_) | (refine wpList_store_dfa rfl (.tmp 7) (.tmp 28) rfl rfl rfl (Ar.new _ _ _) HZS.out (HMS.out _ _ _ _) HONE.out ?_; simp only [Act.put]))
  have hA5 := (Ar.new w4 Tryd.zeroCells27 27).row (mkC A (.int .i64 K) nilS (.slice a2 m.lb.length c2) (.slice a3 m.nm.length c3))
  have hb5 : Below w4.heap.size w4 ((w4.alloc (.cells Tryd.zeroCells27 27)).setRow w4.heap.size (mkC A (.int .i64 K) nilS (.slice a2 m.lb.length c2) (.slice a3 m.nm.length c3))) := below_row ((Below.refl _ _).alloc (Nat.le_refl _) _) (Nat.le_refl _) _
  have hs5 : ((w4.alloc (.cells Tryd.zeroCells27 27)).setRow w4.heap.size (mkC A (.int .i64 K) nilS (.slice a2 m.lb.length c2) (.slice a3 m.nm.length c3))).heap.size = w4.heap.size + 1 := by rw [size_row, World.size_alloc]
  have HB5 := Lib.hid (HB4.out.trans (hb5.mono HB4.out.size))
  have HM5 := Lib.hid (HM.out.free HB5.out)
  have HAX := Lib.hid (HX4.out.ar.below hb5); have HAZ := Lib.hid (HZ4.out.below hb5)
  have HC5 := Lib.hid (fun i hi => (⟨(HC6.out i hi).1, (hb5.cell (p := ⟨b6, o6 + i, none⟩) (HC6.out i hi).1).trans (HC6.out i hi).2⟩ : b6 < w4.heap.size ∧ _))
  have HKP0 := Lib.hid (Rw.first hA5)
  have HS5 := Lib.hid hs5
  obtain ⟨bk, hbk⟩ : ∃ b, b = w4.heap.size := ⟨_, rfl⟩
  have HBK := Lib.hid (show w.heap.size + 2 ≤ bk by rw [hbk]; exact HS4.out)
  clear hA5 hb5 hs5 HX4 HZ4 HB4 HS4 HAR4 x2 x3 HC6
  rw [← hbk] at HKP0 HS5 HB5 HM5 HAX HAZ HC5 ⊢
  clear hbk hz
  generalize ((w4.alloc (.cells Tryd.zeroCells27 27)).setRow bk (mkC A (.int .i64 K) nilS (.slice a2 m.lb.length c2) (.slice a3 m.nm.length c3))) = W5 at *
  obtain ⟨d, hd⟩ : ∃ d : Nat, m.wd = d := ⟨_, HOK.out.wd⟩
  have HWD := Lib.hid hd
  have hdi : (d : Int) ≤ 256 := by have := rk_le (E := byKey m.of) 256; have := HOK.out.wd; omega
  clear hd
  have HML := Lib.hid (show (mergeN m).nx.length = n by rw [HN.out.1]; simp [mergeN])
  go_loopw [8] (MgL W5 bk A K m (.slice a2 m.lb.length c2) (.slice a3 m.nm.length c3) n) (fun i _ => n - (intOf i).toNat)
  case atStart => exact ⟨0, nilS, Nat.zero_le _, rfl, HKP0.out⟩
  case round =>
    obtain ⟨k, v1, hk, rfl, hkp⟩ := hrel
    have hlr : ((mergeN m).nx.take k).length = k := by rw [List.length_take, HML.out]; omega
    have HLR := Lib.hid hlr
    have hbx := hkp.bx (Nat.le_refl _) (.inr (by have := HBK.out; omega)) HAX.out (by have := HBK.out; omega) HM5.out
    have hat := hkp.at HA.out.size
    obtain ⟨vs0, ho10, _⟩ := hkp.o1
    obtain ⟨av1, cv1, rfl⟩ := own_form ho10
    rw [hlr] at hat hkp
    obtain ⟨y1, hRS⟩ := hbx.nxv HK.out.1
    clear ho10 hlr
    by_cases hlt : k < n
    · have hsm : k < m.lb.length := by rw [HN.out.2]; exact hlt
      obtain ⟨b1, o1, bs, os, cs, rfl, hr1, hr2⟩ := rows_form HOK.out hRS hsm
      have hrl : (m.nx.getD k []).length = d := by have := HOK.out.row hsm; rw [HWD.out] at this; omega
      rw [hrl] at hr1
      have HR1 := Lib.hid (show wr.cell? ⟨w.heap.size, 257, none⟩ = some (.slice (some ⟨b1, o1, none⟩) n c1) ∧ wr.cell? ⟨b1, o1 + k, none⟩ = some (.slice (some ⟨bs, os, none⟩) d cs) from ⟨y1, hr1⟩)
      have HR2 := Lib.hid hr2
      have HF6 := Lib.hid (fun i (hi : i < K) => ((hkp.blow (Nat.le_refl bk)).cell (p := ⟨b6, o6 + i, none⟩) (HC5.out i hi).1).trans (HC5.out i hi).2)
      have HAC := Lib.hid hbx.ar
      have HLK := Lib.hid hlt; have HKP := Lib.hid hkp; have HAT := Lib.hid hat
      have HSM := Lib.hid hsm
      obtain ⟨r, hr⟩ : ∃ r, r = mergeRow m (m.nx.getD k []) := ⟨_, rfl⟩
      have HR := Lib.hid (show r.length = K ∧ (∀ c, c < K → r.getD c 0 = (m.nx.getD k []).getD (m.of (lowN (colE m) c)) 0) ∧ (mergeN m).nx.getD k [] = r from ⟨by rw [hr, mergeRow_len, HKE.out], fun c hc => by rw [hr]; exact mergeRow_low m _ (by rw [← HKE.out]; exact hc), by rw [hr]; exact mergeN_row m (by rw [← HN.out.1]; exact hlt)⟩)
      have HO0 := Lib.hid (OI.empty wr)
      clear hkp hbx hat hRS hr1 hr2 hrl hr hsm
      go_wp2_with fail
      clear y1
      go_loopw [9, 10] (fun u i wi => MgR wr r K u i wi) (fun _ i _ => K - (intOf i).toNat)
      case atStart => exact ⟨0, Nat.zero_le _, rfl, HO0.out, (Below.refl _ _).alloc (Nat.le_refl _) _⟩
      case round =>
        rename World => wi
        obtain ⟨c, hc, rfl, hO, hb⟩ := hrel
        have htl : (r.take c).length = c := by rw [List.length_take, HR.out.1]; omega
        obtain ⟨av, cv, rfl, _, _⟩ := hO.len
        rw [htl] at hO ⊢
        have HO := Lib.hid hO; have HB := Lib.hid hb
        have HTL := Lib.hid htl
        have hkn := HLK.out
        by_cases hlc : c < K
        · have hlow := (low_spec (colE_eqv m) (i := c) (by rw [← HKE.out]; exact hlc)).1
          have f6 := HF6.out c hlc
          have f7 := (Ar.at' HAC.out (lowN (colE m) c)).trans (HOF.out _ hlow)
          have hol : ((m.of (lowN (colE m) c) : Nat) : Int) < m.wd := HOK.out.cls' hlow
          have f8 := HR2.out _ hol
          have hcell := (HOK.out.cell HSM.out hol).1
          have hrc := HR.out.2.1 c hlc
          rw [hcell] at hrc
          rw [HWD.out] at hol
          obtain ⟨g, hg⟩ : ∃ g, g = lowN (colE m) c := ⟨_, rfl⟩
          rw [← hg] at hlow f6 f7 f8 hol hrc
          obtain ⟨q, hq⟩ : ∃ q, q = m.of g := ⟨_, rfl⟩
          rw [← hq] at f7 f8 hol hrc
          obtain ⟨p, hp⟩ : ∃ p, p = at2 m.nx k q := ⟨_, rfl⟩
          rw [← hp] at f8 hrc
          have hqd : q < d := by omega
          have e1 := (hb.cell (p := ⟨w.heap.size, 257, none⟩) (World.block_lt_of_cell? _ _ HR1.out.1)).trans HR1.out.1
          have e2 := (hb.cell (p := ⟨b1, o1 + k, none⟩) (World.block_lt_of_cell? _ _ HR1.out.2)).trans HR1.out.2
          have e3 := (hb.cell (p := ⟨b6, o6 + c, none⟩) (World.block_lt_of_cell? _ _ f6)).trans f6
          have e4 := (hb.cell (p := ⟨w.heap.size, g, none⟩) (World.block_lt_of_cell? _ _ f7)).trans f7
          have e5 := (hb.cell (p := ⟨bs, os + q, none⟩) (World.block_lt_of_cell? _ _ f8)).trans f8
          have HEE := Lib.hid (show _ ∧ _ ∧ _ ∧ _ ∧ _ from ⟨e1, e2, e3, e4, e5⟩)
          have HLC := Lib.hid hlc; have HG := Lib.hid hlow; have HQ := Lib.hid hqd
          have HT := Lib.hid (show r.take (c + 1) = r.take c ++ [(p : Int)] by rw [takeI_snoc _ (by rw [HR.out.1]; exact hlc), hrc])
          clear hO hb htl f6 f7 f8 hcell hrc hg hq hp e1 e2 e3 e4 e5 hol
          go_wp2_with fail
          have HDR := Lib.hid (show KB wi wi.drew from (Below.refl _ _).drew)
          refine wp_region_W (fun i => decide (i < 16)) 16 2 (by kernel_rfl) (by kernel_rfl) (KB.up wi) HDR.out ?_
          refine wpW_taken (i := 0) rfl (by kernel_rfl) (by kernel_rfl) (by kernel_rfl) (by kernel_rfl) (KB.up wi) ?_
          apply Exists.intro
          refine ⟨Or.inl ⟨rfl, fun W hW => ?hy⟩, ?_⟩
          case hy =>
            go_simp
            exact RegionU.does_value rfl
          simp only [Act.put, List.setIfInBounds_toArray, List.set]
          refine wpW_taken (i := 1) rfl (by kernel_rfl) (by kernel_rfl) (by kernel_rfl) (by kernel_rfl) (KB.up wi) ?_
          apply Exists.intro
          refine ⟨Or.inl ⟨rfl, fun W hW => ?hy⟩, ?_⟩
          case hy =>
            go_simp
            exact RegionU.does_value rfl
          simp only [Act.put, List.setIfInBounds_toArray, List.set]
          refine wpW_taken (i := 2) rfl (by kernel_rfl) (by kernel_rfl) (by kernel_rfl) (by kernel_rfl) (KB.up wi) ?_
          apply Exists.intro
          refine ⟨Or.inl ⟨rfl, fun W hW => ?hy⟩, ?_⟩
          case hy =>
            have d := (Below.cell (p := ⟨w.heap.size, 257, none⟩) hW (World.block_lt_of_cell? _ _ HEE.out.1)).trans HEE.out.1
            go_simp
            exact RegionU.does_value rfl
          simp only [Act.put, List.setIfInBounds_toArray, List.set]
          refine wpW_taken (i := 3) rfl (by kernel_rfl) (by kernel_rfl) (by kernel_rfl) (by kernel_rfl) (KB.up wi) ?_
          apply Exists.intro
          refine ⟨Or.inl ⟨rfl, fun W hW => ?hy⟩, ?_⟩
          case hy =>
            go_simp
            exact RegionU.does_value rfl
          simp only [Act.put, List.setIfInBounds_toArray, List.set]
          refine wpW_taken (i := 4) rfl (by kernel_rfl) (by kernel_rfl) (by kernel_rfl) (by kernel_rfl) (KB.up wi) ?_
          apply Exists.intro
          refine ⟨Or.inl ⟨rfl, fun W hW => ?hy⟩, ?_⟩
          case hy =>
            have hlt := HLK.out
            go_simp
            exact RegionU.does_value rfl
          simp only [Act.put, List.setIfInBounds_toArray, List.set]
          refine wpW_taken (i := 5) rfl (by kernel_rfl) (by kernel_rfl) (by kernel_rfl) (by kernel_rfl) (KB.up wi) ?_
          apply Exists.intro
          refine ⟨Or.inl ⟨rfl, fun W hW => ?hy⟩, ?_⟩
          case hy =>
            have d := (Below.cell (p := ⟨b1, o1 + k, none⟩) hW (World.block_lt_of_cell? _ _ HEE.out.2.1)).trans HEE.out.2.1
            go_simp
            exact RegionU.does_value rfl
          simp only [Act.put, List.setIfInBounds_toArray, List.set]
          refine wpW_taken (i := 6) rfl (by kernel_rfl) (by kernel_rfl) (by kernel_rfl) (by kernel_rfl) (KB.up wi) ?_
          apply Exists.intro
          refine ⟨Or.inl ⟨rfl, fun W hW => ?hy⟩, ?_⟩
          case hy =>
            go_simp
            exact RegionU.does_value rfl
          simp only [Act.put, List.setIfInBounds_toArray, List.set]
          refine wpW_taken (i := 7) rfl (by kernel_rfl) (by kernel_rfl) (by kernel_rfl) (by kernel_rfl) (KB.up wi) ?_
          apply Exists.intro
          refine ⟨Or.inl ⟨rfl, fun W hW => ?hy⟩, ?_⟩
          case hy =>
            go_simp
            exact RegionU.does_value rfl
          simp only [Act.put, List.setIfInBounds_toArray, List.set]
          refine wpW_taken (i := 8) rfl (by kernel_rfl) (by kernel_rfl) (by kernel_rfl) (by kernel_rfl) (KB.up wi) ?_
          apply Exists.intro
          refine ⟨Or.inl ⟨rfl, fun W hW => ?hy⟩, ?_⟩
          case hy =>
            have hlt := HLC.out
            go_simp
            exact RegionU.does_value rfl
          simp only [Act.put, List.setIfInBounds_toArray, List.set]
          refine wpW_taken (i := 9) rfl (by kernel_rfl) (by kernel_rfl) (by kernel_rfl) (by kernel_rfl) (KB.up wi) ?_
          apply Exists.intro
          refine ⟨Or.inl ⟨rfl, fun W hW => ?hy⟩, ?_⟩
          case hy =>
            have d := (Below.cell (p := ⟨b6, o6 + c, none⟩) hW (World.block_lt_of_cell? _ _ HEE.out.2.2.1)).trans HEE.out.2.2.1
            go_simp
            exact RegionU.does_value rfl
          simp only [Act.put, List.setIfInBounds_toArray, List.set]
          refine wpW_taken (i := 10) rfl (by kernel_rfl) (by kernel_rfl) (by kernel_rfl) (by kernel_rfl) (KB.up wi) ?_
          apply Exists.intro
          refine ⟨Or.inl ⟨rfl, fun W hW => ?hy⟩, ?_⟩
          case hy =>
            go_simp
            exact RegionU.does_value rfl
          simp only [Act.put, List.setIfInBounds_toArray, List.set]
          refine wpW_taken (i := 11) rfl (by kernel_rfl) (by kernel_rfl) (by kernel_rfl) (by kernel_rfl) (KB.up wi) ?_
          apply Exists.intro
          refine ⟨Or.inl ⟨rfl, fun W hW => ?hy⟩, ?_⟩
          case hy =>
            have hlt : (g : Int) < 256 := by have := HG.out; omega
            go_simp
            exact RegionU.does_value rfl
          simp only [Act.put, List.setIfInBounds_toArray, List.set]
          refine wpW_taken (i := 12) rfl (by kernel_rfl) (by kernel_rfl) (by kernel_rfl) (by kernel_rfl) (KB.up wi) ?_
          apply Exists.intro
          refine ⟨Or.inl ⟨rfl, fun W hW => ?hy⟩, ?_⟩
          case hy =>
            have d := (Below.cell (p := ⟨w.heap.size, g, none⟩) hW (World.block_lt_of_cell? _ _ HEE.out.2.2.2.1)).trans HEE.out.2.2.2.1
            go_simp
            exact RegionU.does_value rfl
          simp only [Act.put, List.setIfInBounds_toArray, List.set]
          refine wpW_taken (i := 13) rfl (by kernel_rfl) (by kernel_rfl) (by kernel_rfl) (by kernel_rfl) (KB.up wi) ?_
          apply Exists.intro
          refine ⟨Or.inl ⟨rfl, fun W hW => ?hy⟩, ?_⟩
          case hy =>
            have hlt := HQ.out
            go_simp
            exact RegionU.does_value rfl
          simp only [Act.put, List.setIfInBounds_toArray, List.set]
          refine wpW_taken (i := 14) rfl (by kernel_rfl) (by kernel_rfl) (by kernel_rfl) (by kernel_rfl) (KB.up wi) ?_
          apply Exists.intro
          refine ⟨Or.inl ⟨rfl, fun W hW => ?hy⟩, ?_⟩
          case hy =>
            have d := (Below.cell (p := ⟨bs, os + q, none⟩) hW (World.block_lt_of_cell? _ _ HEE.out.2.2.2.2)).trans HEE.out.2.2.2.2
            go_simp
            exact RegionU.does_value rfl
          simp only [Act.put, List.setIfInBounds_toArray, List.set]
          refine wpW_one (i := 15) (by kernel_rfl) (by kernel_rfl) rfl rfl (S1 wi.heap.size 3 (.int .i64 (p : Int))) (S1.up _ _ _) (fun W hW => ?hy) ?_
          case hy =>
            go_simp
            exact RegionU.does_made ⟨_, rfl, Ar.new _ _ _, Below.size (show Below _ _ _ from hW)⟩ (alloc_b _ _)
          intro u9
          simp only [Act.put, List.setIfInBounds_toArray, List.set]
          refine wpW_have (p := ∃ b, u9 = .slice (some ⟨b, 0, none⟩) 1 1) (fun W hW => ?_) ?_
          · obtain ⟨b, h, _⟩ := hW.2; exact ⟨b, h⟩
          rintro ⟨b9, rfl⟩
          refine wpW_done2 (i := 16) (j := 17) rfl rfl (by kernel_rfl) (by kernel_rfl) ?_
          rintro W ⟨h1, b', h3, h4, h5⟩
          obtain rfl : b9 = b' := by simpa using h3
          have h1 : Below wi.heap.size wi W := h1
          have hbw := HB.out.trans (h1.mono HB.out.size)
          have HBW := Lib.hid hbw
          have hOw := HO.out.below h1
          refine wpList_append_int rfl (.tmp 42) (.tmp 57) rfl rfl hOw (Nat.le_trans HB.out.size h1.size) ⟨b9, 0, none⟩ 1 (p : Int) rfl (Ar.at' h4 0) rfl (by rw [HTL.out]; omega) ?_
          intro v' w6 hO6 hb6
          obtain ⟨a6', c6', hv6, _, _⟩ := hO6.len
          rw [List.length_append, HTL.out] at hv6
          subst hv6
          have HO6 := Lib.hid hO6; have HB6 := Lib.hid (hbw.trans hb6)
          clear h1 h3 h4 h5 hOw hbw hO6 hb6 HEE
          go_wp2_with fail
          exact ⟨⟨c + 1, HLC.out, by go_num, by rw [HT.out]; exact HO6.out, HB6.out⟩, by have := HLC.out; simp [intOf]; omega⟩
        · have hcK : c = K := by omega
          have HKI := Lib.hid (HKP.out.below hb)
          have hat2 := (HKI.out.at HA.out.size)
          have HOW := Lib.hid (show OI wi W5.heap.size (.slice av K cv) r by
            have := owns_base hO HKP.out.base
            rw [hcK, show r.take K = r from List.take_of_length_le (by rw [HR.out.1]; exact Nat.le_refl _)] at this
            exact this)
          clear hO hb htl
          have hKc : K = c := hcK.symm
          clear hcK
          subst hKc
          have HAL := Lib.hid (HKI.out.below ((Below.refl _ wi).alloc (Nat.le_refl _) (.cells #[.slice av K cv] 24)))
          have HRI := Lib.hid ((HOW.out).below ((Below.refl _ wi).alloc (Nat.le_refl _) (.cells #[.slice av K cv] 24)))
          obtain ⟨vs, ho1, hvs⟩ := HAL.out.o1
          have HO1 := Lib.hid ho1; have HVS := Lib.hid hvs
          clear ho1 hvs
          go_wp2_with (at_builtin; refine wpList_append_row rfl (.tmp 60) (.tmp 62) rfl rfl HO1.out (Nat.le_trans HAL.out.base (Nat.le_refl _)) ⟨wi.heap.size, 0, none⟩ 1 rfl (by rw [World.cell?_alloc_new]; rfl) rfl (by rw [HLR.out]; omega) ?_; intro v1' w6 hO6 hg6; obtain ⟨⟨yx6, hyx6⟩, hfx6⟩ := HAL.out.grown1 HA.out.size hg6; have HO6 := Lib.hid hO6; have HG6 := Lib.hid hg6; have HKR := Lib.hid (HAL.out.row HA.out.size HVS.out HO1.out HRI.out HO6.out HG6.out); obtain ⟨a9, c9, hv6⟩ := own_form hO6; rw [HLR.out] at hv6; subst hv6; clear hO6 hg6)
          refine ⟨⟨k + 1, .slice a9 (k + 1) c9, HLK.out, by go_num, ?_⟩, by have := HLK.out; simp [intOf]; omega⟩
          rw [takeR_snoc _ (by rw [HML.out]; exact HLK.out), HR.out.2.2]
          exact HKR.out
    · have hkn : k = n := by omega
      have h1 : (mergeN m).nx.take k = (mergeN m).nx := List.take_of_length_le (by rw [HML.out]; omega)
      rw [h1] at hkp
      have HLF := Lib.hid hkp
      have HRX := Lib.hid (Rw.rx (X := fun k => X k ∨ k = w.heap.size + 1) hkp HA.out (fun i hi => by have := nm_le (E := colE m) i; omega) HM5.out HK.out.2.1 HK.out.2.2 (Nat.le_refl _) (fun k hk => hk.elim .inl fun e => .inr (by omega)) (.inr (by have := HBK.out; omega)) (fun k hk => hk.elim (fun h => by have := HXX.out k h; have := HS5.out; have := HBK.out; omega) fun e => by have := HS5.out; have := HBK.out; omega))
      have HAZ2 := Lib.hid (show Ar wr (w.heap.size + 1) Tryd.zeroCells27 27 from (hkp.fr (w.heap.size + 1) (by have := HBK.out; have := HS5.out; omega) (by have := HBK.out; omega)).trans HAZ.out)
      have HBW := Lib.hid (HB5.out.trans (hkp.blow (n := w.heap.size) (by have := HBK.out; omega)))
      have HON := Lib.hid (oneAll (one_of HA.out) (x := .int .i64 K) (v1 := .slice av1 k cv1) (v2 := .slice a2 m.lb.length c2) (v3 := .slice a3 m.nm.length c3) rfl rfl rfl rfl)
      clear hkn hkp hbx h1 hat hRS
      go_wp2_with (first | (refine wpList_load_box rfl 27 (.tmp 7) rfl rfl HLF.out.box Tryd.underlying27 rfl (by rw [HMS.out]; exact infoD) ?_) | (refine wpList_store_dfa rfl (.tmp 2) (.tmp 65) rfl rfl rfl HAZ2.out HZS.out (HMS.out _ _ _ _) HON.out ?_; simp only [Act.put]))
      refine bodyPost_ret (res_kept rfl rfl rfl (HAZ2.out.row _) (HMS.out _ _ _ _)) rfl ⟨_, by rw [HE.out.1]; rfl, ?_, below_row HBW.out (by omega) _⟩
      rw [HE.out.2]
      have := (HRX.out.row (.inr rfl) (mkC A (.int .i64 K) (.slice av1 k cv1) (.slice a2 m.lb.length c2) (.slice a3 m.nm.length c3))).mono (Y := X) fun k hk => .inl hk
      rw [HKE.out] at this ⊢
      exact this
end Go.Proofs.YthefhkgjadfhgaaDoor.DfaW
