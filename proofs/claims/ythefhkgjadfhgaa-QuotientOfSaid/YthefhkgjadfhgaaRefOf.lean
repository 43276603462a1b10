/- Walk of the document's Of: the machine of blocks. -/
import Derived.Test.YthefhkgjadfhgaaMade2
import Derived.Test.YthefhkgjadfhgaaRefStable
import Derived.Test.YthefhkgjadfhgaaRefBlk
namespace Go.Proofs.Ythefhkgjadfhgaa.DfaW
set_option linter.unusedVariables false
set_option linter.unusedSimpArgs false
open Go.Proofs.Ythefhkgjadfhgaa.RegionU (Up wpW_taken wpW_takenY wpW_one wpW_two wpW_done1 wpW_done2 wpW_done3 wpW_have wp_region_W)
open Go.RowKit Go.Maps Go.Proofs.Ythefhkgjadfhgaa.PartM Go.Proofs.Ythefhkgjadfhgaa.PartW
/-- A slice of one thing. -/
def S1 (n : Nat) (t : TypeId) (x : Value) (u : Value) (W : World) : Prop := ∃ b, u = .slice (some ⟨b, 0, none⟩) 1 1 ∧ Ar W b #[x] t ∧ n ≤ b
theorem S1.up (n : Nat) (t : TypeId) (x : Value) (u : Value) : Up (S1 n t x u) := fun W W' ⟨b, h1, h2, h3⟩ hr => ⟨b, h1, h2.below hr, h3⟩
theorem alloc_b (w : World) (o : Obj) : Below w.heap.size w (w.alloc o) := (Below.refl _ _).alloc (Nat.le_refl _) _
/-- The rows, the labels of the blocks that begin below k. -/
def ofRows (m : Mc) (l : List Int) (k : Nat) : List (List Int) := (reps (blkE l) k).map (ofRow m l)
def ofLabs (m : Mc) (l : List Int) (k : Nat) : List Int := (reps (blkE l) k).map fun s => m.lb.getD s 0
theorem ofRows_len (m : Mc) (l : List Int) (k : Nat) : (ofRows m l k).length = rk (blkE l) k ∧ (ofLabs m l k).length = rk (blkE l) k := by simp [ofRows, ofLabs, reps_len]
theorem ofRows_new {m : Mc} {l : List Int} {k : Nat} (h : fst (blkE l) k = k) : ofRows m l (k + 1) = ofRows m l k ++ [ofRow m l k] ∧ ofLabs m l (k + 1) = ofLabs m l k ++ [m.lb.getD k 0] := by
  unfold ofRows ofLabs; rw [reps_succ, if_pos h, List.map_append, List.map_append]; exact ⟨rfl, rfl⟩
theorem ofRows_old {m : Mc} {l : List Int} {k : Nat} (h : fst (blkE l) k ≠ k) : ofRows m l (k + 1) = ofRows m l k ∧ ofLabs m l (k + 1) = ofLabs m l k := by
  unfold ofRows ofLabs; rw [reps_succ, if_neg h]; exact ⟨rfl, rfl⟩
theorem nm_rk (l : List Int) (k : Nat) : nm (blkE l) k = rk (blkE l) k ↔ fst (blkE l) k = k := by
  constructor
  · intro h
    by_cases e : fst (blkE l) k = k
    · exact e
    · have := nm_old (blkE_eqv l) e; omega
  · exact nm_first
/-- What the outer loop knows, the inner one. -/
def OfL (W : World) (bk : Nat) (C : Array Value) (m : Mc) (l : List Int) (u : Value) (n : Nat) (i : Value) (wr : World) : Prop :=
  ∃ (k : Nat) (v1 v2 : Value), k ≤ n ∧ i = .int .i64 k ∧ Kept W wr bk W.heap.size (ofC C) m.wd v1 v2 u (ofRows m l k) (ofLabs m l k)
def OfR (W1 : World) (r : List Int) (K : Nat) (v i : Value) (wi : World) : Prop := ∃ c : Nat, c ≤ K ∧ i = .int .i64 c ∧ OI wi W1.heap.size v (r.take c) ∧ Below W1.heap.size W1 wi
set_option maxRecDepth 100000 in
set_option maxHeartbeats 8000000 in
theorem refOf_any {C : Array Value} {m : Mc} {v : Value} {l : List Int} {X : Nat → Prop} (w : World) (hm : Rx X w C m) (hv : IS w.heap.size w v l) (hX : ∀ k, X k → k < w.heap.size) :
    Calls Try.prog 14 #[.agg C, v] w fun e w' => ∃ D, e = .returned (.tuple #[.agg D, .int .i64 (ofE m l)]) ∧ Rx X w' D (ofM m l) ∧ Below w.heap.size w w' := by
  have hx := (Bx.new hm.is).alloc (.cells Try.zeroCells31 31)
  have hz : Ar ((w.alloc (.cells C 31)).alloc (.cells Try.zeroCells31 31)) (w.heap.size + 1) Try.zeroCells31 31 := by
    have := Ar.new (w.alloc (.cells C 31)) Try.zeroCells31 31
    rw [World.size_alloc] at this; exact this
  have hb0 : Below w.heap.size w ((w.alloc (.cells C 31)).alloc (.cells Try.zeroCells31 31)) := ((Below.refl _ _).alloc (Nat.le_refl _) _).alloc (by simp) _
  have hs0 : ((w.alloc (.cells C 31)).alloc (.cells Try.zeroCells31 31)).heap.size = w.heap.size + 2 := by simp
  obtain ⟨a1, a2, a3, c1, c2, c3, k1, k2, k3⟩ := hm.is.slices
  obtain ⟨va, vc, rfl, _, g2, _⟩ := hv.open
  have HK := Lib.hid (show C[257]? = some (.slice a1 m.nx.length c1) ∧ C[258]? = some (.slice a2 m.lb.length c2) ∧ C[259]? = some (.slice a3 m.nm.length c3) from ⟨k1, k2, k3⟩)
  have HM := Lib.hid hm; have HXX := Lib.hid hX; have HV := Lib.hid hv
  have HX := Lib.hid hx; have HZ := Lib.hid hz; have HB0 := Lib.hid hb0; have HS0 := Lib.hid hs0
  have HZO := Lib.hid (IsM.one (zero_is w)); have HZS := Lib.hid zc_size
  have HA := Lib.hid hm.is.isA; have HAF := Lib.hid hm.is.oflt
  have HIM := Lib.hid (show ∀ W, Below w.heap.size w W → IsM W.heap.size W C m ∧ IS W.heap.size W (.slice va l.length vc) l from fun W hb => ⟨hm.is.next hb, (hv.below hb).up hb.size⟩)
  clear hx hz hb0 hs0 k1 k2 k3 hm hX hv g2
  go_enter Try.func14, Try.ntmps14
  go_wp2_with (refine wpList_load_dfa rfl (.tmp 2) rfl rfl HX.out ?_)
  refine (refRightD_any _ HX.out.is).mono ?_
  rintro e w2 ⟨hs, hb1⟩
  have HX2 := Lib.hid (HX.out.below hb1); have HZ2 := Lib.hid (HZ.out.below hb1)
  have HB2 := Lib.hid (HB0.out.trans (hb1.mono HB0.out.size))
  have HS2 := Lib.hid (show w.heap.size + 2 ≤ w2.heap.size by have := hb1.size; rw [HS0.out] at this; exact this)
  clear hb1 HX HZ HB0 HS0
  rcases hs.elim with ⟨rfl, hk⟩ | ⟨rfl, hk⟩
  case inr =>
    have HE := Lib.hid (of_no (l := l) hk)
    clear hs hk
    go_wp2_with (refine wpList_store_dfa rfl (.tmp 4) (.tmp 14) rfl rfl rfl HZ2.out HZS.out HZS.out HZO.out ?_; simp only [Act.put])
    refine bodyPost_ret (res_kept rfl rfl rfl (HZ2.out.row _) HZS.out) rfl ⟨_, by rw [HE.out.1]; rfl, by rw [HE.out.2]; exact zero_rx _ _, below_row HB2.out (by omega) _⟩
  have HOK := Lib.hid hk
  clear hs hk
  go_wp2_with (refine wpList_load_dfa rfl (.tmp 2) rfl rfl HX2.out ?_)
  refine (refStable_any _ (HIM.out _ HB2.out).1 (HIM.out _ HB2.out).2).mono ?_
  rintro e w3 ⟨hs, hb3⟩
  have HX3 := Lib.hid (HX2.out.below hb3); have HZ3 := Lib.hid (HZ2.out.below hb3)
  have HB3 := Lib.hid (HB2.out.trans (hb3.mono HB2.out.size))
  have HS3 := Lib.hid (show w.heap.size + 2 ≤ w3.heap.size from Nat.le_trans HS2.out hb3.size)
  clear hb3 HX2 HZ2 HB2 HS2
  rcases hs.elim with ⟨rfl, hk⟩ | ⟨rfl, hk⟩
  case inr =>
    have HE := Lib.hid (of_arg HOK.out hk)
    clear hs hk
    go_wp2_with (refine wpList_store_dfa rfl (.tmp 4) (.tmp 19) rfl rfl rfl HZ3.out HZS.out HZS.out HZO.out ?_; simp only [Act.put])
    refine bodyPost_ret (res_kept rfl rfl rfl (HZ3.out.row _) HZS.out) rfl ⟨_, by rw [HE.out.1]; rfl, by rw [HE.out.2]; exact zero_rx _ _, below_row HB3.out (by omega) _⟩
  have HST := Lib.hid hk
  have HE := Lib.hid (of_yes hk)
  clear hs hk
  have hll : l.length ≤ 65536 := by have := HST.out.2.1; have := HOK.out.lbs.2.1; omega
  have HLL := Lib.hid hll
  clear hll
  go_wp2_with fail
  refine (refNormB_any w3 (HIM.out _ HB3.out).2 (by have := HLL.out; omega)).mono ?_
  rintro e w4 ⟨v6, rfl, hO6, hb4⟩
  obtain ⟨n, hn⟩ : ∃ n, n = l.length := ⟨_, rfl⟩
  have HN := Lib.hid (show n = l.length ∧ m.lb.length = n ∧ m.nx.length = n from ⟨hn, by rw [hn]; exact HST.out.2.1.symm, by rw [HOK.out.len, hn]; exact HST.out.2.1.symm⟩)
  obtain ⟨a6, c6, rfl, _, _⟩ := hO6.len
  have hn0 : 0 < n := by have := HOK.out.zero; have := HN.out.2.1; omega
  have hni : (n : Int) ≤ 65536 := by have := HLL.out; omega
  obtain ⟨b6, o6, rfl, _, _⟩ := hO6.is.cell (i := 0) (by rw [normV_len, ← hn]; exact hn0)
  have hc6 : ∀ i, i < n → b6 < w4.heap.size ∧ w4.cell? ⟨b6, o6 + i, none⟩ = some (.int .i64 (nm (blkE l) i : Nat)) := fun i hi => by
    obtain ⟨b, o, e, h1, h2⟩ := hO6.is.cell (i := i) (by rw [normV_len, ← hn]; exact hi)
    simp only [Option.some.injEq, Addr.mk.injEq, and_true] at e
    obtain ⟨rfl, rfl⟩ := e
    exact ⟨h1, h2.trans (by unfold normV; rw [numsTo_at _ (by rw [← hn]; exact hi)])⟩
  rw [normV_len, ← hn]
  have HX4 := Lib.hid (HX3.out.below hb4); have HZ4 := Lib.hid (HZ3.out.below hb4)
  have HB4 := Lib.hid (HB3.out.trans (hb4.mono HB3.out.size))
  have HS4 := Lib.hid (show w.heap.size + 2 ≤ w4.heap.size from Nat.le_trans HS3.out hb4.size)
  have HC6 := Lib.hid hc6
  clear hb4 HX3 HZ3 HB3 HS3 hO6 hc6 hn
  have x0 := HX4.out.wd
  have x3 := (HX4.out.nmv HK.out.2.2).1
  have HONE := Lib.hid (oneAll (one_of HA.out) (x := .int .i64 m.wd) (v1 := nilS) (v2 := nilS) (v3 := .slice a3 m.nm.length c3) rfl rfl rfl rfl)
  have HMS := Lib.hid (fun (x v1 v2 v3 : Value) => mkC_size HA.out.size x v1 v2 v3)
  go_wp2_with (first | (refine wpList_load_of rfl (.tmp 22) rfl rfl HX4.out ?_) | (refine wpList_build3 rfl (.tmp 23) (.tmp 25) (.tmp 27) rfl HA.out.size rfl rfl rfl ?_) | (refine wpList_store_dfa rfl (.tmp 7) (.tmp 28) rfl rfl rfl (Ar.new _ _ _) HZS.out (HMS.out _ _ _ _) HONE.out ?_; simp only [Act.put]))
  have hA5 := (Ar.new w4 Try.zeroCells31 31).row (mkC (ofC C) (.int .i64 m.wd) nilS nilS (.slice a3 m.nm.length c3))
  have hb5 : Below w4.heap.size w4 ((w4.alloc (.cells Try.zeroCells31 31)).setRow w4.heap.size (mkC (ofC C) (.int .i64 m.wd) nilS nilS (.slice a3 m.nm.length c3))) := below_row ((Below.refl _ _).alloc (Nat.le_refl _) _) (Nat.le_refl _) _
  have hs5 : ((w4.alloc (.cells Try.zeroCells31 31)).setRow w4.heap.size (mkC (ofC C) (.int .i64 m.wd) nilS nilS (.slice a3 m.nm.length c3))).heap.size = w4.heap.size + 1 := by rw [size_row, World.size_alloc]
  have HB5 := Lib.hid (HB4.out.trans (hb5.mono HB4.out.size))
  have HM5 := Lib.hid (HM.out.free HB5.out)
  have HAX := Lib.hid (HX4.out.ar.below hb5); have HAZ := Lib.hid (HZ4.out.below hb5)
  have HC5 := Lib.hid (fun i hi => (⟨(HC6.out i hi).1, (hb5.cell (p := ⟨b6, o6 + i, none⟩) (HC6.out i hi).1).trans (HC6.out i hi).2⟩ : b6 < w4.heap.size ∧ _))
  have HKP0 := Lib.hid (Kept.first hA5)
  have HS5 := Lib.hid hs5
  obtain ⟨bk, hbk⟩ : ∃ b, b = w4.heap.size := ⟨_, rfl⟩
  have HBK := Lib.hid (show w.heap.size + 2 ≤ bk by rw [hbk]; exact HS4.out)
  clear hA5 hb5 hs5 HX4 HZ4 HB4 HS4 x0 x3 HC6
  rw [← hbk] at HKP0 HS5 HB5 HM5 HAX HAZ HC5 ⊢
  clear hbk
  generalize ((w4.alloc (.cells Try.zeroCells31 31)).setRow bk (mkC (ofC C) (.int .i64 m.wd) nilS nilS (.slice a3 m.nm.length c3))) = W5 at *
  obtain ⟨K, hK⟩ : ∃ K : Nat, m.wd = K := ⟨_, HOK.out.wd⟩
  have HWD := Lib.hid hK
  have hKi : (K : Int) ≤ 256 := by have := rk_le (E := byKey m.of) 256; have := HOK.out.wd; omega
  clear hK
  go_loopw [8] (OfL W5 bk C m l (.slice a3 m.nm.length c3) n) (fun i _ => n - (intOf i).toNat)
  case atStart => exact ⟨0, nilS, nilS, Nat.zero_le _, rfl, HKP0.out⟩
  case round =>
    obtain ⟨k, v1, v2, hk, rfl, hkp⟩ := hrel
    obtain ⟨hlr, hl2⟩ := ofRows_len m l k
    obtain ⟨R, hR⟩ : ∃ R, R = rk (blkE l) k := ⟨_, rfl⟩
    rw [← hR] at hlr hl2
    have HLR := Lib.hid hlr; have HLL2 := Lib.hid hl2
    have hRk : R ≤ k := by rw [hR]; exact rk_le _
    have hbx := hkp.bx (Nat.le_refl _) (.inr (by have := HBK.out; omega)) HAX.out (by have := HBK.out; omega) HM5.out
    have hat := hkp.at HA.out.size
    obtain ⟨vs0, ho10, _⟩ := hkp.o1
    obtain ⟨av1, cv1, rfl⟩ := own_form ho10
    obtain ⟨av2, cv2, rfl, _, _⟩ := hkp.o2.len
    rw [hlr] at hat hkp
    rw [hl2] at hat hkp
    clear ho10 hlr hl2
    by_cases hlt : k < n
    · obtain ⟨hb6, hc6⟩ := HC5.out k hlt
      obtain ⟨q, hq⟩ : ∃ q, q = nm (blkE l) k := ⟨_, rfl⟩
      rw [← hq] at hc6
      have hqk : q ≤ k := by rw [hq]; exact nm_le _
      have d6 := ((hkp.blow (Nat.le_refl bk)).cell (p := ⟨b6, o6 + k, none⟩) hb6).trans hc6
      have HLK := Lib.hid hlt; have HQ := Lib.hid hq; have HRK := Lib.hid hR
      have HKP := Lib.hid hkp; have HBX := Lib.hid hbx; have HAT := Lib.hid hat; have HD6 := Lib.hid d6
      clear hkp hbx hat hb6 hc6 hq d6 hR
      go_wp2_with fail
      have e6 : wr.drew.cell? ⟨b6, o6 + k, none⟩ = some (.int .i64 (q : Int)) := HD6.out
      have e258 : wr.drew.cell? ⟨bk, 258, none⟩ = some (.slice av2 R cv2) := HAT.out.2
      by_cases hqr : q = R
      case neg =>
        have t0 : ((q : Int) != (R : Int)) = true := by simp; omega
        have HF := Lib.hid (show fst (blkE l) k ≠ k from fun e => hqr (by rw [HQ.out, HRK.out]; exact (nm_rk l k).2 e))
        clear hqr
        go_region
        clear e6 e258
        go_wp2_with fail
        refine ⟨⟨k + 1, .slice av1 R cv1, .slice av2 R cv2, HLK.out, by go_num, ?_⟩, by have := HLK.out; simp [intOf]; omega⟩
        rw [(ofRows_old HF.out).1, (ofRows_old HF.out).2]
        exact HKP.out.below ((Below.refl _ _).drew)
      have t0 : ((q : Int) != (R : Int)) = false := by simp; omega
      have HF := Lib.hid (show fst (blkE l) k = k from (nm_rk l k).1 (by rw [← HQ.out, ← HRK.out]; exact hqr))
      clear hqr
      go_region
      clear e6 e258 t0
      have HKD := Lib.hid (HKP.out.below ((Below.refl _ wr).drew))
      have HBXD := Lib.hid (HBX.out.below ((Below.refl _ wr).drew))
      clear HKP HBX HAT HD6
      generalize wr.drew = wd at *
      go_wp2_with fail
      have hsm : k < m.lb.length := by rw [HN.out.2.1]; exact HLK.out
      obtain ⟨z1, hRS⟩ := HBXD.out.nxv HK.out.1
      obtain ⟨b1, o1, bs, os, cs, rfl, hr1, hr2⟩ := rows_form HOK.out hRS hsm
      have hrl : (m.nx.getD k []).length = K := by have := HOK.out.row hsm; rw [HWD.out] at this; omega
      rw [hrl] at hr1
      rw [HN.out.2.2] at z1
      have hr3 : ∀ c, c < K → at2 m.nx k c < n ∧ wd.cell? ⟨bs, os + c, none⟩ = some (.int .i64 (at2 m.nx k c : Nat)) := fun c hc => ⟨by
        have := (HOK.out.cell hsm (show (c : Int) < m.wd by rw [HWD.out]; omega)).2
        rw [HN.out.2.1] at this; exact this, hr2 c (by rw [HWD.out]; omega)⟩
      have hf6 : ∀ i, i < n → wd.cell? ⟨b6, o6 + i, none⟩ = some (.int .i64 (nm (blkE l) i : Nat)) := fun i hi => ((HKD.out.blow (Nat.le_refl bk)).cell (p := ⟨b6, o6 + i, none⟩) (HC5.out i hi).1).trans (HC5.out i hi).2
      have HR1 := Lib.hid (show wd.cell? ⟨w.heap.size, 257, none⟩ = some (.slice (some ⟨b1, o1, none⟩) n c1) ∧ wd.cell? ⟨b1, o1 + k, none⟩ = some (.slice (some ⟨bs, os, none⟩) K cs) from ⟨z1, hr1⟩)
      have HR3 := Lib.hid hr3; have HF6 := Lib.hid hf6
      have HUL := Lib.hid (show (ofRow m l k).length = K by rw [ofRow_len, hrl])
      have HUA := Lib.hid (fun c (hc : c < K) => ofRow_at m l (s := k) (c := c) (by rw [hrl]; exact hc))
      have HO0 := Lib.hid (OI.empty wd)
      clear z1 hRS hr1 hr2 hr3 hf6 hrl hsm
      go_loopw [9, 10] (fun u i wi => OfR wd (ofRow m l k) K u i wi) (fun _ i _ => K - (intOf i).toNat)
      case atStart => exact ⟨0, Nat.zero_le _, rfl, HO0.out, (Below.refl _ _).alloc (Nat.le_refl _) _⟩
      case round =>
        rename World => wi
        obtain ⟨c, hc, rfl, hO, hb⟩ := hrel
        have htl : ((ofRow m l k).take c).length = c := by rw [List.length_take, HUL.out]; omega
        obtain ⟨av, cv, rfl, _, _⟩ := hO.len
        rw [htl] at hO ⊢
        have hbx := HBXD.out.below hb
        have x0 := hbx.wd
        rw [HWD.out] at x0
        have d1 := (hb.cell (p := ⟨w.heap.size, 257, none⟩) (World.block_lt_of_cell? _ _ HR1.out.1)).trans HR1.out.1
        have d2 := (hb.cell (p := ⟨b1, o1 + k, none⟩) (World.block_lt_of_cell? _ _ HR1.out.2)).trans HR1.out.2
        have HO := Lib.hid hO; have HB := Lib.hid hb
        have HTL := Lib.hid htl
        have hkn := HLK.out
        by_cases hlc : c < K
        · obtain ⟨hp, hc3⟩ := HR3.out c hlc
          have hua := HUA.out c hlc
          obtain ⟨p, hpe⟩ : ∃ p, p = at2 m.nx k c := ⟨_, rfl⟩
          rw [← hpe] at hp hc3 hua
          have d3 := (hb.cell (p := ⟨bs, os + c, none⟩) (World.block_lt_of_cell? _ _ hc3)).trans hc3
          have hc4 := HF6.out p hp
          obtain ⟨y, hy⟩ : ∃ y, y = nm (blkE l) p := ⟨_, rfl⟩
          rw [← hy] at hc4 hua
          have d4 := (hb.cell (p := ⟨b6, o6 + p, none⟩) (World.block_lt_of_cell? _ _ hc4)).trans hc4
          have HLC := Lib.hid hlc
          have HT := Lib.hid (show (ofRow m l k).take (c + 1) = (ofRow m l k).take c ++ [(y : Int)] by rw [takeI_snoc _ (by rw [HUL.out]; exact hlc), hua])
          have HO2 := Lib.hid (hO.below ((Below.refl _ wi).alloc (Nat.le_refl _) (.cells #[.int .i64 (y : Int)] 3)))
          have HBA := Lib.hid (hb.alloc hb.size (.cells #[.int .i64 (y : Int)] 3))
          clear hO hb hy hua hpe hc3 hc4 hbx htl
          go_wp2_with (at_builtin; refine wpList_append_int rfl (.tmp 50) (.tmp 62) rfl rfl HO2.out HBA.out.size ⟨wi.heap.size, 0, none⟩ 1 (y : Int) rfl (by rw [World.cell?_alloc_new]; rfl) rfl (by rw [HTL.out]; omega) ?_; intro v' w6 hO6 hb6; have HO6 := Lib.hid hO6; have HB6 := Lib.hid (HBA.out.trans hb6); obtain ⟨a6, c6, hv6, _, _⟩ := hO6.len; rw [List.length_append, HTL.out] at hv6; subst hv6; clear hO6 hb6)
          exact ⟨⟨c + 1, HLC.out, by go_num, by rw [HT.out]; exact HO6.out, HB6.out⟩, by have := HLC.out; simp [intOf]; omega⟩
        · have hcK : c = K := by omega
          have HKI := Lib.hid (HKD.out.below hb)
          have hat2 := (HKI.out.at HA.out.size)
          have HOW := Lib.hid (show OI wi W5.heap.size (.slice av K cv) (ofRow m l k) by
            have := owns_base hO HKD.out.base
            rw [hcK, show (ofRow m l k).take K = ofRow m l k from List.take_of_length_le (by rw [HUL.out]; exact Nat.le_refl _)] at this
            exact this)
          have HDJ := Lib.hid (show ∀ g, (Value.slice av K cv).ownBlock = some g → (Value.slice av2 R cv2).ownBlock ≠ some g from fun g e e2 => by
            rw [← hcK] at e
            have h1 := (own_at hO e).2.1
            have h2 := (own_at HKD.out.o2 e2).2.2
            omega)
          clear hO hb hbx htl
          have hKc : K = c := hcK.symm
          clear hcK
          subst hKc
          have hc257 := hat2.1
          clear hat2
          have HAL := Lib.hid (HKI.out.below ((Below.refl _ wi).alloc (Nat.le_refl _) (.cells #[.slice av K cv] 22)))
          have HRI := Lib.hid ((HOW.out).below ((Below.refl _ wi).alloc (Nat.le_refl _) (.cells #[.slice av K cv] 22)))
          obtain ⟨vs, ho1, hvs⟩ := HAL.out.o1
          have HO1 := Lib.hid ho1; have HVS := Lib.hid hvs
          clear ho1 hvs
          go_wp2_with (at_builtin; refine wpList_append_row rfl (.tmp 65) (.tmp 67) rfl rfl HO1.out (Nat.le_trans HAL.out.base (Nat.le_refl _)) ⟨wi.heap.size, 0, none⟩ 1 rfl (by rw [World.cell?_alloc_new]; rfl) rfl (by rw [HLR.out]; omega) ?_; intro v1' w6 hO6 hg6; obtain ⟨⟨yx6, hyx6⟩, hfx6⟩ := HAL.out.grown1 HA.out.size hg6; have HO6 := Lib.hid hO6; have HG6 := Lib.hid hg6; have HKR := Lib.hid (HAL.out.row HA.out.size HVS.out HO1.out HRI.out HDJ.out HO6.out HG6.out); obtain ⟨a9, c9, hv6⟩ := own_form hO6; rw [HLR.out] at hv6; subst hv6; clear hO6 hg6)
          clear HO1 HVS HAL HRI HDJ HOW HKI HO6 HG6 hyx6 hfx6 hc257
          generalize w6.setCell ⟨bk, 257, none⟩ (.slice a9 (R + 1) c9) = wr2 at *
          have hbx := HKR.out.bx (Nat.le_refl _) (Y := fun k => X k ∨ w.heap.size ≤ k) (.inr (by have := HBK.out; omega)) HAX.out (by have := HBK.out; omega) HM5.out
          obtain ⟨y2, hIS⟩ := hbx.lbv HK.out.2.1
          rw [HN.out.2.1] at y2 hIS
          obtain ⟨b2, o2, rfl, hb2, hc2⟩ := hIS.cell (i := k) (by rw [HN.out.2.1]; exact HLK.out)
          obtain ⟨y, hy⟩ : ∃ y, y = m.lb.getD k 0 := ⟨_, rfl⟩
          rw [← hy] at hc2
          have HY := Lib.hid hy
          have HAT := Lib.hid (HKR.out.at HA.out.size)
          have HY2 := Lib.hid y2; have HC2 := Lib.hid hc2
          have HAR := Lib.hid hbx.ar; have HB2 := Lib.hid hb2
          clear y2 hc2 hbx hIS hb2 hy
          have HDR := Lib.hid (show KB wr2 wr2.drew from (Below.refl _ _).drew)
          refine wp_region_W (fun i => decide (i < 8)) 8 3 (by kernel_rfl) (by kernel_rfl) (KB.up wr2) HDR.out ?_
          refine wpW_taken (i := 0) rfl (by kernel_rfl) (by kernel_rfl) (by kernel_rfl) (by kernel_rfl) (KB.up wr2) ?_
          apply Exists.intro
          refine ⟨Or.inl ⟨rfl, fun W hW => ?hy⟩, ?_⟩
          case hy =>
            go_simp
            exact RegionU.does_value rfl
          simp only [Act.put, List.setIfInBounds_toArray, List.set]
          refine wpW_taken (i := 1) rfl (by kernel_rfl) (by kernel_rfl) (by kernel_rfl) (by kernel_rfl) (KB.up wr2) ?_
          apply Exists.intro
          refine ⟨Or.inl ⟨rfl, fun W hW => ?hy⟩, ?_⟩
          case hy =>
            have d := (Below.cell (p := ⟨bk, 258, none⟩) hW HKR.out.box.lt).trans HAT.out.2
            go_simp
            exact RegionU.does_value rfl
          simp only [Act.put, List.setIfInBounds_toArray, List.set]
          refine wpW_taken (i := 2) rfl (by kernel_rfl) (by kernel_rfl) (by kernel_rfl) (by kernel_rfl) (KB.up wr2) ?_
          apply Exists.intro
          refine ⟨Or.inl ⟨rfl, fun W hW => ?hy⟩, ?_⟩
          case hy =>
            go_simp
            exact RegionU.does_value rfl
          simp only [Act.put, List.setIfInBounds_toArray, List.set]
          refine wpW_taken (i := 3) rfl (by kernel_rfl) (by kernel_rfl) (by kernel_rfl) (by kernel_rfl) (KB.up wr2) ?_
          apply Exists.intro
          refine ⟨Or.inl ⟨rfl, fun W hW => ?hy⟩, ?_⟩
          case hy =>
            have d := (Below.cell (p := ⟨w.heap.size, 258, none⟩) hW HAR.out.lt).trans HY2.out
            go_simp
            exact RegionU.does_value rfl
          simp only [Act.put, List.setIfInBounds_toArray, List.set]
          refine wpW_taken (i := 4) rfl (by kernel_rfl) (by kernel_rfl) (by kernel_rfl) (by kernel_rfl) (KB.up wr2) ?_
          apply Exists.intro
          refine ⟨Or.inl ⟨rfl, fun W hW => ?hy⟩, ?_⟩
          case hy =>
            go_simp
            exact RegionU.does_value rfl
          simp only [Act.put, List.setIfInBounds_toArray, List.set]
          refine wpW_taken (i := 5) rfl (by kernel_rfl) (by kernel_rfl) (by kernel_rfl) (by kernel_rfl) (KB.up wr2) ?_
          apply Exists.intro
          refine ⟨Or.inl ⟨rfl, fun W hW => ?hy⟩, ?_⟩
          case hy =>
            have hlt := HLK.out
            go_simp
            exact RegionU.does_value rfl
          simp only [Act.put, List.setIfInBounds_toArray, List.set]
          refine wpW_taken (i := 6) rfl (by kernel_rfl) (by kernel_rfl) (by kernel_rfl) (by kernel_rfl) (KB.up wr2) ?_
          apply Exists.intro
          refine ⟨Or.inl ⟨rfl, fun W hW => ?hy⟩, ?_⟩
          case hy =>
            have d := (Below.cell (p := ⟨b2, o2 + k, none⟩) hW HB2.out).trans HC2.out
            go_simp
            exact RegionU.does_value rfl
          simp only [Act.put, List.setIfInBounds_toArray, List.set]
          refine wpW_one (i := 7) (by kernel_rfl) (by kernel_rfl) rfl rfl (S1 wr2.heap.size 3 (.int .i64 y)) (S1.up _ _ _) (fun W hW => ?hy) ?_
          case hy =>
            go_simp
            exact RegionU.does_made ⟨_, rfl, Ar.new _ _ _, Below.size (show Below _ _ _ from hW)⟩ (alloc_b _ _)
          intro u9
          simp only [Act.put, List.setIfInBounds_toArray, List.set]
          refine wpW_have (p := ∃ b, u9 = .slice (some ⟨b, 0, none⟩) 1 1) (fun W hW => ?_) ?_
          · obtain ⟨b, h, _⟩ := hW.2; exact ⟨b, h⟩
          rintro ⟨b9, rfl⟩
          refine wpW_done3 (i := 8) (j := 9) (k := 10) rfl rfl rfl (by kernel_rfl) (by kernel_rfl) ?_
          rintro W ⟨h1, b', h3, h4, h5⟩
          obtain rfl : b9 = b' := by simpa using h3
          have h1 : Below wr2.heap.size wr2 W := h1
          have hkw := HKR.out.below h1
          have HKX := Lib.hid hkw
          refine wpList_append_int_at rfl (.tmp 71) (.tmp 77) rfl rfl hkw.o2 hkw.base ⟨b9, 0, none⟩ 1 y rfl (Ar.at' h4 0) rfl (by rw [HLL2.out]; omega) ?_
          intro v2' w4' hO4 hg4 hat4
          obtain ⟨⟨yx, hyx⟩, hfx⟩ := hkw.grown2 HA.out.size hg4
          obtain ⟨a4, c4, hv4, _, _⟩ := hO4.len
          rw [List.length_append, HLL2.out] at hv4
          subst hv4
          have HNEW2 := Lib.hid (hkw.lab HA.out.size hO4 hg4 (fun g hg => by
            rcases hat4 with e | e
            · exact .inl (e ▸ hg)
            · rw [e] at hg; injection hg with hg; exact .inr (by omega)))
          clear h1 h3 h4 h5 hkw hO4 hg4 hat4 HKR HAT HY2 HC2 HAR HB2 HDR
          go_wp2_with fail
          refine ⟨⟨k + 1, .slice a9 (R + 1) c9, .slice a4 (R + 1) c4, HLK.out, by go_num, ?_⟩, by have := HLK.out; simp [intOf]; omega⟩
          rw [(ofRows_new HF.out).1, (ofRows_new HF.out).2, ← HY.out]
          exact HNEW2.out
    · have hkn : k = n := by omega
      have h1 : ofRows m l k = (ofN m l).nx := by rw [hkn, HN.out.1]; rfl
      have h2 : ofLabs m l k = (ofN m l).lb := by rw [hkn, HN.out.1]; rfl
      rw [h1, h2] at hkp
      have HLF := Lib.hid hkp
      have HRX := Lib.hid (Kept.rx (X := fun k => X k ∨ k = w.heap.size + 1) hkp HA.out HAF.out HM5.out HK.out.2.2 (Nat.le_refl _) (fun k hk => hk.elim .inl fun e => .inr (by omega)) (.inr (by have := HBK.out; omega)) (fun k hk => hk.elim (fun h => by have := HXX.out k h; have := HS5.out; have := HBK.out; omega) fun e => by have := HS5.out; have := HBK.out; omega))
      have HAZ2 := Lib.hid (show Ar wr (w.heap.size + 1) Try.zeroCells31 31 from (hkp.fr (w.heap.size + 1) (by have := HBK.out; have := HS5.out; omega) (by have := HBK.out; omega)).trans HAZ.out)
      have HBW := Lib.hid (HB5.out.trans (hkp.blow (n := w.heap.size) (by have := HBK.out; omega)))
      have HON := Lib.hid (oneAll (one_of HA.out) (x := .int .i64 m.wd) (v1 := .slice av1 R cv1) (v2 := .slice av2 R cv2) (v3 := .slice a3 m.nm.length c3) rfl rfl rfl rfl)
      clear hkn hkp hbx h1 h2 hat hR hRk
      go_wp2_with (first | (refine wpList_load_box rfl 31 (.tmp 7) rfl rfl HLF.out.box Try.underlying31 rfl (by rw [HMS.out]; exact infoD) ?_) | (refine wpList_store_dfa rfl (.tmp 4) (.tmp 80) rfl rfl rfl HAZ2.out HZS.out (HMS.out _ _ _ _) HON.out ?_; simp only [Act.put]))
      refine bodyPost_ret (res_kept rfl rfl rfl (HAZ2.out.row _) (HMS.out _ _ _ _)) rfl ⟨_, by rw [HE.out.1]; rfl, by rw [HE.out.2]; exact (HRX.out.row (.inr rfl) _).mono fun k hk => .inl hk, below_row HBW.out (by omega) _⟩
end Go.Proofs.Ythefhkgjadfhgaa.DfaW
