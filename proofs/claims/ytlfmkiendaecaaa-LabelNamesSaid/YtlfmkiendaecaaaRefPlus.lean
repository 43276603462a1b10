/- Walk of the document's Plus. -/
import Derived.Test.YtlfmkiendaecaaaMade2
import Derived.Test.YtlfmkiendaecaaaRightF
namespace Go.Proofs.Ytlfmkiendaecaaa.DfaW
set_option linter.unusedVariables false
set_option linter.unusedSimpArgs false
open Go.RowKit Go.Maps Go.Proofs.Ytlfmkiendaecaaa.PartM Go.Proofs.Ytlfmkiendaecaaa.PartW Go.Proofs.Ytlfmkiendaecaaa.TxM

theorem takeR_snoc (l : List (List Int)) {j : Nat} (hj : j < l.length) : l.take (j + 1) = l.take j ++ [l.getD j []] := by
  rw [List.take_succ_eq_append_getElem hj, List.getD_eq_getElem?_getD, List.getElem?_eq_getElem hj]; rfl
/-- The state that the k-th of the new ones goes on as. -/
def frm (k : Nat) : Nat := k - 1
theorem plus_row_at {m : Mc} (h : Ok m) {k : Nat} (hk : k ≤ m.lb.length) : (plusN m).nx.getD k [] = upL (m.nx.getD (frm k) []) := by
  cases k with
  | zero => exact plus_row0 m
  | succ k => exact plus_row m k
theorem plus_lb_at {m : Mc} {k : Nat} : (plusN m).lb.getD k 0 = if 0 < k then m.lb.getD (frm k) 0 else 0 := by
  cases k with
  | zero => rfl
  | succ k => rfl
theorem plus_lens {m : Mc} (h : Ok m) : (plusN m).nx.length = m.lb.length + 1 ∧ (plusN m).lb.length = m.lb.length + 1 := by simp [plusN, h.len]
/-- What the outer loop knows. -/
def PlusL (W : World) (bk : Nat) (C : Array Value) (m : Mc) (u : Value) (n : Nat) (i : Value) (wr : World) : Prop :=
  ∃ (k : Nat) (v1 v2 : Value), k ≤ n + 1 ∧ i = .int .i64 ((k : Int) - 1) ∧ Kept W wr bk W.heap.size (ofC C) m.wd v1 v2 u ((plusN m).nx.take k) ((plusN m).lb.take k)
/-- What the inner loop knows. -/
def PlusR (W1 : World) (r : List Int) (K : Nat) (v i : Value) (wi : World) : Prop := ∃ c : Nat, c ≤ K ∧ i = .int .i64 c ∧ OI wi W1.heap.size v ((upL r).take c) ∧ Below W1.heap.size W1 wi

theorem slot_next {s : Int} {k n : Nat} (hs : s = (k : Int) - 1) (hk : k ≤ n) (hn : (n : Int) ≤ 65536) : wrap64 (s + 1) = ((k + 1 : Nat) : Int) - 1 := by unfold wrap64; omega
theorem meas_next {s : Int} {k n : Nat} (hs : s = (k : Int) - 1) (hk : k ≤ n) (hn : (n : Int) ≤ 65536) : ((n : Int) - intOf (.int .i64 (wrap64 (s + 1)))).toNat < ((n : Int) - intOf (.int .i64 s)).toNat := by
  rw [slot_next hs hk hn]
  show ((n : Int) - (((k + 1 : Nat) : Int) - 1)).toNat < ((n : Int) - s).toNat
  omega
theorem meas_next' {F k n : Nat} (hs : (F : Int) = (k : Int) - 1) (hk : k ≤ n) : ((n : Int) - intOf (.int .i64 ((F : Int) + 1))).toNat < ((n : Int) - intOf (.int .i64 (F : Int))).toNat := by
  show ((n : Int) - ((F : Int) + 1)).toNat < ((n : Int) - (F : Int)).toNat
  omega
set_option maxRecDepth 100000 in
set_option maxHeartbeats 8000000 in
theorem refPlus_any {C : Array Value} {m : Mc} {X : Nat → Prop} (w : World) (hm : Rx X w C m) (hX : ∀ k, X k → k < w.heap.size) :
    Calls Try.prog 21 #[.agg C] w fun e w' => ∃ D, e = .returned (.tuple #[.agg D, .int .i64 (plusE m)]) ∧ Rx X w' D (plusM m) ∧ Below w.heap.size w w' := by
  have hx := (Bx.new hm.is).alloc (.cells Try.zeroCells27 27)
  have hz : Ar ((w.alloc (.cells C 27)).alloc (.cells Try.zeroCells27 27)) (w.heap.size + 1) Try.zeroCells27 27 := by
    have := Ar.new (w.alloc (.cells C 27)) Try.zeroCells27 27
    rw [World.size_alloc] at this; exact this
  have hb0 : Below w.heap.size w ((w.alloc (.cells C 27)).alloc (.cells Try.zeroCells27 27)) := ((Below.refl _ _).alloc (Nat.le_refl _) _).alloc (by simp) _
  have hs0 : ((w.alloc (.cells C 27)).alloc (.cells Try.zeroCells27 27)).heap.size = w.heap.size + 2 := by simp
  obtain ⟨a1, a2, a3, c1, c2, c3, k1, k2, k3⟩ := hm.is.slices
  have HK := Lib.hid (show C[257]? = some (.slice a1 m.nx.length c1) ∧ C[258]? = some (.slice a2 m.lb.length c2) ∧ C[259]? = some (.slice a3 m.nm.length c3) from ⟨k1, k2, k3⟩)
  have HM := Lib.hid hm; have HXX := Lib.hid hX
  have HX := Lib.hid hx; have HZ := Lib.hid hz; have HB0 := Lib.hid hb0; have HS0 := Lib.hid hs0
  have HZO := Lib.hid (IsM.one (zero_is w)); have HZS := Lib.hid zc_size
  have HA := Lib.hid hm.is.isA; have HAF := Lib.hid hm.is.oflt
  clear hx hz hb0 hs0 k1 k2 k3 hm hX
  go_enter Try.func21, Try.ntmps21
  go_wp2_with (refine wpList_load_dfa rfl (.tmp 1) rfl rfl HX.out ?_)
  refine (refRightD_any _ HX.out.is).mono ?_
  rintro e w2 ⟨hs, hb1⟩
  have HX2 := Lib.hid (HX.out.below hb1); have HZ2 := Lib.hid (HZ.out.below hb1)
  have HB2 := Lib.hid (HB0.out.trans (hb1.mono HB0.out.size))
  have HS2 := Lib.hid (show w.heap.size + 2 ≤ w2.heap.size by have := hb1.size; rw [HS0.out] at this; exact this)
  clear hb1 HX HZ HB0 HS0
  rcases hs.elim with ⟨rfl, hk⟩ | ⟨rfl, hk⟩
  case inr =>
    have HE := Lib.hid (plus_no hk)
    clear hs hk
    go_wp2_with (refine wpList_store_dfa rfl (.tmp 2) (.tmp 13) rfl rfl rfl HZ2.out HZS.out HZS.out HZO.out ?_; simp only [Act.put])
    refine bodyPost_ret (res_kept rfl rfl rfl (HZ2.out.row _) HZS.out) rfl ⟨_, by rw [HE.out.1]; rfl, by rw [HE.out.2]; exact zero_rx _ _, below_row HB2.out (by omega) _⟩
  have HOK := Lib.hid hk
  clear hs hk
  obtain ⟨y2, hI⟩ := HX2.out.lbv HK.out.2.1
  obtain ⟨b2, o2, rfl, hb2, hc2⟩ := hI.cell (i := 0) HOK.out.zero
  rw [Nat.add_zero] at hc2
  obtain ⟨n, hn⟩ : ∃ n, n = m.lb.length := ⟨_, rfl⟩
  have HN := Lib.hid (show n = m.lb.length from hn)
  have hni : (n : Int) ≤ 65536 := by have := HOK.out.lbs.2.1; omega
  have hn0 : 0 < n := by have := HOK.out.zero; omega
  have hnx : m.nx.length = n := by rw [HOK.out.len, hn]
  rw [← hn, hnx] at HK
  rw [← hn] at y2
  obtain ⟨x, hx⟩ : ∃ x, x = m.lb.getD 0 0 := ⟨_, rfl⟩
  rw [← hx] at hc2
  have HXL := Lib.hid hx
  clear hI hb2 hn hnx hx
  by_cases hx0 : x = 0
  · have t0 : (x == 0) = true := by rw [hx0]; rfl
    have HE := Lib.hid (plus_same HOK.out (by rw [← HXL.out]; exact hx0))
    have HCS := Lib.hid HX2.out.is.size; have HCO := Lib.hid HX2.out.is.one
    have HRX := Lib.hid ((HM.out.free HB2.out).mono (Y := fun k => X k ∨ k = w.heap.size + 1) fun k hk => hk.elim .inl fun h => .inr (by omega))
    clear hx0
    go_wp2_with (first | (refine wpList_load_dfa rfl (.tmp 1) rfl rfl HX2.out ?_) | (refine wpList_store_dfa rfl (.tmp 2) (.tmp 19) rfl rfl rfl HZ2.out HZS.out HCS.out HCO.out ?_; simp only [Act.put]))
    refine bodyPost_ret (res_kept rfl rfl rfl (HZ2.out.row _) HCS.out) rfl ⟨_, by rw [HE.out.1]; rfl, by rw [HE.out.2]; exact (HRX.out.row (.inr rfl) _).mono fun k hk => .inl hk, below_row HB2.out (by omega) _⟩
  have t0 : (x == 0) = false := by simpa using hx0
  have HX0 := Lib.hid (show ¬ m.lb.getD 0 0 = 0 by rw [← HXL.out]; exact hx0)
  clear hx0
  by_cases hbig : n = 65536
  · have t1 : ((n : Int) == 65536) = true := by rw [hbig]; rfl
    have HE := Lib.hid (plus_big HOK.out HX0.out (by rw [← HN.out]; exact hbig))
    clear hbig
    go_wp2_with (refine wpList_store_dfa rfl (.tmp 2) (.tmp 24) rfl rfl rfl HZ2.out HZS.out HZS.out HZO.out ?_; simp only [Act.put])
    refine bodyPost_ret (res_kept rfl rfl rfl (HZ2.out.row _) HZS.out) rfl ⟨_, by rw [HE.out.1]; rfl, by rw [HE.out.2]; exact zero_rx _ _, below_row HB2.out (by omega) _⟩
  have t1 : ((n : Int) == 65536) = false := by simp <;> omega
  have HE := Lib.hid (plus_yes HOK.out HX0.out (by rw [← HN.out]; exact hbig))
  clear hbig
  have x0 := HX2.out.wd
  have x3 := (HX2.out.nmv HK.out.2.2).1
  have HONE := Lib.hid (oneAll (one_of HA.out) (x := .int .i64 m.wd) (v1 := nilS) (v2 := nilS) (v3 := .slice a3 m.nm.length c3) rfl rfl rfl rfl)
  have HMS := Lib.hid (fun (x v1 v2 v3 : Value) => mkC_size HA.out.size x v1 v2 v3)
  go_wp2_with (first | (refine wpList_load_of rfl (.tmp 25) rfl rfl HX2.out ?_) | (refine wpList_build3 rfl (.tmp 26) (.tmp 28) (.tmp 30) rfl HA.out.size rfl rfl rfl ?_) | (refine wpList_store_dfa rfl (.tmp 4) (.tmp 31) rfl rfl rfl (Ar.new _ _ _) HZS.out (HMS.out _ _ _ _) HONE.out ?_; simp only [Act.put]))
  have hA5 := (Ar.new w2 Try.zeroCells27 27).row (mkC (ofC C) (.int .i64 m.wd) nilS nilS (.slice a3 m.nm.length c3))
  have hb5 : Below w2.heap.size w2 ((w2.alloc (.cells Try.zeroCells27 27)).setRow w2.heap.size (mkC (ofC C) (.int .i64 m.wd) nilS nilS (.slice a3 m.nm.length c3))) := below_row ((Below.refl _ _).alloc (Nat.le_refl _) _) (Nat.le_refl _) _
  have hs5 : ((w2.alloc (.cells Try.zeroCells27 27)).setRow w2.heap.size (mkC (ofC C) (.int .i64 m.wd) nilS nilS (.slice a3 m.nm.length c3))).heap.size = w2.heap.size + 1 := by rw [size_row, World.size_alloc]
  have HB5 := Lib.hid (HB2.out.trans (hb5.mono HB2.out.size))
  have HM5 := Lib.hid (HM.out.free HB5.out)
  have HAX := Lib.hid (HX2.out.ar.below hb5); have HAZ := Lib.hid (HZ2.out.below hb5)
  have HKP0 := Lib.hid (Kept.first hA5)
  have HS5 := Lib.hid hs5
  obtain ⟨bk, hbk⟩ : ∃ b, b = w2.heap.size := ⟨_, rfl⟩
  have HBK := Lib.hid (show w.heap.size + 2 ≤ bk by rw [hbk]; exact HS2.out)
  clear hA5 hb5 hs5 HX2 HZ2 HB2 HS2 x0 x3 y2 hc2 t0 t1
  rw [← hbk] at HKP0 HS5 HB5 HM5 HAX HAZ ⊢
  clear hbk
  generalize ((w2.alloc (.cells Try.zeroCells27 27)).setRow bk (mkC (ofC C) (.int .i64 m.wd) nilS nilS (.slice a3 m.nm.length c3))) = W5 at *
  obtain ⟨K, hK⟩ : ∃ K : Nat, m.wd = K := ⟨_, HOK.out.wd⟩
  have HWD := Lib.hid hK
  have hKi : (K : Int) ≤ 256 := by have := rk_le (E := byKey m.of) 256; have := HOK.out.wd; omega
  clear hK
  go_loopw [5] (PlusL W5 bk C m (.slice a3 m.nm.length c3) n) (fun i _ => ((n : Int) - intOf i).toNat)
  case atStart => exact ⟨0, nilS, nilS, Nat.zero_le _, rfl, HKP0.out⟩
  case round =>
    obtain ⟨k, v1, v2, hk, rfl, hkp⟩ := hrel
    have hlr : ((plusN m).nx.take k).length = k := by rw [List.length_take, (plus_lens HOK.out).1]; have := HN.out; omega
    have hll : ((plusN m).lb.take k).length = k := by rw [List.length_take, (plus_lens HOK.out).2]; have := HN.out; omega
    have HLR := Lib.hid hlr; have HLL := Lib.hid hll
    have hbx := hkp.bx (Nat.le_refl _) (.inr (by have := HBK.out; omega)) HAX.out (by have := HBK.out; omega) HM5.out
    have hat := hkp.at HA.out.size
    obtain ⟨vs0, ho10, _⟩ := hkp.o1
    obtain ⟨av1, cv1, rfl⟩ := own_form ho10
    obtain ⟨av2, cv2, rfl, _, _⟩ := hkp.o2.len
    rw [hlr] at hat hkp
    rw [hll] at hat hkp
    clear ho10 hlr hll
    obtain ⟨s, hs⟩ : ∃ s, s = (k : Int) - 1 := ⟨_, rfl⟩
    rw [← hs]
    have HSS := Lib.hid hs
    by_cases hlt : k ≤ n
    · have t0 : decide (s < (n : Int)) = true := by simp; omega
      have HLK := Lib.hid hlt
      obtain ⟨F, hF1, hF2, hF3⟩ : ∃ F : Nat, max s 0 = (F : Int) ∧ F = frm k ∧ F < n := ⟨k - 1, by omega, rfl, by omega⟩
      have y2 := hbx.lbv HK.out.2.1
      have y1 := hbx.nxv HK.out.1
      have hFl : F < m.nx.length := by rw [HOK.out.len, ← HN.out]; exact hF3
      obtain ⟨b1, o1, vr, rfl, hb1, hc1, hir⟩ := y1.2.cell hFl
      obtain ⟨ar, cr, rfl, _, _, hgr⟩ := hir.open
      obtain ⟨r, hr⟩ : ∃ r, r = m.nx.getD F [] := ⟨_, rfl⟩
      have hrl : r.length = K := by have := HOK.out.row (s := F) (by rw [← HN.out]; exact hF3); rw [HWD.out, ← hr] at this; omega
      have hrb : ∀ c, c < K → 0 ≤ r.getD c 0 ∧ r.getD c 0 < (n : Int) := fun c hc => by
        have := (HOK.out.rws.2 F hFl).2 c (by rw [← hr, hrl]; exact hc)
        rw [← hr, ← HN.out] at this; exact this
      rw [← hr, hrl] at hgr hc1
      have HRL := Lib.hid hrl; have HRB := Lib.hid hrb; have HGR := Lib.hid hgr
      have HFR := Lib.hid (show (plusN m).nx.getD k [] = upL r by rw [plus_row_at HOK.out (by rw [← HN.out]; exact hlt), hr, hF2])
      have HUL := Lib.hid (show (upL r).length = K by rw [upL_len, hrl])
      have HKP := Lib.hid hkp; have HBX := Lib.hid hbx; have HAT := Lib.hid hat
      have HC1 := Lib.hid (show b1 < wr.heap.size ∧ wr.cell? ⟨b1, o1 + F, none⟩ = some (.slice ar K cr) ∧ wr.cell? ⟨w.heap.size, 257, none⟩ = some (.slice (some ⟨b1, o1, none⟩) n c1) from ⟨hb1, hc1, y1.1⟩)
      have HF2 := Lib.hid hF2
      have HO0 := Lib.hid (OI.empty wr)
      have HY2 := Lib.hid y2
      have e258 := y2.1
      clear hkp hbx y1 hir hgr hr hrl hrb hc1 hb1 hFl hF2 y2 hs
      go_wp2_with fail
      clear e258
      go_loopw [7, 8] (fun u i wi => PlusR wr r K u i wi) (fun _ i _ => K - (intOf i).toNat)
      case atStart => exact ⟨0, Nat.zero_le _, rfl, HO0.out, (Below.refl _ _).alloc (Nat.le_refl _) _⟩
      case round =>
        obtain ⟨c, hc, rfl, hO, hb⟩ := hrel
        have htl : ((upL r).take c).length = c := by rw [List.length_take, HUL.out]; omega
        obtain ⟨av, cv, rfl, _, _⟩ := hO.len
        rw [htl] at hO ⊢
        have hbx := HBX.out.below hb
        have x0 := hbx.wd
        rw [HWD.out] at x0
        have d1 := (hb.cell (p := ⟨w.heap.size, 257, none⟩) (World.block_lt_of_cell? _ _ HC1.out.2.2)).trans HC1.out.2.2
        have d2 := (hb.cell (p := ⟨b1, o1 + F, none⟩) HC1.out.1).trans HC1.out.2.1
        have HO := Lib.hid hO; have HB := Lib.hid hb
        have HTL := Lib.hid htl
        by_cases hlc : c < K
        · obtain ⟨br, or, rfl, hbr, hcr⟩ := HGR.out c hlc
          have d3 := (hb.cell (p := ⟨br, or + c, none⟩) hbr).trans hcr
          obtain ⟨y, hy⟩ : ∃ y, y = r.getD c 0 := ⟨_, rfl⟩
          have hyb := HRB.out c hlc
          rw [← hy] at d3 hyb
          have hw : wrap64 (y + 1) = y + 1 := by unfold wrap64; omega
          have HLC := Lib.hid hlc
          have HT := Lib.hid (show (upL r).take (c + 1) = (upL r).take c ++ [y + 1] by rw [takeI_snoc _ (by rw [HUL.out]; exact hlc), upL_at _ (by rw [HRL.out]; exact hlc), ← hy])
          have HO2 := Lib.hid (hO.below ((Below.refl _ wr).alloc (Nat.le_refl _) (.cells #[.int .i64 (y + 1)] 3)))
          have HBA := Lib.hid (hb.alloc hb.size (.cells #[.int .i64 (y + 1)] 3))
          clear hO hb hy hbr hcr hbx htl
          go_wp2_with (at_builtin; refine wpList_append_int rfl (.tmp 48) (.tmp 58) rfl rfl HO2.out HBA.out.size ⟨wr.heap.size, 0, none⟩ 1 (y + 1) rfl (by rw [World.cell?_alloc_new]; rfl) rfl (by rw [HTL.out]; omega) ?_; intro v' w6 hO6 hb6; have HO6 := Lib.hid hO6; have HB6 := Lib.hid (HBA.out.trans hb6); obtain ⟨a6, c6, hv6, _, _⟩ := hO6.len; rw [List.length_append, HTL.out] at hv6; subst hv6; clear hO6 hb6)
          exact ⟨⟨c + 1, HLC.out, by go_num, by rw [HT.out]; exact HO6.out, HB6.out⟩, by have := HLC.out; simp [intOf]; omega⟩
        · have hcK : c = K := by omega
          have HKI := Lib.hid (HKP.out.below hb)
          have hat2 := (HKI.out.at HA.out.size)
          have HOW := Lib.hid (show OI wr W5.heap.size (.slice av K cv) (upL r) by
            have := owns_base hO HKP.out.base
            rw [hcK, show (upL r).take K = upL r from List.take_of_length_le (by rw [HUL.out]; exact Nat.le_refl _)] at this
            exact this)
          have HDJ := Lib.hid (show ∀ g, (Value.slice av K cv).ownBlock = some g → (Value.slice av2 k cv2).ownBlock ≠ some g from fun g e e2 => by
            rw [← hcK] at e
            have h1 := (own_at hO e).2.1
            have h2 := (own_at HKP.out.o2 e2).2.2
            omega)
          clear hO hb hbx htl
          have hKc : K = c := hcK.symm
          clear hcK
          subst hKc
          by_cases hk0 : k = 0
          · have t1 : decide (0 ≤ s) = false := by have := HSS.out; simp; omega
            have HFL := Lib.hid (show (plusN m).lb.getD k 0 = 0 by rw [plus_lb_at, if_neg (by omega)])
            have hc257 := hat2.1
            clear hk0 hat2
            have HAL := Lib.hid (HKI.out.below ((Below.refl _ wr).alloc (Nat.le_refl _) (.cells #[.slice av K cv] 24)))
            have HRI := Lib.hid ((HOW.out).below ((Below.refl _ wr).alloc (Nat.le_refl _) (.cells #[.slice av K cv] 24)))
            obtain ⟨vs, ho1, hvs⟩ := HAL.out.o1
            have HO1 := Lib.hid ho1; have HVS := Lib.hid hvs
            clear ho1 hvs
            go_wp2_with (first | (at_builtin; refine wpList_append_row rfl (.tmp 68) (.tmp 70) rfl rfl HO1.out (Nat.le_trans HAL.out.base (Nat.le_refl _)) ⟨wr.heap.size, 0, none⟩ 1 rfl (by rw [World.cell?_alloc_new]; rfl) rfl (by rw [HLR.out]; omega) ?_; intro v1' w6 hO6 hg6; obtain ⟨⟨yx6, hyx6⟩, hfx6⟩ := HAL.out.grown1 HA.out.size hg6; have HO6 := Lib.hid hO6; have HG6 := Lib.hid hg6; have HKR := Lib.hid (HAL.out.row HA.out.size HVS.out HO1.out HRI.out HDJ.out HO6.out HG6.out); obtain ⟨a6, c6, hv6⟩ := own_form hO6; rw [HLR.out] at hv6; subst hv6; clear hO6 hg6; have hc258 := (HKR.out.at HA.out.size).2) | (at_builtin; have HKL := Lib.hid (HKR.out.below ((Below.refl _ (w6.setCell ⟨bk, 257, none⟩ (.slice a6 (k + 1) c6))).alloc (Nat.le_refl _) (.cells #[.int .i64 0] 3))); have HCN : Hid (((w6.setCell ⟨bk, 257, none⟩ (.slice a6 (k + 1) c6)).alloc (.cells #[.int .i64 0] 3)).cell? ⟨w6.heap.size, 0, none⟩ = some (.int .i64 0)) := Lib.hid (by have := World.cell?_alloc_new (w6.setCell ⟨bk, 257, none⟩ (.slice a6 (k + 1) c6)) #[.int .i64 0] 3 0; rw [World.size_setCell] at this; rw [this]; rfl); refine wpList_append_int_at rfl (.tmp 74) (.tmp 76) rfl rfl HKL.out.o2 HKL.out.base ⟨w6.heap.size, 0, none⟩ 1 0 rfl HCN.out rfl (by rw [HLL.out]; omega) ?_; intro v2' w7 hO7 hg7 hat7; obtain ⟨⟨yx7, hyx7⟩, hfx7⟩ := HKL.out.grown2 HA.out.size hg7; have HO7 := Lib.hid hO7; have HG7 := Lib.hid hg7; have HAT7 := Lib.hid hat7; obtain ⟨a7, c7, hv7, _, _⟩ := hO7.len; rw [List.length_append, HLL.out] at hv7; subst hv7; clear hO7 hg7 hat7))
            refine ⟨⟨k + 1, .slice a6 (k + 1) c6, .slice a7 (k + 1) c7, by omega, congrArg _ (slot_next HSS.out HLK.out hni), ?_⟩, meas_next HSS.out HLK.out hni⟩
            rw [takeR_snoc _ (by rw [(plus_lens HOK.out).1, ← HN.out]; omega), takeI_snoc _ (by rw [(plus_lens HOK.out).2, ← HN.out]; omega), HFR.out, HFL.out]
            exact HKL.out.lab HA.out.size HO7.out HG7.out (fun q e => HAT7.out.elim (fun h => .inl (h.symm.trans e)) fun h => .inr (by have := h.symm.trans e; injection this with this; omega))
          · have hsF : s = (F : Int) := by have := HF2.out; have := HSS.out; unfold frm at *; omega
            have HFL := Lib.hid (show (plusN m).lb.getD k 0 = m.lb.getD F 0 by rw [plus_lb_at, if_pos (by omega), HF2.out])
            have hy2 := HBX.out.below HB.out
            have hy3 := hy2.lbv HK.out.2.1
            obtain ⟨b9, o9, hb9, _, hc9⟩ := hy3.2.cell (i := F) (by rw [← HN.out]; exact hF3)
            simp only [Option.some.injEq, Addr.mk.injEq, and_true] at hb9
            obtain ⟨rfl, rfl⟩ := hb9
            have e258 := hy3.1
            obtain ⟨y, hy⟩ : ∃ y, y = m.lb.getD F 0 := ⟨_, rfl⟩
            rw [← hy] at hc9 HFL
            have t1 : decide (0 ≤ (F : Int)) = true := by simp
            have hc257 := hat2.1
            subst hsF
            clear hk0 hat2 hy2 hy3 hy
            have HAL := Lib.hid (HKI.out.below ((Below.refl _ wr).alloc (Nat.le_refl _) (.cells #[.slice av K cv] 24)))
            have HRI := Lib.hid ((HOW.out).below ((Below.refl _ wr).alloc (Nat.le_refl _) (.cells #[.slice av K cv] 24)))
            obtain ⟨vs, ho1, hvs⟩ := HAL.out.o1
            have HO1 := Lib.hid ho1; have HVS := Lib.hid hvs
            clear ho1 hvs
            go_wp2_with (first | (at_builtin; refine wpList_append_row rfl (.tmp 68) (.tmp 70) rfl rfl HO1.out (Nat.le_trans HAL.out.base (Nat.le_refl _)) ⟨wr.heap.size, 0, none⟩ 1 rfl (by rw [World.cell?_alloc_new]; rfl) rfl (by rw [HLR.out]; omega) ?_; intro v1' w6 hO6 hg6; obtain ⟨⟨yx6, hyx6⟩, hfx6⟩ := HAL.out.grown1 HA.out.size hg6; have HO6 := Lib.hid hO6; have HG6 := Lib.hid hg6; have HKR := Lib.hid (HAL.out.row HA.out.size HVS.out HO1.out HRI.out HDJ.out HO6.out HG6.out); obtain ⟨a6, c6, hv6⟩ := own_form hO6; rw [HLR.out] at hv6; subst hv6; clear hO6 hg6; have hc258 := (HKR.out.at HA.out.size).2) | (at_builtin; have HKL := Lib.hid (HKR.out.below ((Below.refl _ (w6.setCell ⟨bk, 257, none⟩ (.slice a6 (k + 1) c6))).alloc (Nat.le_refl _) (.cells #[.int .i64 y] 3))); have HCN : Hid (((w6.setCell ⟨bk, 257, none⟩ (.slice a6 (k + 1) c6)).alloc (.cells #[.int .i64 y] 3)).cell? ⟨w6.heap.size, 0, none⟩ = some (.int .i64 y)) := Lib.hid (by have := World.cell?_alloc_new (w6.setCell ⟨bk, 257, none⟩ (.slice a6 (k + 1) c6)) #[.int .i64 y] 3 0; rw [World.size_setCell] at this; rw [this]; rfl); refine wpList_append_int_at rfl (.tmp 74) (.tmp 76) rfl rfl HKL.out.o2 HKL.out.base ⟨w6.heap.size, 0, none⟩ 1 y rfl HCN.out rfl (by rw [HLL.out]; omega) ?_; intro v2' w7 hO7 hg7 hat7; obtain ⟨⟨yx7, hyx7⟩, hfx7⟩ := HKL.out.grown2 HA.out.size hg7; have HO7 := Lib.hid hO7; have HG7 := Lib.hid hg7; have HAT7 := Lib.hid hat7; obtain ⟨a7, c7, hv7, _, _⟩ := hO7.len; rw [List.length_append, HLL.out] at hv7; subst hv7; clear hO7 hg7 hat7))
            refine ⟨⟨k + 1, .slice a6 (k + 1) c6, .slice a7 (k + 1) c7, by omega, congrArg _ (by have := HSS.out; omega), ?_⟩, meas_next' HSS.out HLK.out⟩
            rw [takeR_snoc _ (by rw [(plus_lens HOK.out).1, ← HN.out]; omega), takeI_snoc _ (by rw [(plus_lens HOK.out).2, ← HN.out]; omega), HFR.out, HFL.out]
            exact HKL.out.lab HA.out.size HO7.out HG7.out (fun q e => HAT7.out.elim (fun h => .inl (h.symm.trans e)) fun h => .inr (by have := h.symm.trans e; injection this with this; omega))
    · have hkn : k = n + 1 := by omega
      have t0 : decide (s < (n : Int)) = false := by simp; omega
      have e258 := (hbx.lbv HK.out.2.1).1
      have h1 : (plusN m).nx.take k = (plusN m).nx := List.take_of_length_le (by rw [(plus_lens HOK.out).1, ← HN.out]; omega)
      have h2 : (plusN m).lb.take k = (plusN m).lb := List.take_of_length_le (by rw [(plus_lens HOK.out).2, ← HN.out]; omega)
      rw [h1, h2] at hkp
      have HLF := Lib.hid hkp
      have HRX := Lib.hid (Kept.rx (X := fun k => X k ∨ k = w.heap.size + 1) hkp HA.out HAF.out HM5.out HK.out.2.2 (Nat.le_refl _) (fun k hk => hk.elim .inl fun e => .inr (by omega)) (.inr (by have := HBK.out; omega)) (fun k hk => hk.elim (fun h => by have := HXX.out k h; have := HS5.out; have := HBK.out; omega) fun e => by have := HS5.out; have := HBK.out; omega))
      have HAZ2 := Lib.hid (show Ar wr (w.heap.size + 1) Try.zeroCells27 27 from (hkp.fr (w.heap.size + 1) (by have := HBK.out; have := HS5.out; omega) (by have := HBK.out; omega)).trans HAZ.out)
      have HBW := Lib.hid (HB5.out.trans (hkp.blow (n := w.heap.size) (by have := HBK.out; omega)))
      have HON := Lib.hid (oneAll (one_of HA.out) (x := .int .i64 m.wd) (v1 := .slice av1 k cv1) (v2 := .slice av2 k cv2) (v3 := .slice a3 m.nm.length c3) rfl rfl rfl rfl)
      clear hkn hkp hbx h1 h2 hat hs
      go_wp2_with (first | (refine wpList_load_box rfl 27 (.tmp 4) rfl rfl HLF.out.box Try.underlying27 rfl (by rw [HMS.out]; exact infoD) ?_) | (refine wpList_store_dfa rfl (.tmp 2) (.tmp 79) rfl rfl rfl HAZ2.out HZS.out (HMS.out _ _ _ _) HON.out ?_; simp only [Act.put]))
      refine bodyPost_ret (res_kept rfl rfl rfl (HAZ2.out.row _) (HMS.out _ _ _ _)) rfl ⟨_, by rw [HE.out.1]; rfl, by rw [HE.out.2]; exact (HRX.out.row (.inr rfl) _).mono fun k hk => .inl hk, below_row HBW.out (by omega) _⟩
end Go.Proofs.Ytlfmkiendaecaaa.DfaW
