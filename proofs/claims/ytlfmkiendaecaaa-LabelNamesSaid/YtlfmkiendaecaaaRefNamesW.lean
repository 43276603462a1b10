/- Walk of the document's Names. -/
import Derived.Test.YtlfmkiendaecaaaMade
import Derived.Test.YtlfmkiendaecaaaRefNames
import Derived.StillTailTactics
namespace Go.Proofs.Ytlfmkiendaecaaa.DfaW
set_option linter.unusedVariables false
set_option linter.unusedSimpArgs false
open Go.RowKit Go.Maps Go.Proofs.Ytlfmkiendaecaaa.PartM Go.Proofs.Ytlfmkiendaecaaa.PartW Go.Proofs.Ytlfmkiendaecaaa.TxM

/-- The first labels, turned. -/
def lbsTo (m : Mc) (f : Int → Int) (k : Nat) : List Int := (m.lb.take k).map f
theorem lbsTo_succ (m : Mc) (f : Int → Int) {k : Nat} (hk : k < m.lb.length) : lbsTo m f (k + 1) = lbsTo m f k ++ [f (m.lb.getD k 0)] := by
  unfold lbsTo; rw [takeI_snoc _ hk, List.map_append]; rfl
theorem lbsTo_all (m : Mc) (f : Int → Int) : lbsTo m f m.lb.length = m.lb.map f := by unfold lbsTo; rw [List.take_length]
theorem lbsTo_len (m : Mc) (f : Int → Int) (k : Nat) : (lbsTo m f k).length ≤ k := by unfold lbsTo; rw [List.length_map, List.length_take]; omega
/-- All names of the first labels are in l. -/
def InTo (m : Mc) (l : List ByteArray) (k : Nat) : Prop := ∀ i, i < k → 0 < m.lb.getD i 0 → nmAt m (m.lb.getD i 0) ∈ l
theorem inTo_all {m : Mc} {l : List ByteArray} : AllIn m l ↔ InTo m l m.lb.length := by
  constructor
  · intro h i hi h0
    exact h _ (mem_usedL.2 ⟨i, hi, h0, rfl⟩)
  · intro h x hx
    obtain ⟨i, hi, h0, rfl⟩ := mem_usedL.1 hx
    exact h i hi h0
theorem lbsTo_len' (m : Mc) (f : Int → Int) {k : Nat} (h : k ≤ m.lb.length) : (lbsTo m f k).length = k := by unfold lbsTo; rw [List.length_map, List.length_take]; omega
def LabL (W : World) (bk : Nat) (C : Array Value) (m : Mc) (v1 u : Value) (f : Int → Int) (n : Nat) (P : Nat → Prop) (i : Value) (wr : World) : Prop :=
  ∃ (k : Nat) (v2 : Value), k ≤ n ∧ i = .int .i64 k ∧ Lb W wr bk W.heap.size (ofC C) m.wd v1 v2 u (lbsTo m f k) ∧ P k

set_option maxRecDepth 100000 in
set_option maxHeartbeats 8000000 in
theorem refNames_any {C : Array Value} {m : Mc} {v : Value} {l : List ByteArray} {X : Nat → Prop} (w : World) (hm : Rx X w C m) (hl : RxT X w v l) (hX : ∀ k, X k → k < w.heap.size) :
    Calls Try.prog 14 #[.agg C, v] w fun e w' => ∃ D, e = .returned (.tuple #[.agg D, .int .i64 (namesE m l)]) ∧ Rx X w' D (namesM m l) ∧ Below w.heap.size w w' := by
  have hx := (Bx.new hm.is).alloc (.cells Try.zeroCells27 27)
  have hz : Ar ((w.alloc (.cells C 27)).alloc (.cells Try.zeroCells27 27)) (w.heap.size + 1) Try.zeroCells27 27 := by
    have := Ar.new (w.alloc (.cells C 27)) Try.zeroCells27 27
    rw [World.size_alloc] at this; exact this
  have hb0 : Below w.heap.size w ((w.alloc (.cells C 27)).alloc (.cells Try.zeroCells27 27)) := ((Below.refl _ _).alloc (Nat.le_refl _) _).alloc (by simp) _
  have hs0 : ((w.alloc (.cells C 27)).alloc (.cells Try.zeroCells27 27)).heap.size = w.heap.size + 2 := by simp
  obtain ⟨a1, a2, a3, c1, c2, c3, k1, k2, k3⟩ := hm.is.slices
  have HK := Lib.hid (show C[257]? = some (.slice a1 m.nx.length c1) ∧ C[258]? = some (.slice a2 m.lb.length c2) ∧ C[259]? = some (.slice a3 m.nm.length c3) from ⟨k1, k2, k3⟩)
  obtain ⟨a, cap, rfl, g1, g2, _⟩ := hl.is.open
  obtain ⟨L, hL⟩ : ∃ L, L = l.length := ⟨_, rfl⟩
  have hLi : (L : Int) ≤ 9223372036854775807 := by unfold maxLen at g2; omega
  have HLE := Lib.hid hL
  rw [← hL] at hl ⊢
  have HL := Lib.hid hl; have HM := Lib.hid hm; have HXX := Lib.hid hX
  have HX := Lib.hid hx; have HZ := Lib.hid hz; have HB0 := Lib.hid hb0; have HS0 := Lib.hid hs0
  have HZO := Lib.hid (IsM.one (zero_is w)); have HZS := Lib.hid zc_size
  have HA := Lib.hid hm.is.isA; have HAF := Lib.hid hm.is.oflt
  clear hx hz hb0 hs0 k1 k2 k3 g1 g2 hL hl hm hX
  go_enter Try.func14, Try.ntmps14
  go_wp2_with (refine wpList_load_dfa rfl (.tmp 2) rfl rfl HX.out ?_)
  refine (refRightD_any _ HX.out.is).mono ?_
  rintro e w1 ⟨hs, hb1⟩
  have HX1 := Lib.hid (HX.out.below hb1); have HZ1 := Lib.hid (HZ.out.below hb1)
  have HB1 := Lib.hid (HB0.out.trans (hb1.mono HB0.out.size))
  have HS1 := Lib.hid (show w.heap.size + 2 ≤ w1.heap.size by have := hb1.size; rw [HS0.out] at this; exact this)
  clear hb1 HX HZ HB0 HS0
  rcases hs.elim with ⟨rfl, hk⟩ | ⟨rfl, hk⟩
  case inr =>
    have HE := Lib.hid (names_no (l := l) hk)
    clear hs hk
    go_wp2_with (refine wpList_store_dfa rfl (.tmp 4) (.tmp 12) rfl rfl rfl HZ1.out HZS.out HZS.out HZO.out ?_; simp only [Act.put])
    refine bodyPost_ret (res_kept rfl rfl rfl (HZ1.out.row _) HZS.out) rfl ⟨_, by rw [HE.out.1]; rfl, by rw [HE.out.2]; exact zero_rx _ _, below_row HB1.out (by omega) _⟩
  have HOK := Lib.hid hk
  clear hs hk
  have HN1 := Lib.hid (refNamesOk_any w1 (HL.out.next HB1.out).is)
  go_wp2_with fail
  refine HN1.out.mono ?_
  rintro e w2 ⟨hs, hd⟩
  have hb2 := hd.below (B := w1.heap.size)
  have HX2 := Lib.hid (HX1.out.below hb2); have HZ2 := Lib.hid (HZ1.out.below hb2)
  have HB2 := Lib.hid (HB1.out.trans (hb2.mono HB1.out.size))
  have HS2 := Lib.hid (show w.heap.size + 2 ≤ w2.heap.size by have := hb2.size; have := HS1.out; omega)
  clear hb2 hd HX1 HZ1 HB1 HS1 HN1
  rcases hs.elim with ⟨rfl, hk⟩ | ⟨rfl, hk⟩
  case inr =>
    have HE := Lib.hid (names_arg HOK.out hk)
    clear hs hk
    go_wp2_with (refine wpList_store_dfa rfl (.tmp 4) (.tmp 16) rfl rfl rfl HZ2.out HZS.out HZS.out HZO.out ?_; simp only [Act.put])
    refine bodyPost_ret (res_kept rfl rfl rfl (HZ2.out.row _) HZS.out) rfl ⟨_, by rw [HE.out.1]; rfl, by rw [HE.out.2]; exact zero_rx _ _, below_row HB2.out (by omega) _⟩
  have HNO := Lib.hid hk
  clear hs hk
  have x0 := HX2.out.wd
  have x1 := (HX2.out.nxv HK.out.1).1
  have HONE := Lib.hid (oneAll (one_of HA.out) (x := .int .i64 m.wd) (v1 := .slice a1 m.nx.length c1) (v2 := nilS) (v3 := .slice a L cap) rfl rfl rfl rfl)
  have HMS := Lib.hid (fun (x v1 v2 v3 : Value) => mkC_size HA.out.size x v1 v2 v3)
  go_wp2_with (first | (refine wpList_load_of rfl (.tmp 17) rfl rfl HX2.out ?_) | (refine wpList_build5 rfl (.tmp 18) (.tmp 20) (.tmp 22) (.tmp 23) rfl HA.out.size rfl rfl rfl rfl ?_) | (refine wpList_store_dfa rfl (.tmp 6) (.tmp 24) rfl rfl rfl (Ar.new _ _ _) HZS.out (HMS.out _ _ _ _) HONE.out ?_; simp only [Act.put]))
  have hA5 := (Ar.new w2 Try.zeroCells27 27).row (mkC (ofC C) (.int .i64 m.wd) (.slice a1 m.nx.length c1) nilS (.slice a L cap))
  have hb5 : Below w2.heap.size w2 ((w2.alloc (.cells Try.zeroCells27 27)).setRow w2.heap.size (mkC (ofC C) (.int .i64 m.wd) (.slice a1 m.nx.length c1) nilS (.slice a L cap))) := below_row ((Below.refl _ _).alloc (Nat.le_refl _) _) (Nat.le_refl _) _
  have hs5 : ((w2.alloc (.cells Try.zeroCells27 27)).setRow w2.heap.size (mkC (ofC C) (.int .i64 m.wd) (.slice a1 m.nx.length c1) nilS (.slice a L cap))).heap.size = w2.heap.size + 1 := by rw [size_row, World.size_alloc]
  have HB5 := Lib.hid (HB2.out.trans (hb5.mono HB2.out.size))
  have HM5 := Lib.hid (HM.out.free HB5.out); have HL5 := Lib.hid (HL.out.free HB5.out)
  have HAX := Lib.hid (HX2.out.ar.below hb5); have HAZ := Lib.hid (HZ2.out.below hb5)
  have HLB0 := Lib.hid (Lb.first hA5)
  have HS5 := Lib.hid hs5
  have HIX := Lib.hid (show ∀ k, X k → k < w.heap.size from HXX.out)
  obtain ⟨n, hn⟩ : ∃ n, n = m.lb.length := ⟨_, rfl⟩
  obtain ⟨n3, hn3⟩ : ∃ n, n = m.nm.length := ⟨_, rfl⟩
  have HN := Lib.hid (show n = m.lb.length ∧ n3 = m.nm.length from ⟨hn, hn3⟩)
  have hni : (n : Int) ≤ 65536 := by have := HOK.out.lbs.2.1; omega
  have hni3 : (n3 : Int) ≤ 64 := by have := HOK.out.nms.1; omega
  rw [← hn, ← hn3] at HK
  obtain ⟨bk, hbk⟩ : ∃ b, b = w2.heap.size := ⟨_, rfl⟩
  have HBK := Lib.hid (show w.heap.size + 2 ≤ bk by rw [hbk]; exact HS2.out)
  clear hA5 hb5 hs5 HX2 HZ2 HB2 HS2 x0 x1 hn hn3
  rw [← hbk] at HLB0 HS5 HB5 HM5 HL5 HAX HAZ ⊢
  clear hbk
  generalize ((w2.alloc (.cells Try.zeroCells27 27)).setRow bk (mkC (ofC C) (.int .i64 m.wd) (.slice a1 m.nx.length c1) nilS (.slice a L cap))) = W5 at *
  go_loopw [7] (LabL W5 bk C m (.slice a1 m.nx.length c1) (.slice a L cap) (nameF m l) n (InTo m l)) (fun i _ => n - (intOf i).toNat)
  case atStart => exact ⟨0, nilS, Nat.zero_le _, rfl, HLB0.out, fun i hi => absurd hi (Nat.not_lt_zero _)⟩
  case round =>
    obtain ⟨k, v2, hk, rfl, hlb, hin⟩ := hrel
    have hbx := hlb.bx (Nat.le_refl _) (.inr (by have := HBK.out; omega)) HAX.out (by have := HBK.out; omega) HM5.out
    have htx := hlb.ts (Nat.le_refl _) (.inr (by have := HBK.out; omega)) HL5.out
    have y2 := hbx.lbv HK.out.2.1
    have y3 := hbx.nmv HK.out.2.2
    have d2 := y2.1; have d3 := y3.1
    have hat := hlb.at HA.out.size
    have hln := lbsTo_len' m (nameF m l) (show k ≤ m.lb.length by rw [← HN.out.1]; exact hk)
    obtain ⟨av, cv, rfl, hv1, hv2⟩ := hlb.o2.len
    rw [hln] at hat hv1 hlb
    have HLB := Lib.hid hlb; have HIN := Lib.hid hin; have HBX := Lib.hid hbx; have HTX := Lib.hid htx; have HLL := Lib.hid hln
    have HAZ2 := Lib.hid (show Ar wr (w.heap.size + 1) Try.zeroCells27 27 from (hlb.fr (w.heap.size + 1) (by have := HBK.out; have := HS5.out; omega) (by have := HBK.out; omega)).trans HAZ.out)
    by_cases hlt : k < n
    · obtain ⟨b2, o2, rfl, hb2, hc2⟩ := y2.2.cell (i := k) (by rw [← HN.out.1]; exact hlt)
      have HLT := Lib.hid hlt
      by_cases hx0 : 0 < m.lb.getD k 0
      · have hnm := HOK.out.nmAt (by rw [← HN.out.1]; exact hlt) hx0
        obtain ⟨t, ht⟩ : ∃ t : Nat, m.lb.getD k 0 = (t : Int) + 1 := ⟨(m.lb.getD k 0).toNat - 1, by omega⟩
        have htn : (m.lb.getD k 0).toNat - 1 = t := by omega
        rw [htn] at hnm
        have HNM := Lib.hid (show nmAt m (m.lb.getD k 0) = m.nm.getD t ByteArray.empty by unfold nmAt; rw [htn])
        have HX0 := Lib.hid hx0
        obtain ⟨b3, o3, rfl, hb3, hc3⟩ := y3.2.cell (i := t) hnm
        rw [ht] at hc2
        rw [← HN.out.2] at hnm
        obtain ⟨x, hx⟩ : ∃ x, x = m.nm.getD t ByteArray.empty := ⟨_, rfl⟩
        rw [← hx] at hc3
        have HX3 := Lib.hid hx
        have t0 : decide (0 < (t : Int) + 1) = true := by simp <;> omega
        have hw2 : IntKind.i64.wrap (t : Int) = t := by rw [IntKind.wrap_i64]; omega
        have hw1 : wrap64 ((t : Int) + 1 - 1) = t := by unfold wrap64; omega
        have e1 : wr.drew.cell? ⟨bk, 258, none⟩ = some (.slice av k cv) := hat
        have e2 : wr.drew.cell? ⟨w.heap.size, 258, none⟩ = some (.slice (some ⟨b2, o2, none⟩) n c2) := d2
        have e3 : wr.drew.cell? ⟨w.heap.size, 259, none⟩ = some (.slice (some ⟨b3, o3, none⟩) n3 c3) := d3
        have e4 : wr.drew.cell? ⟨b2, o2 + k, none⟩ = some (.int .i64 ((t : Int) + 1)) := hc2
        have e5 : wr.drew.cell? ⟨b3, o3 + t, none⟩ = some (.string x) := hc3
        have HLB := Lib.hid (HLB.out.below (Below.refl _ _).drew)
        have HPL := Lib.hid (place_any x wr.drew (HTX.out.below (Below.refl _ _).drew))
        have HAZ3 := Lib.hid (show Ar wr.drew (w.heap.size + 1) Try.zeroCells27 27 from HAZ2.out)
        clear hlb hin hbx htx y2 y3 hx hx0 ht htn hb2 hb3 hv1 hv2 hln
        go_wp2_with fail
        go_still_tail 11, (by kernel_rfl)
        change wpList _ _ _ _ _ wr.drew
        generalize wr.drew = wd at *
        clear d2 d3 hat hc2 hc3 HAZ2 HBX HTX
        go_wp2_with fail
        refine HPL.out.mono ?_
        rintro e w6 ⟨rfl, rfl⟩
        by_cases hmem : x ∈ l
        · have hpl := atT_mem.1 hmem
          rw [placeT_in hmem]
          have HF := Lib.hid (show nameF m l (m.lb.getD k 0) = ((atT l x : Nat) : Int) + 1 by unfold nameF; rw [if_pos HX0.out, HNM.out, ← HX3.out])
          have HME := Lib.hid (show nmAt m (m.lb.getD k 0) ∈ l by rw [HNM.out, ← HX3.out]; exact hmem)
          obtain ⟨p, hp⟩ : ∃ p, p = atT l x := ⟨_, rfl⟩
          rw [← HLE.out] at hpl
          rw [← hp] at hpl HF ⊢
          have hw3 : wrap64 ((p : Int) + 1) = (p : Int) + 1 := by unfold wrap64; omega
          have t1 : (((p : Int) + 1) == 0) = false := by simp <;> omega
          clear hmem hp
          have HLB2 := Lib.hid (HLB.out.below ((Below.refl _ wd).alloc (Nat.le_refl _) (.cells #[.int .i64 ((p : Int) + 1)] 3)))
          have HO2 := Lib.hid HLB2.out.o2
          have hbase : W5.heap.size ≤ wd.heap.size + 1 := Nat.le_trans HLB.out.base (Nat.le_succ _)
          have HBS := Lib.hid hbase
          clear hbase
          go_wp2_with (at_builtin; refine wpList_append_int_g rfl (.tmp 55) (.tmp 57) rfl rfl HO2.out (by simp only [World.size_alloc]; exact HBS.out) ⟨wd.heap.size, 0, none⟩ 1 ((p : Int) + 1) rfl (by rw [World.cell?_alloc_new]; rfl) rfl (by rw [HLL.out]; omega) ?_; intro v' w5 hO5 hg5; have HO5 := Lib.hid hO5; have HG5 := Lib.hid hg5; obtain ⟨⟨yx, hyx⟩, hfx⟩ := HLB2.out.grown2 HA.out.size hg5; obtain ⟨a5, c5, hv5, _, _⟩ := hO5.len; rw [List.length_append, HLL.out] at hv5; subst hv5; clear hO5 hg5)
          refine ⟨⟨k + 1, .slice a5 (k + 1) c5, HLT.out, by go_num, ?_, ?_⟩, by have := HLT.out; simp [intOf]; omega⟩
          · rw [lbsTo_succ m _ (show k < m.lb.length by rw [← HN.out.1]; exact HLT.out), HF.out]
            exact HLB2.out.lab HA.out.size HO5.out HG5.out
          · intro i hi h0
            by_cases e : i = k
            · subst e; exact HME.out
            · exact HIN.out i (by omega) h0
        · have HE := Lib.hid (names_none HOK.out HNO.out fun ha => hmem (by
            have := inTo_all.1 ha k (by rw [← HN.out.1]; exact HLT.out) HX0.out
            rw [HNM.out, ← HX3.out] at this; exact this))
          have HBW := Lib.hid (HB5.out.trans (HLB.out.blow (n := w.heap.size) (by have := HBK.out; omega)))
          rw [placeT_out hmem]
          clear hmem
          go_wp2_with (refine wpList_store_dfa rfl (.tmp 4) (.tmp 53) rfl rfl rfl HAZ3.out HZS.out HZS.out HZO.out ?_; simp only [Act.put])
          refine bodyPost_ret (res_kept rfl rfl rfl (HAZ3.out.row _) HZS.out) rfl ⟨_, by rw [HE.out.1]; rfl, by rw [HE.out.2]; exact zero_rx _ _, below_row HBW.out (by omega) _⟩
      · have HF := Lib.hid (show nameF m l (m.lb.getD k 0) = 0 from if_neg hx0)
        have HX0 := Lib.hid hx0
        obtain ⟨x, hx⟩ : ∃ x, x = m.lb.getD k 0 := ⟨_, rfl⟩
        rw [← hx] at hc2 hx0
        have t0 : decide (0 < x) = false := by simpa using hx0
        clear hlb hin hbx htx y2 y3 hx hx0 hb2 hv1 hv2 hln
        have HLB2 := Lib.hid (HLB.out.below ((Below.refl _ wr).alloc (Nat.le_refl _) (.cells #[.int .i64 0] 3)))
        have HO2 := Lib.hid HLB2.out.o2
        have hbase : W5.heap.size ≤ wr.heap.size + 1 := Nat.le_trans HLB.out.base (Nat.le_succ _)
        have HBS := Lib.hid hbase
        clear hbase
        go_wp2_with (at_builtin; refine wpList_append_int_g rfl (.tmp 55) (.tmp 57) rfl rfl HO2.out (by simp only [World.size_alloc]; exact HBS.out) ⟨wr.heap.size, 0, none⟩ 1 0 rfl (by rw [World.cell?_alloc_new]; rfl) rfl (by rw [HLL.out]; omega) ?_; intro v' w5 hO5 hg5; have HO5 := Lib.hid hO5; have HG5 := Lib.hid hg5; obtain ⟨⟨yx, hyx⟩, hfx⟩ := HLB2.out.grown2 HA.out.size hg5; obtain ⟨a5, c5, hv5, _, _⟩ := hO5.len; rw [List.length_append, HLL.out] at hv5; subst hv5; clear hO5 hg5)
        refine ⟨⟨k + 1, .slice a5 (k + 1) c5, HLT.out, by go_num, ?_, ?_⟩, by have := HLT.out; simp [intOf]; omega⟩
        · rw [lbsTo_succ m _ (show k < m.lb.length by rw [← HN.out.1]; exact HLT.out), HF.out]
          exact HLB2.out.lab HA.out.size HO5.out HG5.out
        · intro i hi h0
          by_cases e : i = k
          · subst e; exact absurd h0 HX0.out
          · exact HIN.out i (by omega) h0
    · have hkn : k = n := by omega
      have hlb2 : Lb W5 wr bk W5.heap.size (ofC C) m.wd (.slice a1 m.nx.length c1) (.slice av k cv) (.slice a L cap) (m.lb.map (nameF m l)) := by
        rw [← lbsTo_all, ← HN.out.1, ← hkn]; exact hlb
      have HE := Lib.hid (names_yes HOK.out HNO.out (inTo_all.2 (by rw [← HN.out.1, ← hkn]; exact hin)))
      have HLF := Lib.hid hlb2
      have HRX := Lib.hid (Lb.rx (X := fun k => X k ∨ k = w.heap.size + 1) hlb2 HA.out HAF.out HM5.out HK.out.1 HL5.out (Nat.le_refl _) (fun k hk => hk.elim .inl fun e => .inr (by omega)) (.inr (by have := HBK.out; omega)) (fun k hk => hk.elim (fun h => by have := HIX.out k h; have := HS5.out; have := HBK.out; omega) fun e => by have := HS5.out; have := HBK.out; omega))
      have HBW := Lib.hid (HB5.out.trans (hlb2.blow (n := w.heap.size) (by have := HBK.out; omega)))
      have HON := Lib.hid (oneAll (one_of HA.out) (x := .int .i64 m.wd) (v1 := .slice a1 m.nx.length c1) (v2 := .slice av k cv) (v3 := .slice a L cap) rfl rfl rfl rfl)
      clear hkn hlb hlb2 hin hbx htx y2 y3 hv1 hv2 hln
      go_wp2_with (first | (refine wpList_load_box rfl 27 (.tmp 6) rfl rfl HLF.out.box Try.underlying27 rfl (by rw [HMS.out]; exact infoD) ?_) | (refine wpList_store_dfa rfl (.tmp 4) (.tmp 60) rfl rfl rfl HAZ2.out HZS.out (HMS.out _ _ _ _) HON.out ?_; simp only [Act.put]))
      refine bodyPost_ret (res_kept rfl rfl rfl (HAZ2.out.row _) (HMS.out _ _ _ _)) rfl ⟨_, by rw [HE.out.1]; rfl, by rw [HE.out.2]; exact (HRX.out.row (.inr rfl) _).mono fun k hk => .inl hk, below_row HBW.out (by omega) _⟩
end Go.Proofs.Ytlfmkiendaecaaa.DfaW
