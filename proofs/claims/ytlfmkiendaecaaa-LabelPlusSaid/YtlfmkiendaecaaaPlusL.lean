/- Walk of Plus: a machine that tells nothing of the empty word. -/
import Derived.Test.YtlfmkiendaecaaaPlusOwn
import Derived.Test.YtlfmkiendaecaaaNamesL
namespace Go.Proofs.Ytlfmkiendaecaaa.DfaW
set_option linter.unusedVariables false
set_option linter.unusedSimpArgs false
open Go.Proofs.Ytlfmkiendaecaaa.RegionU (Up wpW_taken wpW_takenY wpW_one wpW_two wpW_done1 wpW_done2 wpW_done3 wpW_have wp_region_W)
open Go.RowKit Go.Maps Go.Proofs.Ytlfmkiendaecaaa.PartM Go.Proofs.Ytlfmkiendaecaaa.PartW Go.Proofs.Ytlfmkiendaecaaa.TxM
theorem plus1_any (y : Int) (W : World) : Calls Try.prog 40 (#[.int .i64 y] ++ #[]) W fun e w' => e = .returned (.int .i64 y) ∧ W = w' := by
  simp only [Array.append_empty]
  go_enter Try.func40, Try.ntmps40
  go_wp2_with fail
  go_ret
  exact ⟨rfl, rfl⟩
theorem PS.first {w0 w : World} {B : Nat} {v1 v2 u : Value} {Ms : List (List Int)} {ls : List Int} {l : List ByteArray} (h : Own w B v1 v2 u Ms ls l) (hb : Below B w0 w) (hB : B ≤ w.heap.size) (Z A : Array Value) (x : Int) :
    ∃ vs, PS w0 ((w.alloc (.cells Z 27)).setRow w.heap.size (mkC A (.int .i64 x) v1 v2 u)) w.heap.size B A x v1 v2 u vs Ms ls l := by
  obtain ⟨vs, h1, h2, h3⟩ := h.o1
  have kp : ∀ {b n : Nat} {e : TypeId} {v : Value} {xs : List Value}, w.ownsRow b e 1 v n xs → ((w.alloc (.cells Z 27)).setRow w.heap.size (mkC A (.int .i64 x) v1 v2 u)).ownsRow b e 1 v n xs := fun ho => own_keep ho fun q hq => (heap_row _ _ _ (by have := (own_at ho hq).2.2; omega)).trans (Below.heap_alloc _ _ q (own_at ho hq).2.2)
  refine ⟨vs, below_row (hb.alloc hB _) hB _, ?_, hB, (Ar.new _ _ _).row _, kp h1, fun i hi => ?_, h3, kp h.o2, kp h.o3⟩
  · rw [size_row, World.size_alloc]; omega
  · obtain ⟨vi, k1, k2, k3⟩ := h2 i hi
    exact ⟨vi, k1, kp k2, k3⟩
def PO (w0 : World) (bk B : Nat) (A : Array Value) (x : Int) (v1 v2 u : Value) (vs : List Value) (M : List (List Int)) (ls : List Int) (l : List ByteArray) (n : Nat) (i : Value) (wr : World) : Prop :=
  ∃ k : Nat, k ≤ n ∧ i = .int .i64 k ∧ PS w0 wr bk B A x v1 v2 u vs (ups M k 0) ls l
def PI (w0 : World) (bk B : Nat) (A : Array Value) (x : Int) (v1 v2 u : Value) (vs : List Value) (M : List (List Int)) (ls : List Int) (l : List ByteArray) (k n : Nat) (i : Value) (wr : World) : Prop :=
  ∃ c : Nat, c ≤ n ∧ i = .int .i64 c ∧ PS w0 wr bk B A x v1 v2 u vs (ups M k c) ls l
set_option maxRecDepth 100000 in
set_option maxHeartbeats 8000000 in
theorem labPlus_any : PlusC 20 := fun {C m X} w hm hX => by
  have hx := (Bx.new hm.is).alloc (.cells Try.zeroCells27 27)
  have hz : Ar ((w.alloc (.cells C 27)).alloc (.cells Try.zeroCells27 27)) (w.heap.size + 1) Try.zeroCells27 27 := by
    have := Ar.new (w.alloc (.cells C 27)) Try.zeroCells27 27
    rw [World.size_alloc] at this; exact this
  have hb0 : Below w.heap.size w ((w.alloc (.cells C 27)).alloc (.cells Try.zeroCells27 27)) := ((Below.refl _ _).alloc (Nat.le_refl _) _).alloc (by simp) _
  have hs0 : ((w.alloc (.cells C 27)).alloc (.cells Try.zeroCells27 27)).heap.size = w.heap.size + 2 := by simp
  obtain ⟨a1, a2, a3, c1, c2, c3, k1, k2, k3⟩ := hm.is.slices
  have HK := Lib.hid (show C[258]? = some (.slice a2 m.lb.length c2) ∧ C[259]? = some (.slice a3 m.nm.length c3) from ⟨k2, k3⟩)
  have HSZ := Lib.hid (show Szs m.nm from by obtain ⟨v, _, h⟩ := hm.is.nm; exact h.szs)
  have HA := Lib.hid hm.is.isA; have HAF := Lib.hid hm.is.oflt
  have HZO := Lib.hid (IsM.one (zero_is w)); have HZS := Lib.hid zc_size
  have HXX := Lib.hid hX
  have HX := Lib.hid hx; have HZ := Lib.hid hz; have HB0 := Lib.hid hb0; have HS0 := Lib.hid hs0
  clear hm hX hx hz hb0 hs0 k1 k2 k3
  go_enter Try.func20, Try.ntmps20
  go_wp2_with (refine wpList_load_dfa rfl (.tmp 1) rfl rfl HX.out ?_)
  refine (RightD_any _ HX.out.is).mono ?_
  rintro e w1 ⟨hs, hb1⟩
  have HX1 := Lib.hid (HX.out.below hb1); have HZ1 := Lib.hid (HZ.out.below hb1)
  have HB1 := Lib.hid (HB0.out.trans (hb1.mono HB0.out.size))
  have HS1 := Lib.hid (show w.heap.size + 2 ≤ w1.heap.size by have := hb1.size; rw [HS0.out] at this; exact this)
  clear hb1 HX HZ HB0 HS0
  rcases hs.elim with ⟨rfl, hk⟩ | ⟨rfl, hk⟩
  case inr =>
    have HE := Lib.hid (plus_no hk)
    clear hs hk
    go_wp2_with (refine wpList_store_dfa rfl (.tmp 2) (.tmp 11) rfl rfl rfl HZ1.out HZS.out HZS.out HZO.out ?_; simp only [Act.put])
    refine bodyPost_ret (res_kept rfl rfl rfl (HZ1.out.row _) HZS.out) rfl ⟨_, by rw [HE.out.1]; rfl, by rw [HE.out.2]; exact zero_rx _ _, below_row HB1.out (by omega) _⟩
  have HOK := Lib.hid hk
  clear hs hk
  obtain ⟨y2, hI⟩ := HX1.out.lbv HK.out.1
  obtain ⟨y3, hT⟩ := HX1.out.nmv HK.out.2
  obtain ⟨b2, o2, rfl, hb2, hc2⟩ := hI.cell (i := 0) HOK.out.zero
  rw [Nat.add_zero] at hc2
  obtain ⟨n, hn⟩ : ∃ n, n = m.lb.length := ⟨_, rfl⟩
  obtain ⟨n3, hn3⟩ : ∃ n, n = m.nm.length := ⟨_, rfl⟩
  have HN := Lib.hid (show n = m.lb.length ∧ m.nx.length = n from ⟨hn, by rw [HOK.out.len, hn]⟩)
  have hni : (n : Int) ≤ 65536 := by have := HOK.out.lbs.2.1; omega
  have HN65 := Lib.hid (show n ≤ 65536 by omega)
  have hn0 : 0 < n := by have := HOK.out.zero; omega
  have HN0 := Lib.hid hn0
  rw [← hn] at y2
  rw [← hn3] at y3 hT
  obtain ⟨x, hx⟩ : ∃ x, x = m.lb.getD 0 0 := ⟨_, rfl⟩
  rw [← hx] at hc2
  have HXL := Lib.hid hx
  have HCH := Lib.hid (changed_any (g := 40) (lb := #[]) (f := fun y => y) w1 HX1.out.is HOK.out hT HOK.out.nms.1 (enters_of Try.func40 (by kernel_rfl) rfl) (fun W _ y _ => plus1_any y W))
  clear hI hT hb2 hn hn3 hx
  by_cases hx0 : x = 0
  · have t0 : (x != 0) = false := by rw [hx0]; rfl
    have HE := Lib.hid (plus_same HOK.out (by rw [← HXL.out]; exact hx0))
    have HX0 := Lib.hid hx0
    clear hx0
    go_wp2_with (refine wpList_load_dfa rfl (.tmp 1) rfl rfl HX1.out ?_)
    clear y2 y3 hc2
    refine HCH.out.mono ?_
    rintro e w5 ⟨v1, v2, u, rfl, hown, hb5⟩
    rw [List.map_id'] at hown
    obtain ⟨vs, hps⟩ := PS.first hown hb5 hb5.size Try.zeroCells27 (ofC C) m.wd
    have his := hown.is HA.out HAF.out HSZ.out m.wd
    have HDS := Lib.hid his.size; have HDO := Lib.hid his.one
    obtain ⟨a7, c7, hv2, _, _⟩ := hown.o2.len
    rw [← HN.out.1] at hv2
    subst hv2
    have hz5 : Ar ((w5.alloc (.cells Try.zeroCells27 27)).setRow w5.heap.size (mkC (ofC C) (.int .i64 m.wd) v1 (.slice a7 n c7) u)) (w.heap.size + 1) Try.zeroCells27 27 := (hps.below.block _ (by have := HS1.out; omega)).trans HZ1.out
    have HZ5 := Lib.hid hz5
    have hbm : Bx ((w5.alloc (.cells Try.zeroCells27 27)).setRow w5.heap.size (mkC (ofC C) (.int .i64 m.wd) v1 (.slice a7 n c7) u)) w5.heap.size (mkC (ofC C) (.int .i64 m.wd) v1 (.slice a7 n c7) u) _ := ⟨hps.box, hps.own.is HA.out HAF.out HSZ.out m.wd⟩
    have HBM := Lib.hid hbm
    have d8 := (Ar.at' hps.box 258).trans (mkC_hi HA.out.size _ _ _ _ 2)
    have d8' : ((w5.alloc (.cells Try.zeroCells27 27)).setRow w5.heap.size (mkC (ofC C) (.int .i64 m.wd) v1 (.slice a7 n c7) u)).cell? ⟨w5.heap.size, 258, none⟩ = some (.slice a7 n c7) := d8
    obtain ⟨b7, o7, rfl, hb7, hc8⟩ := hps.o2.is.cell (i := 0) HOK.out.zero
    rw [Nat.add_zero, ← HXL.out] at hc8
    have HPS := Lib.hid hps
    clear hown hb5 hps his hz5 hbm d8 hb7 HCH
    have hc8' : ((w5.alloc (.cells Try.zeroCells27 27)).setRow w5.heap.size (mkC (ofC C) (.int .i64 m.wd) v1 (.slice (some ⟨b7, o7, none⟩) n c7) u)).cell? ⟨b7, o7, none⟩ = some (.int .i64 0) := by rw [← HX0.out]; exact hc8
    clear hc8
    go_wp2_with (first | (refine wpList_store_dfa rfl (.tmp 4) (.tmp 27) rfl rfl rfl (Ar.new _ _ _) HZS.out HDS.out HDO.out ?_; simp only [Act.put]) | (refine wpList_load_dfa rfl (.tmp 4) rfl rfl HBM.out ?_) | (refine wpList_store_dfa rfl (.tmp 2) (.tmp 33) rfl rfl rfl HZ5.out HZS.out HDS.out HDO.out ?_; simp only [Act.put]))
    have hrx := HPS.out.own.rx (X := fun k => X k ∨ k = w.heap.size + 1) HA.out HAF.out HSZ.out (fun k hk => by
      have := HS1.out
      rcases hk with hk | hk
      · have := HXX.out k hk; omega
      · omega) m.wd
    refine bodyPost_ret (res_kept rfl rfl rfl (HZ5.out.row _) HDS.out) rfl ⟨_, by rw [HE.out.1]; rfl, ?_, below_row (HB1.out.trans (HPS.out.below.mono HB1.out.size)) (by omega) _⟩
    rw [HE.out.2]
    exact (hrx.row (.inr rfl) _).mono fun k hk => .inl hk
  have t0 : (x != 0) = true := by simp; exact hx0
  have HX0 := Lib.hid (show ¬ m.lb.getD 0 0 = 0 by rw [← HXL.out]; exact hx0)
  have HX1' := Lib.hid hx0
  clear hx0
  by_cases hbig : n = 65536
  · have t1 : ((n : Int) == 65536) = true := by rw [hbig]; rfl
    have HE := Lib.hid (plus_big HOK.out HX0.out (by rw [← HN.out.1]; exact hbig))
    clear hbig
    go_wp2_with (refine wpList_store_dfa rfl (.tmp 2) (.tmp 23) rfl rfl rfl HZ1.out HZS.out HZS.out HZO.out ?_; simp only [Act.put])
    refine bodyPost_ret (res_kept rfl rfl rfl (HZ1.out.row _) HZS.out) rfl ⟨_, by rw [HE.out.1]; rfl, by rw [HE.out.2]; exact zero_rx _ _, below_row HB1.out (by omega) _⟩
  have t1 : ((n : Int) == 65536) = false := by simp <;> omega
  have HE := Lib.hid (plus_yes HOK.out HX0.out (by rw [← HN.out.1]; exact hbig))
  clear hbig
  go_wp2_with (refine wpList_load_dfa rfl (.tmp 1) rfl rfl HX1.out ?_)
  clear y2 y3 hc2
  refine HCH.out.mono ?_
  rintro e w5 ⟨v1, v2, u, rfl, hown, hb5⟩
  rw [List.map_id'] at hown
  obtain ⟨vs, hps⟩ := PS.first hown hb5 hb5.size Try.zeroCells27 (ofC C) m.wd
  have his := hown.is HA.out HAF.out HSZ.out m.wd
  have HDS := Lib.hid his.size; have HDO := Lib.hid his.one
  obtain ⟨a7, c7, hv2, _, _⟩ := hown.o2.len
  rw [← HN.out.1] at hv2
  subst hv2
  have hz5 : Ar ((w5.alloc (.cells Try.zeroCells27 27)).setRow w5.heap.size (mkC (ofC C) (.int .i64 m.wd) v1 (.slice a7 n c7) u)) (w.heap.size + 1) Try.zeroCells27 27 := (hps.below.block _ (by have := HS1.out; omega)).trans HZ1.out
  have HZ5 := Lib.hid hz5
  have hbm : Bx ((w5.alloc (.cells Try.zeroCells27 27)).setRow w5.heap.size (mkC (ofC C) (.int .i64 m.wd) v1 (.slice a7 n c7) u)) w5.heap.size (mkC (ofC C) (.int .i64 m.wd) v1 (.slice a7 n c7) u) _ := ⟨hps.box, hps.own.is HA.out HAF.out HSZ.out m.wd⟩
  have HBM := Lib.hid hbm
  have d8 := (Ar.at' hps.box 258).trans (mkC_hi HA.out.size _ _ _ _ 2)
  have d8' : ((w5.alloc (.cells Try.zeroCells27 27)).setRow w5.heap.size (mkC (ofC C) (.int .i64 m.wd) v1 (.slice a7 n c7) u)).cell? ⟨w5.heap.size, 258, none⟩ = some (.slice a7 n c7) := d8
  obtain ⟨b7, o7, rfl, hb7, hc8⟩ := hps.o2.is.cell (i := 0) HOK.out.zero
  rw [Nat.add_zero, ← HXL.out] at hc8
  have HPS := Lib.hid hps
  clear hown hb5 hps his hz5 hbm d8 hb7 HCH
  have hx1 : (x == 0) = false := by simp; exact HX1'.out
  obtain ⟨a6, c6, hv1⟩ := own_form HPS.out.r
  rw [HN.out.2] at hv1
  subst hv1
  have d7 : ((w5.alloc (.cells Try.zeroCells27 27)).setRow w5.heap.size (mkC (ofC C) (.int .i64 m.wd) (.slice a6 n c6) (.slice (some ⟨b7, o7, none⟩) n c7) u)).cell? ⟨w5.heap.size, 257, none⟩ = some (.slice a6 n c6) := (Ar.at' HPS.out.box 257).trans (mkC_hi HA.out.size _ _ _ _ 1)
  go_wp2_with (refine wpList_store_dfa rfl (.tmp 4) (.tmp 27) rfl rfl rfl (Ar.new _ _ _) HZS.out HDS.out HDO.out ?_; simp only [Act.put])
  clear d7 d8' hc8
  have HBMX := Lib.hid (show True from trivial)
  clear HBM HDS HDO HZ5
  obtain ⟨bk, hbk⟩ : ∃ b, b = w5.heap.size := ⟨_, rfl⟩
  rw [← hbk] at HPS ⊢
  generalize ((w5.alloc (.cells Try.zeroCells27 27)).setRow bk (mkC (ofC C) (.int .i64 m.wd) (.slice a6 n c6) (.slice (some ⟨b7, o7, none⟩) n c7) u)) = W5 at *
  obtain ⟨B, hB⟩ : ∃ B, B = w1.heap.size := ⟨_, rfl⟩
  have HBE := Lib.hid hB
  rw [← hB] at HPS
  clear hbk hB
  go_loopw [37] (PO w1 bk B (ofC C) m.wd (.slice a6 n c6) (.slice (some ⟨b7, o7, none⟩) n c7) u vs m.nx m.lb m.nm n) (fun i _ => n - (intOf i).toNat)
  case atStart => exact ⟨0, Nat.zero_le _, rfl, by rw [ups_start]; exact HPS.out⟩
  case round =>
    obtain ⟨k, hk, rfl, hps⟩ := hrel
    clear HPS
    by_cases hlt : k < n
    · have hkM : k < m.nx.length := by rw [HN.out.2]; exact hlt
      obtain ⟨vk, hvk, hok, _⟩ := hps.e k (by rw [ups_len]; exact hkM)
      rw [ups_at hkM, upc_zero] at hok
      obtain ⟨r, hr⟩ : ∃ r, r = m.nx.getD k [] := ⟨_, rfl⟩
      rw [← hr] at hok
      have hrow := HOK.out.rws.2 k hkM
      rw [← hr] at hrow
      have hrl : (r.length : Int) ≤ 256 := by have := hrow.1; have := HOK.out.wd; have := rk_le (E := byKey m.of) 256; omega
      have hr1 : 0 < r.length := by have h1 := hrow.1; have h2 := HOK.out.cls' (b := 0) (by decide); omega
      obtain ⟨lr, hlr⟩ : ∃ n, n = r.length := ⟨_, rfl⟩
      rcases hok.2 with ⟨_, h0⟩ | ⟨g, cp, cur, rfl, _⟩
      · omega
      obtain ⟨b6, o6, rfl, hb6, hc6⟩ : ∃ b o : Nat, a6 = some ⟨b, o, none⟩ ∧ b < wr.heap.size ∧ wr.cell? ⟨b, o + k, none⟩ = some (.slice (some ⟨g, 0, none⟩) r.length cp) := by
        rcases hps.r.2 with ⟨h1, h0⟩ | ⟨g6, cp6, cur6, h6, hg6, hh6, _⟩
        · rw [ups_len] at h0; omega
        · simp only [Value.slice.injEq] at h6
          obtain ⟨rfl, h7, rfl⟩ := h6
          refine ⟨g6, 0, rfl, (Array.getElem?_eq_some_iff.1 hh6).1, ?_⟩
          have hr' := hps.r
          rw [ups_len, HN.out.2] at hr'
          rw [Nat.zero_add, World.ownsRow.cellAt hr' k (by omega)]
          exact hvk
      rw [← hlr] at hc6
      have HPW := Lib.hid hps; have HRR := Lib.hid (show r = m.nx.getD k [] ∧ lr = r.length from ⟨hr, hlr⟩); have HROW := Lib.hid hrow; have HLT := Lib.hid hlt; have HKM := Lib.hid hkM
      rw [← hlr] at hvk
      have HVK := Lib.hid hvk
      have hlri : (lr : Int) ≤ 256 := by omega
      have hki : (k : Int) ≤ 65536 := by omega
      clear hps hvk hok hr hrow hrl hr1 hlr hb6 hkM
      go_wp2_with fail
      clear hc6
      go_loopw [43] (PI w1 bk B (ofC C) m.wd (.slice (some ⟨b6, o6, none⟩) n c6) (.slice (some ⟨b7, o7, none⟩) n c7) u vs m.nx m.lb m.nm k lr) (fun i _ => lr - (intOf i).toNat)
      case atStart => exact ⟨0, Nat.zero_le _, rfl, HPW.out⟩
      case round =>
        obtain ⟨c, hc, rfl, hps⟩ := hrel
        clear HPW
        by_cases hlc : c < lr
        · have hcr : c < r.length := by rw [← HRR.out.2]; exact hlc
          obtain ⟨vk, q1, q2, _⟩ := hps.e k (by rw [ups_len]; exact HKM.out)
          rw [HVK.out] at q1
          injection q1 with q1
          subst q1
          rw [ups_at HKM.out, ← HRR.out.1] at q2
          have hcell : wr.cell? ⟨g, c, none⟩ = some (.int .i64 (r.getD c 0)) := by
            have hq := q2
            obtain ⟨a', c', e', _⟩ := q2.len
            simp only [Value.slice.injEq] at e'
            have hq' : wr.ownsRow B 3 1 (.slice (some ⟨g, 0, none⟩) lr cp) lr ((upc r c).map (Value.int .i64)) := by
              have := hq
              unfold OI at this
              rw [← e'.2.1] at this
              exact this
            rw [World.ownsRow.cellAt hq' c (by omega), List.getElem?_map]
            have h3 := upc_at hcr
            rw [List.getD_eq_getElem?_getD, List.getElem?_eq_getElem (by rw [upc_len]; exact hcr), Option.getD_some] at h3
            rw [List.getElem?_eq_getElem (by rw [upc_len]; exact hcr), h3]; rfl
          have hfz : wr.frozen? ⟨g, c, none⟩ = false := by
            obtain ⟨⟨cur, h1⟩, _⟩ := own_at (show World.ownsRow _ _ _ _ _ _ _ from q2) (g := g) rfl
            exact Ar.frozen (show Ar wr g cur _ from h1) c
          obtain ⟨y, hy⟩ : ∃ y, y = r.getD c 0 := ⟨_, rfl⟩
          rw [← hy] at hcell
          have hb := HROW.out.2 c hcr
          rw [← hy] at hb
          have hyb : 0 ≤ y ∧ y < 65536 := by have := HN65.out; have := HN.out.1; omega
          have HW := Lib.hid (show wrap64 (y + 1) = y + 1 ∧ IntKind.i64.wrap (y + 1) = y + 1 from ⟨by unfold wrap64; omega, by rw [IntKind.wrap_i64]; omega⟩)
          have HNP := Lib.hid (hps.set (by rw [ups_len]; exact HKM.out) HVK.out c (y + 1))
          have HE2 := Lib.hid (show (ups m.nx k c).set k (((ups m.nx k c).getD k []).set c (y + 1)) = ups m.nx k (c + 1) by
            rw [ups_at HKM.out, ← HRR.out.1, hy, upc_set hcr, HRR.out.1, ups_set HKM.out])
          have HLC := Lib.hid hlc
          clear hps q2 hb hyb hy hcr
          obtain ⟨hw1, hw2⟩ := HW.out
          go_wp2_with fail
          refine ⟨⟨c + 1, HLC.out, by go_num, ?_⟩, by have := HLC.out; simp [intOf]; omega⟩
          rw [← HE2.out]
          exact HNP.out
        · have hcl : c = lr := by omega
          rw [hcl, HRR.out.2, HRR.out.1, ups_row HKM.out] at hps
          have HPS := Lib.hid hps
          clear hps hcl
          go_wp2_with fail
          exact ⟨⟨k + 1, HLT.out, by go_num, HPS.out⟩, by have := HLT.out; simp [intOf]; omega⟩
    · have hkn : k = n := by omega
      rw [hkn, ← HN.out.2, ups_end, HN.out.2] at hps
      have hMl : (m.nx.map upL).length = n := by rw [List.length_map, HN.out.2]
      have hn00 := HN0.out
      obtain ⟨v0, hv0, ho0, hd0⟩ := hps.e 0 (by rw [hMl]; exact hn00)
      obtain ⟨r0, hr0⟩ : ∃ r, r = (m.nx.map upL).getD 0 [] := ⟨_, rfl⟩
      rw [← hr0] at ho0
      have hr0' : r0 = upL (m.nx.getD 0 []) := by rw [hr0]; simp [List.getD, HN.out.2, hn00]
      obtain ⟨a0, c0, e0⟩ := own_form (show World.ownsRow _ _ _ _ _ _ _ from ho0)
      obtain ⟨l0, hl0⟩ : ∃ n, n = r0.length := ⟨_, rfl⟩
      rw [← hl0] at e0
      subst e0
      have hr256 : r0.length ≤ 65536 := by
        rw [hr0', upL_len]
        have h1 := (HOK.out.rws.2 0 (by rw [HN.out.2]; exact hn00)).1
        have := HOK.out.wd; have := rk_le (E := byKey m.of) 256; omega
      obtain ⟨b6, o6, rfl, hb6, hc6⟩ : ∃ b o : Nat, a6 = some ⟨b, o, none⟩ ∧ b < wr.heap.size ∧ wr.cell? ⟨b, o, none⟩ = some (.slice a0 l0 c0) := by
        rcases hps.r.2 with ⟨h1, h0⟩ | ⟨g6, cp6, cur6, h6, hg6, hh6, _⟩
        · omega
        · simp only [Value.slice.injEq] at h6
          obtain ⟨rfl, h7, rfl⟩ := h6
          refine ⟨g6, 0, rfl, (Array.getElem?_eq_some_iff.1 hh6).1, ?_⟩
          have hr' := hps.r
          rw [hMl] at hr'
          rw [World.ownsRow.cellAt hr' 0 (by omega)]
          exact hv0
      have HC6 := Lib.hid (show b6 < wr.heap.size ∧ wr.cell? ⟨b6, o6, none⟩ = some (.slice a0 l0 c0) from ⟨hb6, hc6⟩)
      have HPW := Lib.hid hps; have HML := Lib.hid hMl; have HR0 := Lib.hid (show r0 = upL (m.nx.getD 0 []) ∧ r0.length ≤ 65536 ∧ l0 = r0.length from ⟨hr0', hr256, hl0⟩)
      have HO0 := Lib.hid ho0
      have hn0i : (0 : Int) < (n : Int) := by omega
      clear hps hkn hMl hn00 hv0 ho0 hd0 hr0 hr0' hl0 hr256 hb6 hc6
      go_wp2_with fail
      have HD := Lib.hid (show KB wr wr.drew from (Below.refl _ _).drew)
      refine wp_region_W (fun i => decide (i < 8)) 8 3 (by kernel_rfl) (by kernel_rfl) (KB.up wr) HD.out ?_
      refine wpW_taken (i := 0) rfl (by kernel_rfl) (by kernel_rfl) (by kernel_rfl) (by kernel_rfl) (KB.up wr) ?_
      apply Exists.intro
      refine ⟨Or.inl ⟨rfl, fun W hW => ?hy⟩, ?_⟩
      case hy =>
        go_simp
        exact RegionU.does_value rfl
      simp only [Act.put, List.setIfInBounds_toArray, List.set]
      refine wpW_taken (i := 1) rfl (by kernel_rfl) (by kernel_rfl) (by kernel_rfl) (by kernel_rfl) (KB.up wr) ?_
      apply Exists.intro
      refine ⟨Or.inl ⟨rfl, fun W hW => ?hy⟩, ?_⟩
      case hy =>
        have d := (Below.cell (p := ⟨bk, 257, none⟩) hW HPW.out.box.lt).trans ((Ar.at' HPW.out.box 257).trans (mkC_hi HA.out.size _ _ _ _ 1))
        go_simp
        exact RegionU.does_value rfl
      simp only [Act.put, List.setIfInBounds_toArray, List.set]
      refine wpW_taken (i := 2) rfl (by kernel_rfl) (by kernel_rfl) (by kernel_rfl) (by kernel_rfl) (KB.up wr) ?_
      apply Exists.intro
      refine ⟨Or.inl ⟨rfl, fun W hW => ?hy⟩, ?_⟩
      case hy =>
        go_simp
        exact RegionU.does_value rfl
      simp only [Act.put, List.setIfInBounds_toArray, List.set]
      refine wpW_taken (i := 3) rfl (by kernel_rfl) (by kernel_rfl) (by kernel_rfl) (by kernel_rfl) (KB.up wr) ?_
      apply Exists.intro
      refine ⟨Or.inl ⟨rfl, fun W hW => ?hy⟩, ?_⟩
      case hy =>
        have d := (Below.cell (p := ⟨bk, 257, none⟩) hW HPW.out.box.lt).trans ((Ar.at' HPW.out.box 257).trans (mkC_hi HA.out.size _ _ _ _ 1))
        go_simp
        exact RegionU.does_value rfl
      simp only [Act.put, List.setIfInBounds_toArray, List.set]
      refine wpW_taken (i := 4) rfl (by kernel_rfl) (by kernel_rfl) (by kernel_rfl) (by kernel_rfl) (KB.up wr) ?_
      apply Exists.intro
      refine ⟨Or.inl ⟨rfl, fun W hW => ?hy⟩, ?_⟩
      case hy =>
        go_simp
        exact RegionU.does_value rfl
      simp only [Act.put, List.setIfInBounds_toArray, List.set]
      refine wpW_taken (i := 5) rfl (by kernel_rfl) (by kernel_rfl) (by kernel_rfl) (by kernel_rfl) (KB.up wr) ?_
      apply Exists.intro
      refine ⟨Or.inl ⟨rfl, fun W hW => ?hy⟩, ?_⟩
      case hy =>
        have d := (Below.cell (p := ⟨b6, o6, none⟩) hW HC6.out.1).trans HC6.out.2
        go_simp
        exact RegionU.does_value rfl
      simp only [Act.put, List.setIfInBounds_toArray, List.set]
      refine wpW_one (i := 6) (by kernel_rfl) (by kernel_rfl) rfl rfl (IT wr.heap.size r0) (IT.up _ _) (fun W hW => ?hy) ?_
      case hy =>
        go_simp
        exact does_in ((cloneI_any W (HO0.out.is.below hW) HR0.out.2.1).mono fun e w' ⟨v, h, ho, hb⟩ => ⟨v, h, owns_base ho (Below.size hW), hb⟩)
      intro u6
      simp only [Act.put, List.setIfInBounds_toArray, List.set]
      refine wpW_have (p := ∃ a5 c5, u6 = .slice a5 l0 c5) (fun W hW => ?_) ?_
      · obtain ⟨a8, c8, hf8, _, _⟩ := OI.len (show OI _ _ _ _ from hW.2); rw [← HR0.out.2.2] at hf8; exact ⟨a8, c8, hf8⟩
      rintro ⟨a8, c8, rfl⟩
      refine wpW_one (i := 7) (by kernel_rfl) (by kernel_rfl) rfl rfl (S1 wr.heap.size 24 (.slice a8 l0 c8)) (S1.up _ _ _) (fun W hW => ?hy) ?_
      case hy =>
        go_simp
        exact RegionU.does_made ⟨_, rfl, Ar.new _ _ _, Below.size (show Below _ _ _ from hW.1)⟩ (alloc_b _ _)
      intro u7
      simp only [Act.put, List.setIfInBounds_toArray, List.set]
      refine wpW_have (p := ∃ b, u7 = .slice (some ⟨b, 0, none⟩) 1 1) (fun W hW => ?_) ?_
      · obtain ⟨b, h, _⟩ := hW.2; exact ⟨b, h⟩
      rintro ⟨b9, rfl⟩
      refine wpW_done3 (i := 8) (j := 9) (k := 10) rfl rfl rfl (by kernel_rfl) (by kernel_rfl) ?_
      rintro W ⟨⟨h1, h2⟩, b', h3, h4, h5⟩
      obtain rfl : b9 = b' := by simpa using h3
      have h1 : Below wr.heap.size wr W := h1
      have h2 : OI W wr.heap.size (.slice a8 l0 c8) r0 := h2
      have hpW := HPW.out.next h1
      have hr := hpW.r
      rw [HML.out] at hr
      have hlt1 : ∀ {v : Value} {b n : Nat} {e : TypeId} {xs : List Value} {q : Nat}, wr.ownsRow b e 1 v n xs → v.ownBlock = some q → q < wr.heap.size := fun ho hq => (own_at ho hq).2.2
      have hfr : ∀ g, (Value.slice a8 l0 c8).ownBlock = some g → wr.heap.size ≤ g := fun g hg => (own_at (show World.ownsRow _ _ _ _ _ _ _ from h2) hg).2.1
      have hins := insR_any hr (fun y hy => by
        obtain ⟨i, hi, rfl⟩ := List.mem_iff_getElem.1 hy
        have hi2 : i < (m.nx.map upL).length := by have := HPW.out.r.1; omega
        obtain ⟨vi, q1, q2, _⟩ := HPW.out.e i hi2
        rw [List.getElem?_eq_getElem hi] at q1
        injection q1 with q1
        obtain ⟨_, _, q3⟩ := own_form (show World.ownsRow _ _ _ _ _ _ _ from q2)
        rw [q1, q3]; rfl) HN0.out HN65.out h4 rfl (fun e => by
        have := hlt1 HPW.out.r e
        omega)
      have HINS := Lib.hid hins
      have HPX := Lib.hid hpW
      have HH0 := Lib.hid (show OI W B (.slice a8 l0 c8) r0 from owns_base h2 HPW.out.size)
      have HDD : Hid (∀ g, (Value.slice a8 l0 c8).ownBlock = some g → (Value.slice (some ⟨b7, o7, none⟩) n c7).ownBlock ≠ some g ∧ ∀ (i : Nat) (vi : Value), vs[i]? = some vi → vi.ownBlock ≠ some g) := Lib.hid fun g hg => ⟨fun e => by
          have q1 := hlt1 HPW.out.o2 e
          have q2 := hfr g hg
          omega, fun i vi hi e => by
          have hi2 : i < (m.nx.map upL).length := by
            have := (List.getElem?_eq_some_iff.1 hi).1
            have := HPW.out.r.1; omega
          obtain ⟨vj, q1, q2, _⟩ := HPW.out.e i hi2
          rw [hi] at q1
          injection q1 with q1
          subst q1
          have q3 := hlt1 q2 e
          have q4 := hfr g hg
          omega⟩
      clear h1 h2 h3 h4 h5 hpW hr hlt1 hfr hins HPW HO0 HC6 HD
      go_wp2_with fail
      refine HINS.out.mono ?_
      rintro e w6 ⟨v1', rfl, hown, hg, _⟩
      have hbx6 : Ar w6 bk _ 27 := (hg.block bk HPX.out.box.lt (fun e => ar_type HPX.out.box HPX.out.r (by decide) e.symm rfl)).trans HPX.out.box
      have hyx := (Ar.at' hbx6 257).trans (mkC_hi HA.out.size _ _ _ _ 1)
      have hyx' : w6.cell? ⟨bk, 257, none⟩ = some (.slice (some ⟨b6, o6, none⟩) n c6) := hyx
      have hfx := Ar.frozen hbx6 257
      obtain ⟨a9, c9, rfl⟩ := own_form hown
      have HNP := Lib.hid (HPX.out.row HA.out.size HH0.out HDD.out (by rw [HML.out]; exact hown) hg)
      have d8 := (Ar.at' HNP.out.box 258).trans (mkC_hi HA.out.size _ _ _ _ 2)
      have d8' : (w6.setCell ⟨bk, 257, none⟩ (.slice a9 (n + 1) c9)).cell? ⟨bk, 258, none⟩ = some (.slice (some ⟨b7, o7, none⟩) n c7) := d8
      clear hown hg hbx6 hyx HINS HPX HH0 HDD d8
      have hal := HNP.out.next (al _ (.cells #[.int .i64 0] 3))
      have ho2 : World.ownsRow ((w6.setCell ⟨bk, 257, none⟩ (.slice a9 (n + 1) c9)).alloc (.cells #[.int .i64 0] 3)) B 3 1 (.slice (some ⟨b7, o7, none⟩) n c7) n (m.lb.map (Value.int .i64)) := by
        have := hal.o2
        unfold OI at this
        rw [← HN.out.1] at this
        exact this
      have hse : (w6.setCell ⟨bk, 257, none⟩ (.slice a9 (n + 1) c9)).heap.size = w6.heap.size := by simp [World.setCell]
      have hbn : Ar ((w6.setCell ⟨bk, 257, none⟩ (.slice a9 (n + 1) c9)).alloc (.cells #[.int .i64 0] 3)) w6.heap.size #[.int .i64 0] 3 := by
        have := Ar.new (w6.setCell ⟨bk, 257, none⟩ (.slice a9 (n + 1) c9)) #[.int .i64 0] 3
        rw [hse] at this; exact this
      have hins2 := insI_any ho2 (fun y hy => by
        obtain ⟨q, _, rfl⟩ := List.mem_map.1 hy
        rfl) HN0.out HN65.out hbn rfl (fun e => by
        have := (own_at (show World.ownsRow _ _ _ _ _ _ _ from HNP.out.o2) e).2.2
        rw [hse] at this
        exact absurd this (Nat.lt_irrefl _))
      have HINS2 := Lib.hid hins2; have HAL := Lib.hid hal
      clear hal ho2 hins2 hse hbn
      go_wp2_with fail
      clear d8' hyx' hfx HNP
      generalize ((w6.setCell ⟨bk, 257, none⟩ (.slice a9 (n + 1) c9)).alloc (.cells #[.int .i64 0] 3)) = W8 at *
      refine HINS2.out.mono ?_
      rintro e w8 ⟨v2', rfl, hown2, hg2, hat2⟩
      have hbx8 : Ar w8 bk _ 27 := (hg2.block bk HAL.out.box.lt (fun e => ar_type HAL.out.box HAL.out.o2 (by decide) e.symm rfl)).trans HAL.out.box
      have hyx8 := (Ar.at' hbx8 258).trans (mkC_hi HA.out.size _ _ _ _ 2)
      have hyx8' : w8.cell? ⟨bk, 258, none⟩ = some (.slice (some ⟨b7, o7, none⟩) n c7) := hyx8
      have hfx8 := Ar.frozen hbx8 258
      obtain ⟨a10, c10, rfl⟩ := own_form hown2
      have HFN := Lib.hid (HAL.out.lab HA.out.size (v2' := .slice a10 (n + 1) c10) (ls' := 0 :: m.lb) (by
        show World.ownsRow _ _ _ _ _ (0 :: m.lb).length _
        rw [List.length_cons, ← HN.out.1]
        exact hown2) hg2 (hat2.imp id fun e => ⟨_, e, Nat.le_refl _⟩))
      clear hown2 hg2 hat2 hbx8 hyx8 HINS2 HAL
      have his := HFN.out.own.is HA.out HAF.out HSZ.out m.wd
      have HDS := Lib.hid his.size; have HDO := Lib.hid his.one
      have HBM := Lib.hid (show Bx (w8.setCell ⟨bk, 258, none⟩ (.slice a10 (n + 1) c10)) bk _ _ from ⟨HFN.out.box, his⟩)
      have HZ9 : Hid (Ar (w8.setCell ⟨bk, 258, none⟩ (.slice a10 (n + 1) c10)) (w.heap.size + 1) Try.zeroCells27 27) := Lib.hid ((HFN.out.below.block _ (by have := HS1.out; rw [HBE.out]; omega)).trans HZ1.out)
      clear his
      go_wp2_with (first | (refine wpList_load_dfa rfl (.tmp 4) rfl rfl HBM.out ?_) | (refine wpList_store_dfa rfl (.tmp 2) (.tmp 69) rfl rfl rfl HZ9.out HZS.out HDS.out HDO.out ?_; simp only [Act.put]))
      have hrx := HFN.out.own.rx (X := fun k => X k ∨ k = w.heap.size + 1) HA.out HAF.out HSZ.out (fun k hk => by
        have := HS1.out
        rw [HBE.out]
        rcases hk with hk | hk
        · have := HXX.out k hk; omega
        · omega) m.wd
      rw [HR0.out.1] at hrx
      refine bodyPost_ret (res_kept rfl rfl rfl (HZ9.out.row _) HDS.out) rfl ⟨_, by rw [HE.out.1]; rfl, ?_, below_row (HB1.out.trans (HFN.out.below.mono (by rw [HBE.out]; exact HB1.out.size))) (by omega) _⟩
      rw [HE.out.2]
      exact (hrx.row (.inr rfl) _).mono fun k hk => .inl hk
end Go.Proofs.Ytlfmkiendaecaaa.DfaW
