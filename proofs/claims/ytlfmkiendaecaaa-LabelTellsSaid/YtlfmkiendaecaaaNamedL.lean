/- Walk of named: a machine with other names, each label being the place of its name. -/
import Derived.Test.YtlfmkiendaecaaaChanged
namespace Go.Proofs.Ytlfmkiendaecaaa.DfaW
set_option linter.unusedVariables false
set_option linter.unusedSimpArgs false
open Go.Proofs.Ytlfmkiendaecaaa.RegionU (Up wpW_taken wpW_takenY wpW_one wpW_two wpW_done1 wpW_done2 wpW_done3 wpW_have wp_region_W)
open Go.RowKit Go.Maps Go.Proofs.Ytlfmkiendaecaaa.PartM Go.Proofs.Ytlfmkiendaecaaa.PartW Go.Proofs.Ytlfmkiendaecaaa.TxM
theorem idx_place (l : List ByteArray) (x : ByteArray) : Lib.idxOfS (l.take l.length) x = placeT l x := by
  by_cases h : x ∈ l
  · rw [placeT_in h]
    exact Lib.idxOfS_hit l l.length (atT l x) x (atT_mem.1 h) (Nat.le_refl _) (getD_atT h) (fun j hj => atT_first hj)
  · rw [placeT_out h]
    refine Lib.idxOfS_miss l l.length x fun j hj e => h ?_
    rw [← e, List.getD_eq_getElem?_getD, List.getElem?_eq_getElem hj]
    exact List.getElem_mem _
theorem Index_any {B : Nat} {a : Option Addr} {n c : Nat} {l : List ByteArray} (x : ByteArray) (w : World) (h : TS B w (.slice a n c) l) : Calls Try.prog 53 #[.slice a n c, .string x] w fun e w' => e = .returned (.int .i64 (placeT l x)) ∧ w = w' := by
  obtain ⟨a', cap, he, h1, h2, h3⟩ := h.open
  simp only [Value.slice.injEq] at he
  obtain ⟨rfl, rfl, rfl⟩ := he
  rw [← idx_place]
  rcases Nat.eq_zero_or_pos l.length with h0 | h0
  · obtain rfl := List.length_eq_zero_iff.1 h0
    exact (Try.slices_Index_string_empty a c x w).mono fun e w' ⟨h, hw⟩ => ⟨h, hw.symm⟩
  · obtain ⟨b, o, rfl, hb, hc⟩ := TS.cells (cap := c) h3 h0
    exact (Try.slices_Index_string b o l.length c l x w (Nat.le_refl _) (by unfold maxLen at h2; omega) hc).mono fun e w' ⟨h, hw⟩ => ⟨h, hw.symm⟩
theorem place_bound (l : List ByteArray) (x : ByteArray) : -1 ≤ placeT l x ∧ placeT l x < l.length ∨ placeT l x = -1 := by
  by_cases h : x ∈ l
  · rw [placeT_in h]; have := atT_mem.1 h; omega
  · rw [placeT_out h]; omega
/-- What becomes of a label. -/
def plF (m : Mc) (l : List ByteArray) (y : Int) : Int := if 0 < y then placeT l (nmAt m y) + 1 else 0
theorem plF_named {m : Mc} {l : List ByteArray} (h : AllIn m l) : m.lb.map (plF m l) = m.lb.map (nameF m l) := List.map_congr_left fun y hy => by
  unfold plF nameF
  split
  · rename_i h0
    rw [placeT_in (h _ (by
      obtain ⟨i, hi, rfl⟩ := List.mem_iff_getElem.1 hy
      exact mem_usedL.2 ⟨i, hi, by rw [List.getD_eq_getElem?_getD, List.getElem?_eq_getElem hi]; exact h0, by rw [List.getD_eq_getElem?_getD, List.getElem?_eq_getElem hi]; rfl⟩))]
  · rfl
theorem plF_only (m : Mc) (s : ByteArray) : m.lb.map (plF m [s]) = m.lb.map (onlyF m s) := List.map_congr_left fun y hy => by
  unfold plF onlyF
  by_cases h0 : 0 < y
  · by_cases e : nmAt m y = s
    · rw [if_pos h0, if_pos ⟨h0, e⟩, placeT_in (by simp [e])]
      simp [atT, e]
    · rw [if_pos h0, if_neg (fun x => e x.2), placeT_out (by simp [e])]; rfl
  · rw [if_neg h0, if_neg (fun x => h0 x.1)]
def plc (m : Mc) (l : List ByteArray) (k : Nat) : List Int := 0 :: (m.nm.take k).map fun x => placeT l x + 1
theorem plc_succ (m : Mc) (l : List ByteArray) {k : Nat} (hk : k < m.nm.length) : plc m l (k + 1) = plc m l k ++ [placeT l (m.nm.getD k ByteArray.empty) + 1] := by
  unfold plc; rw [takeT_snoc _ hk, List.map_append]; rfl
theorem plc_len (m : Mc) (l : List ByteArray) {k : Nat} (hk : k ≤ m.nm.length) : (plc m l k).length = k + 1 := by unfold plc; simp; omega
theorem plc_at {m : Mc} (h : Ok m) (l : List ByteArray) {y : Int} (hy : y ∈ m.lb) : 0 ≤ y ∧ y.toNat < (plc m l m.nm.length).length ∧ (plc m l m.nm.length).getD y.toNat 0 = plF m l y := by
  obtain ⟨i, hi, rfl⟩ := List.mem_iff_getElem.1 hy
  have hb := h.lbs.2.2 i hi
  rw [List.getD_eq_getElem?_getD, List.getElem?_eq_getElem hi] at hb
  simp only [Option.getD_some] at hb
  refine ⟨hb.1, by rw [plc_len m l (Nat.le_refl _)]; omega, ?_⟩
  unfold plF plc nmAt
  rw [List.take_length]
  by_cases h0 : 0 < m.lb[i]
  · rw [if_pos h0]
    obtain ⟨t, ht⟩ : ∃ t : Nat, m.lb[i] = (t : Int) + 1 := ⟨m.lb[i].toNat - 1, by omega⟩
    rw [ht]
    have e1 : ((t : Int) + 1).toNat = t + 1 := by omega
    have e2 : t < m.nm.length := by omega
    rw [e1]
    simp [List.getD, e2]
  · have : m.lb[i] = 0 := by omega
    rw [if_neg h0, this]; rfl
/-- The function that is handed over: a label's place. -/
theorem place1_any {pb : Nat} {t : TypeId} {a : Option Addr} {c : Nat} {base : Nat} {L : List Int} {y : Int} (W : World) (hp : Ar W pb #[.slice a L.length c] t) (ho : OI W base (.slice a L.length c) L) (hy0 : 0 ≤ y) (hy : y.toNat < L.length) (hL : L.length ≤ 65536) :
    Calls Try.prog 55 (#[.int .i64 y] ++ #[.pointer (some ⟨pb, 0, none⟩)]) W fun e w' => e = .returned (.int .i64 (L.getD y.toNat 0)) ∧ W = w' := by
  obtain ⟨k, rfl⟩ : ∃ k : Nat, y = k := ⟨y.toNat, by omega⟩
  have hk : (k : Int).toNat = k := by omega
  rw [hk] at hy ⊢
  obtain ⟨n, hn⟩ : ∃ n, n = L.length := ⟨_, rfl⟩
  have d1 := Ar.at' hp 0
  obtain ⟨b, o, rfl, hb, hc⟩ := ho.is.cell hy
  have hy2 := hy
  rw [← hn] at d1 hy hL
  have d1' : W.cell? ⟨pb, 0, none⟩ = some (.slice (some ⟨b, o, none⟩) n c) := d1
  have hki : (k : Int) ≤ 65536 := by omega
  clear hp ho d1 hn
  simp only [List.push_toArray, List.append_toArray, List.cons_append, List.nil_append]
  go_enter Try.func55, Try.ntmps55
  go_wp2_with fail
  go_ret
  refine ⟨?_, rfl⟩
  show Ending.returned (.int .i64 L[k]) = _
  rw [List.getD_eq_getElem?_getD, List.getElem?_eq_getElem hy2]; rfl
def NmL (W1 : World) (B : Nat) (m : Mc) (l : List ByteArray) (n : Nat) (i : Value) (wr : World) : Prop :=
  ∃ (k : Nat) (vp : Value), k ≤ n ∧ i = .int .i64 k ∧ Ar wr (B + 1 + 1 + 1) #[vp] 24 ∧ OI wr (B + 1 + 1) vp (plc m l k) ∧ Below (B + 1 + 1) W1 wr
theorem below_cell {n : Nat} {w W : World} {b i : Nat} {v : Value} (h : Below n w W) (hb : n ≤ b) : Below n w (W.setCell ⟨b, i, none⟩ v) :=
  ⟨h.os, h.tape, h.output, by have := h.size; simp [World.setCell]; exact this, fun k hk => (Below.heap_setCell _ ⟨b, i, none⟩ _ k (by intro e; have e : k = b := e; omega)).trans (h.block k hk)⟩
theorem ar_own {w : World} {pb base n : Nat} {vp v : Value} {xs : List Value} (h : Ar w pb #[vp] 24) (ho : w.ownsRow base 3 1 v n xs) : some pb ≠ v.ownBlock := fun e => by
  obtain ⟨⟨cur, h1⟩, _⟩ := own_at ho e.symm
  have h2 : w.heap[pb]? = _ := h
  rw [h2] at h1
  injection h1 with h1
  injection h1 with _ h1
  exact absurd h1 (by decide)
set_option maxRecDepth 100000 in
set_option maxHeartbeats 8000000 in
theorem named_any {C : Array Value} {m : Mc} {v : Value} {l : List ByteArray} (w : World) (h : IsM w.heap.size w C m) (hok : Ok m) (hv : TS w.heap.size w v l) (hl : l.length ≤ 64) :
    Calls Try.prog 33 #[.agg C, v] w fun e w' => ∃ v1 v2 u, e = .returned (.agg (mkC (ofC C) (.int .i64 m.wd) v1 v2 u)) ∧ Own w' w.heap.size v1 v2 u m.nx (m.lb.map (plF m l)) l ∧ Below w.heap.size w w' := by
  obtain ⟨a, cap, rfl, g1, g2, _⟩ := hv.open
  have hx := (Bx.new h).alloc (.cells Try.zeroCells27 27)
  have hz : Ar ((w.alloc (.cells C 27)).alloc (.cells Try.zeroCells27 27)) (w.heap.size + 1) Try.zeroCells27 27 := by
    have := Ar.new (w.alloc (.cells C 27)) Try.zeroCells27 27
    rw [World.size_alloc] at this; exact this
  have hb0 : Below w.heap.size w ((w.alloc (.cells C 27)).alloc (.cells Try.zeroCells27 27)) := ((Below.refl _ _).alloc (Nat.le_refl _) _).alloc (by simp) _
  have hs0 : ((w.alloc (.cells C 27)).alloc (.cells Try.zeroCells27 27)).heap.size = w.heap.size + 2 := by simp
  obtain ⟨a1, a2, a3, c1, c2, c3, k1, k2, k3⟩ := h.slices
  have HSZ := Lib.hid hv.szs
  have HTS := Lib.hid hv
  obtain ⟨L, hL⟩ : ∃ L, L = l.length := ⟨_, rfl⟩
  rw [← hL] at HTS ⊢
  have HLE := Lib.hid hL; have HL64 := Lib.hid hl
  obtain ⟨n, hn⟩ : ∃ n, n = m.nm.length := ⟨_, rfl⟩
  rw [← hn] at k3
  have hn64 := hok.nms.1
  have HN := Lib.hid hn
  have hni : (n : Int) ≤ 64 := by omega
  have HN64 := Lib.hid (show n ≤ 64 by omega)
  have HK := Lib.hid (show C[259]? = some (.slice a3 n c3) from k3)
  have hz1 := (hz.alloc (.cells #[.int .i64 0] 3)).alloc (.cells #[.slice (some ⟨w.heap.size + 1 + 1, 0, none⟩) 1 1] 24)
  have hx1 := (hx.alloc (.cells #[.int .i64 0] 3)).alloc (.cells #[.slice (some ⟨w.heap.size + 1 + 1, 0, none⟩) 1 1] 24)
  have hp1 : Ar ((((w.alloc (.cells C 27)).alloc (.cells Try.zeroCells27 27)).alloc (.cells #[.int .i64 0] 3)).alloc (.cells #[.slice (some ⟨w.heap.size + 1 + 1, 0, none⟩) 1 1] 24)) (w.heap.size + 1 + 1 + 1) #[.slice (some ⟨w.heap.size + 1 + 1, 0, none⟩) 1 1] 24 := by
    have := Ar.new (((w.alloc (.cells C 27)).alloc (.cells Try.zeroCells27 27)).alloc (.cells #[.int .i64 0] 3)) #[.slice (some ⟨w.heap.size + 1 + 1, 0, none⟩) 1 1] 24
    simp only [World.size_alloc] at this; exact this
  have ho1 : OI ((((w.alloc (.cells C 27)).alloc (.cells Try.zeroCells27 27)).alloc (.cells #[.int .i64 0] 3)).alloc (.cells #[.slice (some ⟨w.heap.size + 1 + 1, 0, none⟩) 1 1] 24)) (w.heap.size + 1 + 1) (.slice (some ⟨w.heap.size + 1 + 1, 0, none⟩) 1 1) [0] := by
    have h1 := Ar.new ((w.alloc (.cells C 27)).alloc (.cells Try.zeroCells27 27)) #[.int .i64 0] 3
    simp only [World.size_alloc] at h1
    exact ⟨rfl, .inr ⟨w.heap.size + 1 + 1, 1, #[.int .i64 0], rfl, Nat.le_refl _, h1.alloc _, Nat.le_refl _, by unfold maxLen; omega, rfl, rfl⟩⟩
  have hb1 : Below w.heap.size w ((((w.alloc (.cells C 27)).alloc (.cells Try.zeroCells27 27)).alloc (.cells #[.int .i64 0] 3)).alloc (.cells #[.slice (some ⟨w.heap.size + 1 + 1, 0, none⟩) 1 1] 24)) := (hb0.alloc hb0.size _).alloc (by simp; omega) _
  have hs1 : ((((w.alloc (.cells C 27)).alloc (.cells Try.zeroCells27 27)).alloc (.cells #[.int .i64 0] 3)).alloc (.cells #[.slice (some ⟨w.heap.size + 1 + 1, 0, none⟩) 1 1] 24)).heap.size = w.heap.size + 4 := by simp
  have d3 := (Ar.at' hx1.ar 259).trans k3
  have HX := Lib.hid hx1.ar; have HZ := Lib.hid hz1; have HB0 := Lib.hid hb1; have HS0 := Lib.hid hs1; have HP0 := Lib.hid hp1; have HO0 := Lib.hid ho1
  have HOK := Lib.hid hok; have HI := Lib.hid h
  have HZS := Lib.hid zc_size
  clear h hx hz hb0 hs0 k1 k2 k3 hok hv hl g1 g2 hL hn hn64 hx1 hz1 hb1 hs1 hp1 ho1
  go_enter Try.func33, Try.ntmps33
  go_wp2_with fail
  clear d3
  obtain ⟨B, hB⟩ : ∃ B, B = w.heap.size := ⟨_, rfl⟩
  have HBE := Lib.hid hB
  rw [← hB] at HX HZ HB0 HS0 HP0 HO0 HI HTS ⊢
  generalize (((w.alloc (.cells C 27)).alloc (.cells Try.zeroCells27 27)).alloc (.cells #[.int .i64 0] 3)).alloc (.cells #[.slice (some ⟨B + 1 + 1, 0, none⟩) 1 1] 24) = W1 at *
  clear hB
  go_loopw [12] (NmL W1 B m l n) (fun i _ => n - (intOf i).toNat)
  case atStart => exact ⟨0, _, Nat.zero_le _, rfl, HP0.out, HO0.out, Below.refl _ _⟩
  case round =>
    obtain ⟨k, vp, hk, rfl, hp, ho, hb⟩ := hrel
    have hbw : Below B w wr := HB0.out.trans (hb.mono (by omega))
    have hsz : B + 4 ≤ wr.heap.size := by have := hb.size; rw [HS0.out] at this; exact this
    obtain ⟨ap, cp, hvp, _, _⟩ := ho.len
    rw [plc_len m l (show k ≤ m.nm.length by rw [← HN.out]; exact hk)] at hvp
    subst hvp
    by_cases hlt : k < n
    · obtain ⟨vn, q1, hT⟩ := (HI.out.below hbw).nm
      rw [HK.out] at q1
      injection q1 with q1
      subst q1
      obtain ⟨b3, o3, rfl, hb3, hc3⟩ := hT.cell (i := k) (by rw [← HN.out]; exact hlt)
      obtain ⟨x, hx⟩ : ∃ x, x = m.nm.getD k ByteArray.empty := ⟨_, rfl⟩
      rw [← hx] at hc3
      obtain ⟨p, hp0⟩ : ∃ p, p = placeT l x := ⟨_, rfl⟩
      have hpb := place_bound l x
      rw [← hp0] at hpb
      have HPX := Lib.hid hp0; have HXX := Lib.hid hx
      have hl64 := HL64.out
      have hpb2 : -1 ≤ p ∧ p ≤ 64 := by omega
      have HWP := Lib.hid (show wrap64 (p + 1) = p + 1 ∧ IntKind.i64.wrap (p + 1) = p + 1 from ⟨by unfold wrap64; omega, by rw [IntKind.wrap_i64]; omega⟩)
      have HLT := Lib.hid hlt; have HP := Lib.hid hp; have HO := Lib.hid ho; have HBB := Lib.hid hb; have HSW := Lib.hid hsz
      have HTW := Lib.hid (HTS.out.below hbw)
      clear hT hb3 hx hp0 hpb hpb2 hl64 hp ho hb hbw hsz
      go_wp2_with fail
      clear hc3
      have HD := Lib.hid (show KB wr wr.drew from (Below.refl _ _).drew)
      refine wp_region_W (fun i => decide (i < 6)) 6 2 (by kernel_rfl) (by kernel_rfl) (KB.up wr) HD.out ?_
      refine wpW_taken (i := 0) rfl (by kernel_rfl) (by kernel_rfl) (by kernel_rfl) (by kernel_rfl) (KB.up wr) ?_
      apply Exists.intro
      refine ⟨Or.inl ⟨rfl, fun W hW => ?hy⟩, ?_⟩
      case hy =>
        have d := (Below.cell (p := ⟨B + 1 + 1 + 1, 0, none⟩) hW HP.out.lt).trans (Ar.at' HP.out 0)
        go_simp
        exact RegionU.does_value rfl
      simp only [Act.put, List.setIfInBounds_toArray, List.set]
      refine wpW_taken (i := 1) rfl (by kernel_rfl) (by kernel_rfl) (by kernel_rfl) (by kernel_rfl) (KB.up wr) ?_
      apply Exists.intro
      refine ⟨Or.inl ⟨rfl, fun W hW => ?hy⟩, ?_⟩
      case hy =>
        go_simp
        exact RegionU.does_value rfl
      simp only [Act.put, List.setIfInBounds_toArray, List.set]
      refine wpW_taken (i := 2) rfl (by kernel_rfl) (by kernel_rfl) (by kernel_rfl) (by kernel_rfl) (KB.up wr) ?_
      apply Exists.intro
      refine ⟨Or.inl ⟨rfl, fun W hW => ?hy⟩, ?_⟩
      case hy =>
        go_simp
        exact RegionU.does_value rfl
      simp only [Act.put, List.setIfInBounds_toArray, List.set]
      refine wpW_taken (i := 3) rfl (by kernel_rfl) (by kernel_rfl) (by kernel_rfl) (by kernel_rfl) (KB.up wr) ?_
      apply Exists.intro
      refine ⟨Or.inl ⟨rfl, fun W hW => ?hy⟩, ?_⟩
      case hy =>
        go_simp
        exact RegionU.does_call ((Index_any x W (HTW.out.below (Below.mono (show Below _ _ _ from hW) (by have := HSW.out; omega)))).mono fun e w' ⟨h, hw⟩ => ⟨by rw [h, ← HPX.out], by rw [hw]; exact Below.refl _ _⟩)
      simp only [Act.put, List.setIfInBounds_toArray, List.set]
      refine wpW_taken (i := 4) rfl (by kernel_rfl) (by kernel_rfl) (by kernel_rfl) (by kernel_rfl) (KB.up wr) ?_
      apply Exists.intro
      refine ⟨Or.inl ⟨rfl, fun W hW => ?hy⟩, ?_⟩
      case hy =>
        obtain ⟨h1, h2⟩ := HWP.out
        go_simp
        exact RegionU.does_value rfl
      simp only [Act.put, List.setIfInBounds_toArray, List.set]
      refine wpW_one (i := 5) (by kernel_rfl) (by kernel_rfl) rfl rfl (S1 wr.heap.size 3 (.int .i64 (p + 1))) (S1.up _ _ _) (fun W hW => ?hy) ?_
      case hy =>
        go_simp
        exact RegionU.does_made ⟨_, rfl, Ar.new _ _ _, Below.size (show Below _ _ _ from hW)⟩ (alloc_b _ _)
      intro u5
      simp only [Act.put, List.setIfInBounds_toArray, List.set]
      refine wpW_have (p := ∃ b, u5 = .slice (some ⟨b, 0, none⟩) 1 1) (fun W hW => ?_) ?_
      · obtain ⟨b, h, _⟩ := hW.2; exact ⟨b, h⟩
      rintro ⟨b9, rfl⟩
      refine wpW_done2 (i := 6) (j := 7) rfl rfl (by kernel_rfl) (by kernel_rfl) ?_
      rintro W ⟨h1, b', h3, h4, h5⟩
      obtain rfl : b9 = b' := by simpa using h3
      have h1 : Below wr.heap.size wr W := h1
      have hoW := HO.out.below h1
      have hpW := HP.out.below h1
      have hsW := h1.size
      have hsw := HSW.out
      refine wpList_append_int_at rfl (.tmp 16) (.tmp 21) rfl rfl hoW (by omega) ⟨b9, 0, none⟩ 1 (p + 1) rfl (Ar.at' h4 0) rfl (by rw [plc_len m l (show k ≤ m.nm.length by rw [← HN.out]; exact hk)]; have := HN64.out; omega) ?_
      intro v' w4 hO4 hg4 hat4
      have hne := ar_own hpW hoW
      have hp4 : Ar w4 (B + 1 + 1 + 1) _ 24 := (hg4.block (B + 1 + 1 + 1) (by omega) hne).trans hpW
      have hyx := Ar.at' hp4 0
      have hfx := Ar.frozen hp4 0
      obtain ⟨N4, hN4⟩ : ∃ N, N = (plc m l k ++ [p + 1]).length := ⟨_, rfl⟩
      obtain ⟨a4, c4, rfl⟩ := own_form hO4
      rw [← hN4] at hO4 hat4 ⊢
      have HPN : Hid (Ar (w4.setCell ⟨B + 1 + 1 + 1, 0, none⟩ (.slice a4 N4 c4)) (B + 1 + 1 + 1) #[.slice a4 N4 c4] 24) := Lib.hid (hp4.set 0 (.slice a4 N4 c4))
      have HON : Hid (OI (w4.setCell ⟨B + 1 + 1 + 1, 0, none⟩ (.slice a4 N4 c4)) (B + 1 + 1) (.slice a4 N4 c4) (plc m l k ++ [p + 1])) := Lib.hid (own_keep hO4 fun g hg => Below.heap_setCell _ ⟨B + 1 + 1 + 1, 0, none⟩ _ g (fun e => ar_own hp4 hO4 (by have e : g = B + 1 + 1 + 1 := e; rw [← e]; exact hg.symm)))
      have HBN := Lib.hid (HBB.out.trans ((below_cell (i := 0) (v := .slice a4 N4 c4) ((h1.mono (by omega : B + 1 + 1 ≤ wr.heap.size)).trans (below_own (by omega) hoW hg4)) (by omega : B + 1 + 1 ≤ B + 1 + 1 + 1))))
      clear h1 h3 h4 h5 hoW hpW hsW hsw hO4 hg4 hat4 hne hp4 hN4 HP HO HBB HD HTW HSW
      go_wp2_with fail
      refine ⟨⟨k + 1, _, HLT.out, by go_num, HPN.out, ?_, HBN.out⟩, by have := HLT.out; simp [intOf]; omega⟩
      rw [plc_succ m l (show k < m.nm.length by rw [← HN.out]; exact HLT.out), ← HXX.out, ← HPX.out]
      exact HON.out
    · have hkn : k = n := by omega
      have hlen : (plc m l m.nm.length).length = n + 1 := by rw [plc_len m l (Nat.le_refl _), ← HN.out]
      rw [hkn] at ho hp
      rw [show plc m l n = plc m l m.nm.length by rw [HN.out]] at ho
      have ho' : OI wr (B + 1 + 1) (.slice ap (plc m l m.nm.length).length cp) (plc m l m.nm.length) := by rw [hlen]; exact ho
      have hp' : Ar wr (B + 1 + 1 + 1) #[.slice ap (plc m l m.nm.length).length cp] 24 := by rw [hlen]; exact hp
      have hax : Ar wr B C 27 := (hb.block B (by omega)).trans HX.out
      have hbx : Bx wr B C m := ⟨hax, (HI.out.below hbw).up (by omega)⟩
      have hzw : Ar wr (B + 1) Try.zeroCells27 27 := (hb.block (B + 1) (by omega)).trans HZ.out
      have HCA := Lib.hid (changed_any (g := 55) (lb := #[.pointer (some ⟨B + 1 + 1 + 1, 0, none⟩)]) (f := plF m l) wr hbx.is HOK.out ((HTS.out.below hbw).up (by omega)) HL64.out (enters_of Try.func55 (by kernel_rfl) rfl) (fun W hW x hx => by
        obtain ⟨q1, q2, q3⟩ := plc_at HOK.out l hx
        have := place1_any W (hp'.below hW) (ho'.below hW) q1 q2 (by rw [hlen]; have := HN64.out; omega)
        rw [q3] at this
        exact this))
      have HBX := Lib.hid hbx; have HZW := Lib.hid hzw; have HBW := Lib.hid hbw; have HSW := Lib.hid hsz
      clear hkn hlen ho hp ho' hp' hax hbx hzw hb hbw hsz
      go_wp2_with (refine wpList_load_dfa rfl (.tmp 2) rfl rfl HBX.out ?_)
      have hca := HCA.out
      refine hca.mono ?_
      rintro e w9 ⟨v1, v2, u, rfl, hown, hb9⟩
      have hz9 := HZW.out.below hb9
      have his := hown.is HI.out.isA HI.out.oflt HSZ.out m.wd
      have HDS := Lib.hid his.size; have HDO := Lib.hid his.one
      have HOW := Lib.hid hown; have HZ9 := Lib.hid hz9
      have HB9 := Lib.hid (HBW.out.trans (hb9.mono (by have := HSW.out; omega)))
      clear hown hb9 hz9 his hca HCA
      go_wp2_with (refine wpList_store_dfa rfl (.tmp 4) (.tmp 27) rfl rfl rfl HZ9.out HZS.out HDS.out HDO.out ?_; simp only [Act.put])
      refine bodyPost_ret (res_one rfl rfl (HZ9.out.row _) HDS.out) rfl ⟨v1, v2, u, rfl, (HOW.out.keep fun k h1 h2 => heap_row _ _ _ (by have := HSW.out; omega)).base (by have := HSW.out; rw [← HBE.out]; omega), ?_⟩
      rw [← HBE.out]
      exact below_row HB9.out (by omega) _
end Go.Proofs.Ytlfmkiendaecaaa.DfaW
