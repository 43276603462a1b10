/- Walk of the document's Used. -/
import Derived.Test.YtlfmkiendaecaaaPutT
import Derived.Test.YtlfmkiendaecaaaRightF
import Derived.StillTailTactics
namespace Go.Proofs.Ytlfmkiendaecaaa.DfaW
set_option linter.unusedVariables false
open Go.RowKit Go.Maps Go.Proofs.Ytlfmkiendaecaaa.PartM Go.Proofs.Ytlfmkiendaecaaa.PartW Go.Proofs.Ytlfmkiendaecaaa.TxM

/-- The names of the first labels. -/
def labTx (m : Mc) (k : Nat) : List ByteArray := ((m.lb.take k).filter fun x => decide (0 < x)).map (nmAt m)
theorem labTx_all (m : Mc) : labTx m m.lb.length = usedL m := by unfold labTx usedL; rw [List.take_length]
theorem takeI_snoc (l : List Int) {j : Nat} (hj : j < l.length) : l.take (j + 1) = l.take j ++ [l.getD j 0] := by
  rw [List.take_succ_eq_append_getElem hj, List.getD_eq_getElem?_getD, List.getElem?_eq_getElem hj]; rfl
theorem labTx_yes {m : Mc} {k : Nat} (hk : k < m.lb.length) (h : 0 < m.lb.getD k 0) : labTx m (k + 1) = labTx m k ++ [nmAt m (m.lb.getD k 0)] := by
  unfold labTx
  rw [takeI_snoc _ hk, List.filter_append, List.map_append, List.filter_cons, if_pos (decide_eq_true h)]; rfl
theorem labTx_no {m : Mc} {k : Nat} (hk : k < m.lb.length) (h : ¬ 0 < m.lb.getD k 0) : labTx m (k + 1) = labTx m k := by
  unfold labTx
  rw [takeI_snoc _ hk, List.filter_append, List.map_append, List.filter_cons, if_neg (by simpa using h)]; simp
theorem labTx_sub {m : Mc} {k : Nat} {x : ByteArray} (h : x ∈ labTx m k) : x ∈ usedL m := by
  unfold labTx at h
  unfold usedL
  rw [List.mem_map] at h ⊢
  obtain ⟨y, hy, e⟩ := h
  rw [List.mem_filter] at hy
  exact ⟨y, List.mem_filter.2 ⟨List.mem_of_mem_take hy.1, hy.2⟩, e⟩
theorem labTx_len (m : Mc) (k : Nat) : (labTx m k).length ≤ k := by
  unfold labTx
  rw [List.length_map]
  refine Nat.le_trans (List.length_filter_le _ _) ?_
  rw [List.length_take]; omega
theorem name_size {s : ByteArray} (h : nameOk s = true) : s.size ≤ 32 := ((nameOk_iff s).1 h).2.1
theorem lab_szs {m : Mc} (h : Ok m) (k : Nat) : Szs (risen (labTx m k)) := fun x hx => by
  have := name_size (used_ok h (labTx_sub (mem_risen.1 hx)))
  omega
theorem used_szs (m : Mc) : Szs (usedV m) := fun x hx => by
  by_cases h : Ok m
  · have := name_size (used_ok h ((mem_usedV h).1 hx)); omega
  · rw [usedV_no h] at hx; cases hx
/-- What lies in a machine's box, whichever the world. -/
theorem Bx.nxv {W : World} {b : Nat} {C : Array Value} {m : Mc} (h : Bx W b C m) {v : Value} (hv : C[257]? = some v) : W.cell? ⟨b, 257, none⟩ = some v ∧ RS W.heap.size W v m.nx := by
  obtain ⟨u, h1, h2⟩ := h.is.nx
  rw [hv] at h1; cases h1
  exact ⟨(Ar.at' h.ar 257).trans hv, h2⟩
theorem Bx.lbv {W : World} {b : Nat} {C : Array Value} {m : Mc} (h : Bx W b C m) {v : Value} (hv : C[258]? = some v) : W.cell? ⟨b, 258, none⟩ = some v ∧ IS W.heap.size W v m.lb := by
  obtain ⟨u, h1, h2⟩ := h.is.lb
  rw [hv] at h1; cases h1
  exact ⟨(Ar.at' h.ar 258).trans hv, h2⟩
theorem Bx.nmv {W : World} {b : Nat} {C : Array Value} {m : Mc} (h : Bx W b C m) {v : Value} (hv : C[259]? = some v) : W.cell? ⟨b, 259, none⟩ = some v ∧ TS W.heap.size W v m.nm := by
  obtain ⟨u, h1, h2⟩ := h.is.nm
  rw [hv] at h1; cases h1
  exact ⟨(Ar.at' h.ar 259).trans hv, h2⟩
theorem IsM.slices {B : Nat} {w : World} {C : Array Value} {m : Mc} (h : IsM B w C m) : ∃ (a1 a2 a3 : Option Addr) (c1 c2 c3 : Nat), C[257]? = some (.slice a1 m.nx.length c1) ∧ C[258]? = some (.slice a2 m.lb.length c2) ∧ C[259]? = some (.slice a3 m.nm.length c3) := by
  obtain ⟨v1, x1, h1⟩ := h.nx
  obtain ⟨v2, x2, h2⟩ := h.lb
  obtain ⟨v3, x3, h3⟩ := h.nm
  obtain ⟨a1, c1, rfl, _⟩ := h1.open
  obtain ⟨a2, c2, rfl, _⟩ := h2.open
  obtain ⟨a3, c3, rfl, _⟩ := h3.open
  exact ⟨a1, a2, a3, c1, c2, c3, x1, x2, x3⟩

theorem IS.cell {B : Nat} {w : World} {a : Option Addr} {n c : Nat} {l : List Int} (h : IS B w (.slice a n c) l) {i : Nat} (hi : i < l.length) : ∃ b o : Nat, a = some ⟨b, o, none⟩ ∧ b < B ∧ w.cell? ⟨b, o + i, none⟩ = some (.int .i64 (l.getD i 0)) := by
  obtain ⟨a', cap, he, _, _, g⟩ := h.open
  simp only [Value.slice.injEq] at he
  obtain ⟨rfl, _, _⟩ := he
  exact g i hi
theorem TS.cell {B : Nat} {w : World} {a : Option Addr} {n c : Nat} {l : List ByteArray} (h : TS B w (.slice a n c) l) {i : Nat} (hi : i < l.length) : ∃ b o : Nat, a = some ⟨b, o, none⟩ ∧ b < B ∧ w.cell? ⟨b, o + i, none⟩ = some (.string (l.getD i ByteArray.empty)) := by
  obtain ⟨a', cap, he, _, _, g⟩ := h.open
  simp only [Value.slice.injEq] at he
  obtain ⟨rfl, _, _⟩ := he
  exact g i hi

set_option maxRecDepth 100000 in
set_option maxHeartbeats 4000000 in
theorem refUsed_any {C : Array Value} {m : Mc} (w : World) (h : IsM w.heap.size w C m) :
    Calls Try.prog 9 #[.agg C] w fun e w' => ∃ v, e = .returned v ∧ OS w' w.heap.size v (usedV m) ∧ Below w.heap.size w w' := by
  have hx := Bx.new h
  have hb0 : Below w.heap.size w (w.alloc (.cells C 27)) := (Below.refl _ _).alloc (Nat.le_refl _) _
  have ho0 := OS.empty (w.alloc (.cells C 27))
  rw [World.size_alloc] at ho0
  have HX := Lib.hid (hx.alloc (.cells #[] 9))
  have HB0 := Lib.hid (hb0.alloc hb0.size (.cells #[] 9))
  have HO0 := Lib.hid ho0
  obtain ⟨a1, a2, a3, c1, c2, c3, k1, k2, k3⟩ := h.slices
  have HK := Lib.hid (show C[258]? = some (.slice a2 m.lb.length c2) ∧ C[259]? = some (.slice a3 m.nm.length c3) from ⟨k2, k3⟩)
  clear h hx hb0 ho0 k1 k2 k3
  go_enter Try.func9, Try.ntmps9
  go_wp2_with (refine wpList_load_dfa rfl (.tmp 1) rfl rfl HX.out ?_)
  refine (refRightD_any _ HX.out.is).mono ?_
  rintro e w1 ⟨hs, hb1⟩
  have HX1 := Lib.hid (HX.out.below hb1)
  have HB1 := Lib.hid (HB0.out.trans (hb1.mono HB0.out.size))
  have HO1 := Lib.hid (HO0.out.below hb1)
  have HSZ := Lib.hid (show w.heap.size + 1 ≤ w1.heap.size by have := hb1.size; simp at this; omega)
  clear hb1 HX HB0 HO0
  rcases hs.elim with ⟨rfl, hk⟩ | ⟨rfl, hk⟩
  · have HOK := Lib.hid hk
    have hn65 := hk.lbs.2.1
    have hn64 := hk.nms.1
    obtain ⟨n, hn⟩ : ∃ n, n = m.lb.length := ⟨_, rfl⟩
    obtain ⟨n3, hn3⟩ : ∃ n, n = m.nm.length := ⟨_, rfl⟩
    have HN := Lib.hid (show n = m.lb.length ∧ n3 = m.nm.length from ⟨hn, hn3⟩)
    rw [← hn, ← hn3] at HK
    have hni : (n : Int) ≤ 65536 := by omega
    have hni3 : (n3 : Int) ≤ 64 := by omega
    clear hs hk hn65 hn64 hn hn3
    go_wp2_with fail
    obtain ⟨B, hB⟩ : ∃ B, B = w.heap.size := ⟨_, rfl⟩
    have HBE := Lib.hid hB
    have HBW : Hid (∀ W, Below (B + 1) w1 W → Below w.heap.size w W) := Lib.hid fun W hW => HB1.out.trans (hW.mono (by rw [HBE.out]; exact Nat.le_succ _))
    rw [← hB] at HX1 HO1 HSZ ⊢
    clear hB
    go_loopw [3, 4] (fun u i wr => ∃ k : Nat, k ≤ n ∧ i = .int .i64 k ∧ OS wr (B + 1) u (risen (labTx m k)) ∧ Bx wr B C m ∧ Below (B + 1) w1 wr) (fun _ i _ => n - (intOf i).toNat)
    case atStart => exact ⟨0, Nat.zero_le _, rfl, HO1.out, HX1.out, Below.refl _ _⟩
    case round =>
      obtain ⟨k, hk, rfl, hO, hX, hb⟩ := hrel
      have hlen : (risen (labTx m k)).length ≤ 65536 := by have := risen_len (labTx m k); have := labTx_len m k; omega
      have HPU := Lib.hid (fun x => put_any wr.drew (hO.below (Below.refl _ _).drew) (by show B + 1 ≤ wr.heap.size; exact Nat.le_trans HSZ.out hb.size) x (by omega) (lab_szs HOK.out k))
      obtain ⟨au, cu, rfl, _, _⟩ := hO.len
      obtain ⟨L, hL⟩ : ∃ L, L = (risen (labTx m k)).length := ⟨_, rfl⟩
      rw [← hL] at hO HPU ⊢
      have HO := Lib.hid hO; have HXX := Lib.hid hX; have HB := Lib.hid hb; have HLE := Lib.hid hL
      obtain ⟨y2, hI⟩ := hX.lbv HK.out.1
      obtain ⟨y3, hT⟩ := hX.nmv HK.out.2
      clear hO hb hlen hL hX
      by_cases hlt : k < n
      · obtain ⟨b2, o2, rfl, hb2, hc2⟩ := hI.cell (i := k) (by rw [← HN.out.1]; exact hlt)
        have HLT := Lib.hid hlt
        by_cases hx0 : 0 < m.lb.getD k 0
        · have HE := Lib.hid (labTx_yes (by rw [← HN.out.1]; exact hlt) hx0)
          have hnm := HOK.out.nmAt (by rw [← HN.out.1]; exact hlt) hx0
          obtain ⟨t, ht⟩ : ∃ t : Nat, m.lb.getD k 0 = (t : Int) + 1 := ⟨(m.lb.getD k 0).toNat - 1, by omega⟩
          have htn : (m.lb.getD k 0).toNat - 1 = t := by omega
          rw [htn] at hnm
          have HNM := Lib.hid (show nmAt m (m.lb.getD k 0) = m.nm.getD t ByteArray.empty by unfold nmAt; rw [htn])
          obtain ⟨b3, o3, rfl, hb3, hc3⟩ := hT.cell (i := t) hnm
          rw [ht] at hc2
          rw [← HN.out.2] at hnm
          obtain ⟨x, hx⟩ : ∃ x, x = m.nm.getD t ByteArray.empty := ⟨_, rfl⟩
          rw [← hx] at hc3
          have HX3 := Lib.hid hx
          have t0 : decide (0 < (t : Int) + 1) = true := by simp <;> omega
          have hw2 : IntKind.i64.wrap (t : Int) = t := by rw [IntKind.wrap_i64]; omega
          have hw1 : wrap64 ((t : Int) + 1 - 1) = t := by unfold wrap64; omega
          have d2 : wr.drew.cell? ⟨B, 258, none⟩ = some (.slice (some ⟨b2, o2, none⟩) n c2) := y2
          have d3 : wr.drew.cell? ⟨B, 259, none⟩ = some (.slice (some ⟨b3, o3, none⟩) n3 c3) := y3
          have e2 : wr.drew.cell? ⟨b2, o2 + k, none⟩ = some (.int .i64 ((t : Int) + 1)) := hc2
          have e3 : wr.drew.cell? ⟨b3, o3 + t, none⟩ = some (.string x) := hc3
          have HDR := Lib.hid (show Below wr.heap.size wr wr.drew from (Below.refl _ _).drew)
          clear hI hT hx hx0 ht htn hb2 hb3
          go_wp2_with fail
          go_still_tail 11, (by kernel_rfl)
          change wpList _ _ _ _ _ wr.drew
          generalize wr.drew = wd at *
          clear y2 y3 hc2 hc3
          go_wp2_with fail
          refine (HPU.out x).mono ?_
          rintro e w2 ⟨v', rfl, ho, hb2⟩
          have hb3 := HDR.out.trans (hb2.mono HDR.out.size)
          have HO2 := Lib.hid ho
          have HX2 := Lib.hid (HXX.out.below hb3)
          have HB2 := Lib.hid (HB.out.trans (hb3.mono (Nat.le_trans HSZ.out HB.out.size)))
          clear ho hb2 hb3 d2 d3 e2 e3
          obtain ⟨a', c', rfl, _, _⟩ := HO2.out.len
          go_wp2_with fail
          refine ⟨⟨k + 1, HLT.out, by go_num, ?_, HX2.out, HB2.out⟩, by have := HLT.out; simp [intOf]; omega⟩
          rw [HE.out, risen_snoc, HNM.out, ← HX3.out]
          exact HO2.out
        · have HE := Lib.hid (labTx_no (by rw [← HN.out.1]; exact hlt) hx0)
          obtain ⟨x, hx⟩ : ∃ x, x = m.lb.getD k 0 := ⟨_, rfl⟩
          rw [← hx] at hc2 hx0
          have t0 : decide (0 < x) = false := by simpa using hx0
          clear hI hT hx hx0 hb2
          go_wp2_with fail
          refine ⟨⟨k + 1, HLT.out, by go_num, ?_, HXX.out, HB.out⟩, by have := HLT.out; simp [intOf]; omega⟩
          rw [HE.out]
          exact HO.out
      · have hkn : k = n := by omega
        have HE := Lib.hid (show risen (labTx m k) = usedV m by rw [hkn, HN.out.1, labTx_all, usedV_yes HOK.out])
        clear hkn hI hT
        go_wp2_with fail
        go_ret
        refine ⟨_, rfl, ?_, HBW.out _ HB.out⟩
        rw [← HE.out, ← HBE.out]
        exact owns_base HO.out (Nat.le_succ _)
  · have HE := Lib.hid (usedV_no hk)
    clear hs hk
    go_wp2_with fail
    go_ret
    refine ⟨_, rfl, ?_, HB1.out⟩
    rw [HE.out]
    exact owns_base HO1.out (Nat.le_succ _)
end Go.Proofs.Ytlfmkiendaecaaa.DfaW
