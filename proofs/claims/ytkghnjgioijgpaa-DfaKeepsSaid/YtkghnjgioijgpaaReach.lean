/- Walks of Reach, in both texts. -/
import Derived.Test.YtkghnjgioijgpaaLists
namespace Go.Proofs.Ytkghnjgioijgpaa.DfaW
set_option linter.unusedVariables false
open Go.RowKit Go.Maps Go.Proofs.Ytkghnjgioijgpaa.PartM Go.Proofs.Ytkghnjgioijgpaa.PartW Go.Proofs.Ytkghnjgioijgpaa.DfaM

/-- The rows as natural numbers. -/
def leads (m : Mc) : List (List Nat) := m.nx.map fun r => r.map Int.toNat
def nbM (m : Mc) : Nat → List Nat := fun s => (leads m).getD s []
theorem castL_toNat {r : List Int} (h : ∀ i, i < r.length → 0 ≤ r.getD i 0) : castL (r.map Int.toNat) = r := by
  unfold castL
  rw [List.map_map]
  refine (List.map_congr_left (g := id) fun x hx => ?_).trans (List.map_id r)
  obtain ⟨i, hi, rfl⟩ := List.mem_iff_getElem.1 hx
  have := h i hi
  rw [List.getD_eq_getElem?_getD, List.getElem?_eq_getElem hi] at this
  have h2 : 0 ≤ r[i] := this
  show ((r[i].toNat : Nat) : Int) = r[i]
  omega
theorem Ok.leads {m : Mc} (h : Ok m) : castLL (leads m) = m.nx := by
  unfold castLL DfaW.leads
  rw [List.map_map]
  refine (List.map_congr_left (g := id) fun r hr => ?_).trans (List.map_id _)
  obtain ⟨s, hs, rfl⟩ := List.mem_iff_getElem.1 hr
  have := (h.rws.2 s hs).2
  rw [List.getD_eq_getElem?_getD, List.getElem?_eq_getElem hs] at this
  exact castL_toNat fun i hi => (this i hi).1
theorem Ok.leads_len {m : Mc} (h : Ok m) : (DfaW.leads m).length = m.lb.length := by
  unfold DfaW.leads; rw [List.length_map]; exact h.len
theorem nbM_at (m : Mc) (s : Nat) : nbM m s = (m.nx.getD s []).map Int.toNat := by
  unfold nbM leads
  rw [List.getD_eq_getElem?_getD, List.getD_eq_getElem?_getD, List.getElem?_map]
  cases m.nx[s]? <;> rfl
theorem nbM_get (m : Mc) (s k : Nat) : (nbM m s).getD k 0 = at2 m.nx s k := by
  rw [nbM_at]
  unfold at2
  generalize m.nx.getD s [] = r
  rcases Nat.lt_or_ge k r.length with h | h
  · simp [List.getD, h]
  · simp [List.getD, h]
/-- What is read of a row, at whatever world that has grown out of W0. -/
theorem read_row {W0 W : World} {b : Nat} {C : Array Value} {m : Mc} (hx : Bx W0 b C m) (hk : Ok m) (hb : Below W0.heap.size W0 W) {s j K : Nat} (hs : s < m.lb.length) (hK : m.wd = (K : Nat)) (hj : j < K) :
    ∃ (b1 o1 c1 b2 o2 c2 : Nat), W.cell? ⟨b, 257, none⟩ = some (.slice (some ⟨b1, o1, none⟩) m.lb.length c1) ∧ W.cell? ⟨b1, o1 + s, none⟩ = some (.slice (some ⟨b2, o2, none⟩) K c2) ∧
      W.cell? ⟨b2, o2 + j, none⟩ = some (.int .i64 (at2 m.nx s j : Nat)) := by
  obtain ⟨v1, x1, hv1⟩ := hx.nx
  obtain ⟨a1, c1, rfl, p1, p2, p3⟩ := hv1.open
  obtain ⟨b1, o1, vi, rfl, h1, h2, h3⟩ := p3 s (by rw [hk.len]; exact hs)
  obtain ⟨ar, cr, rfl, q1, q2, q3⟩ := h3.open
  have hrow := hk.row hs
  have hlen : (m.nx.getD s []).length = K := by omega
  obtain ⟨b2, o2, rfl, g1, g2⟩ := q3 j (by omega)
  have hst := (hk.cell hs (c := j) (by omega)).1
  rw [hlen] at h2
  refine ⟨b1, o1, c1, b2, o2, cr, ?_, (hb.cell (p := ⟨b1, _, none⟩) h1).trans h2, ?_⟩
  · rw [← hk.len]; exact (hb.cell (p := ⟨b, _, none⟩) hx.ar.lt).trans x1
  · rw [← hst]; exact (hb.cell (p := ⟨b2, _, none⟩) g1).trans g2
theorem Ok.nb_len {m : Mc} (h : Ok m) {s : Nat} (hs : s < m.lb.length) : ((nbM m s).length : Int) = m.wd := by
  rw [nbM_at, List.length_map]; exact h.row hs
theorem Ok.nb_lt {m : Mc} (h : Ok m) {s : Nat} (hs : s < m.lb.length) : ∀ t ∈ nbM m s, t < m.lb.length := fun t ht => by
  obtain ⟨k, hk, rfl⟩ := List.mem_iff_getElem.1 ht
  have h1 := h.nb_len hs
  have h2 := (h.cell hs (c := k) (by omega)).2
  rw [← nbM_get] at h2
  simpa [List.getD, hk] using h2
theorem Ok.in0 {m : Mc} (h : Ok m) : In (nbM m) [0] m.lb.length := ⟨fun x hx => by rw [List.mem_singleton.1 hx]; exact h.zero, fun s hs => h.nb_lt hs⟩
/-- The states at which a machine may be. -/
def reachL (m : Mc) : List Nat := fin (nbM m) [0] m.lb.length
open Classical in
noncomputable def reachV (m : Mc) : List Nat := if Ok m then reachL m else []
theorem reachV_yes {m : Mc} (h : Ok m) : reachV m = reachL m := if_pos h
theorem reachV_no {m : Mc} (h : ¬ Ok m) : reachV m = [] := if_neg h
theorem reach_len {m : Mc} (h : Ok m) : (reachL m).length ≤ m.lb.length := h.in0.len _

set_option maxRecDepth 100000 in
set_option maxHeartbeats 2000000 in
theorem Reach_any {C : Array Value} {m : Mc} (w : World) (h : IsM w.heap.size w C m) :
    Calls Try.prog 21 #[.agg C] w fun e w' => ∃ v, e = .returned v ∧ OI w' w.heap.size v (castL (reachV m)) ∧ Below w.heap.size w w' := by
  have hx := Bx.new h
  have hb0 : Below w.heap.size w (w.alloc (.cells C 27)) := (Below.refl _ _).alloc (Nat.le_refl _) _
  have HR := Lib.hid (RightD_any (w.alloc (.cells C 27)) hx.is)
  have HX := Lib.hid hx; have HB0 := Lib.hid hb0
  clear h hx hb0
  go_enter Try.func21, Try.ntmps21
  go_wp2_with (refine wpList_load_dfa rfl (.tmp 1) rfl rfl HX.out ?_)
  refine HR.out.mono ?_
  rintro e w1 ⟨hs, hb1⟩
  have HX1 := Lib.hid (HX.out.below hb1)
  have HB1 := Lib.hid (HB0.out.trans (hb1.mono HB0.out.size))
  rcases hs.elim with ⟨rfl, hn⟩ | ⟨rfl, hn⟩
  · have HK := Lib.hid hn
    have HE := Lib.hid (reachV_yes hn)
    clear hs hn hb1
    have hx2 := HX1.out.alloc (.cells #[.int .i64 0] 3)
    obtain ⟨v1, x1, hv1⟩ := hx2.nx
    have h0 : IS (w1.alloc (.cells #[.int .i64 0] 3)).heap.size (w1.alloc (.cells #[.int .i64 0] 3)) (.slice (some ⟨w1.heap.size, 0, none⟩) 1 1) (castL [0]) := by
      refine ⟨_, 1, rfl, Nat.le_refl _, by decide, fun i hi => ⟨w1.heap.size, 0, rfl, by simp, ?_⟩⟩
      obtain rfl : i = 0 := by simpa [castL] using hi
      rw [World.cell?_alloc_new]; rfl
    rw [← HK.out.leads] at hv1
    have HRE := Lib.hid (reached_any _ h0 hv1 HK.out.leads_len HK.out.in0 HK.out.zero HK.out.lbs.2.1)
    obtain ⟨a1, c1, rfl, _, _, _⟩ := hv1.open
    have HB2 := Lib.hid (HB1.out.alloc HB1.out.size (.cells #[.int .i64 0] 3))
    clear hx2 h0 hv1
    go_wp2_with fail
    refine HRE.out.mono ?_
    rintro e w2 ⟨v, rfl, ho, hb⟩
    have HO := Lib.hid (show OI w2 w.heap.size v (castL (reachV m)) by
      rw [HE.out]
      exact OI.of_iv (owns_base ho HB2.out.size))
    have HB3 := Lib.hid (HB2.out.trans (hb.mono HB2.out.size))
    obtain ⟨a, c, rfl, _, _⟩ := HO.out.len
    clear ho hb x1
    go_wp2_with fail
    go_ret
    exact ⟨_, rfl, HO.out, HB3.out⟩
  · have HE := Lib.hid (reachV_no hn)
    clear hs hn hb1
    go_wp2_with fail
    go_ret
    exact ⟨_, rfl, by rw [HE.out]; exact OI.nil _ _, HB1.out⟩
theorem OI.at {w : World} {base : Nat} {a : Option Addr} {n c : Nat} {l : List Int} (h : OI w base (.slice a n c) l) {i : Nat} (hi : i < l.length) : ∃ g : Nat, a = some ⟨g, 0, none⟩ ∧ w.cell? ⟨g, i, none⟩ = some (.int .i64 (l.getD i 0)) := by
  have h' := h
  rcases h.2 with ⟨h1, h2⟩ | ⟨g, cap, cur, h1, hg, hh, hn, hc, hs, hx⟩
  · omega
  · simp only [Value.slice.injEq] at h1
    obtain ⟨rfl, rfl, rfl⟩ := h1
    refine ⟨g, rfl, ?_⟩
    rw [World.ownsRow.cellAt h' i (by omega)]
    simp [List.getD, hi]
set_option maxRecDepth 100000 in
set_option maxHeartbeats 4000000 in
theorem refReach_any {C : Array Value} {m : Mc} (w : World) (h : IsM w.heap.size w C m) (hk : Ok m) :
    Calls Try.prog 25 #[.agg C] w fun e w' => ∃ v, e = .returned v ∧ OI w' w.heap.size v (castL (reachL m)) ∧ Below w.heap.size w w' := by
  have hx := Bx.new h
  have hb0 : Below w.heap.size w (w.alloc (.cells C 27)) := (Below.refl _ _).alloc (Nat.le_refl _) _
  have HX := Lib.hid hx; have HB0 := Lib.hid hb0; have HK := Lib.hid hk
  have HIN := Lib.hid hk.in0
  obtain ⟨n, hn⟩ : ∃ n, n = m.lb.length := ⟨_, rfl⟩
  have HN := Lib.hid hn
  have hn2 : (n : Int) ≤ 65536 := by have := hk.lbs.2.1; omega
  obtain ⟨K, hK⟩ : ∃ K : Nat, m.wd = K := ⟨_, hk.wd⟩
  have HWD := Lib.hid hK
  have hK2 : (K : Int) ≤ 256 := by have := rk_le (E := byKey m.of) 256; have := hk.wd; omega
  have ho0 : OI ((w.alloc (.cells C 27)).alloc (.cells #[.int .i64 0] 3)) (w.alloc (.cells C 27)).heap.size (.slice (some ⟨w.heap.size + 1, 0, none⟩) 1 1) (castL (bfs (nbM m) [0] 0)) := by
    refine ⟨rfl, .inr ⟨w.heap.size + 1, 1, #[.int .i64 0], rfl, by simp, ?_, Nat.le_refl _, by decide, rfl, rfl⟩⟩
    have := Ar.new (w.alloc (.cells C 27)) #[.int .i64 0] 3
    rw [World.size_alloc] at this; exact this
  have HO0 := Lib.hid ho0
  clear h hx hb0 hk ho0 hn hK
  go_enter Try.func25, Try.ntmps25
  go_wp2_with fail
  obtain ⟨B, hB⟩ : ∃ B, B = w.heap.size := ⟨_, rfl⟩
  have HBE := Lib.hid hB
  have HW0 := Lib.hid (show Below (w.alloc (.cells C 27)).heap.size (w.alloc (.cells C 27)) ((w.alloc (.cells C 27)).alloc (.cells #[.int .i64 0] 3)) from (Below.refl _ _).alloc (Nat.le_refl _) _)
  have HSZ := Lib.hid (show w.heap.size ≤ (w.alloc (.cells C 27)).heap.size by simp)
  rw [← hB] at HX HO0 ⊢
  clear hB
  generalize ((w.alloc (.cells C 27)).alloc (.cells #[.int .i64 0] 3)) = W1 at *
  generalize (w.alloc (.cells C 27)) = W0 at *
  go_loopw [3, 4] (fun u i wr => ∃ k : Nat, k ≤ n ∧ i = .int .i64 k ∧ OI wr W0.heap.size u (castL (bfs (nbM m) [0] k)) ∧ Below W0.heap.size W0 wr) (fun _ i _ => n - (intOf i).toNat)
  case atStart => exact ⟨0, Nat.zero_le _, rfl, HO0.out, HW0.out⟩
  case round =>
    obtain ⟨k, hkn, rfl, hO, hb⟩ := hrel
    clear HO0 HW0
    have hlen := HIN.out.len k
    obtain ⟨o, ho⟩ : ∃ o, o = bfs (nbM m) [0] k := ⟨_, rfl⟩
    rw [← ho] at hO hlen
    have HOE := Lib.hid ho
    obtain ⟨a, c, rfl, _, _⟩ := hO.len
    rw [castL_len] at hO ⊢
    obtain ⟨L, hL⟩ : ∃ L, L = o.length := ⟨_, rfl⟩
    have HLL := Lib.hid hL
    rw [← hL] at hO hlen ⊢
    have hLi : (L : Int) ≤ 65536 := by have := HN.out; omega
    have HO := Lib.hid hO; have HB := Lib.hid hb
    clear hO hb hL ho
    by_cases hlt : k < L
    · obtain ⟨s, hs⟩ : ∃ s, s = o.getD k 0 := ⟨_, rfl⟩
      have hget : o[k]? = some s := by rw [hs, List.getD_eq_getElem?_getD, List.getElem?_eq_getElem (by rw [← HLL.out]; exact hlt)]; rfl
      have HNX := Lib.hid (show bfs (nbM m) [0] (k + 1) = puts o (nbM m s) by rw [HOE.out]; rw [HOE.out] at hget; exact bfs_next hget)
      have hsn : s < n := by rw [HN.out]; exact HIN.out.lt k s (by rw [← HOE.out]; exact List.mem_of_getElem? hget)
      have HGET := Lib.hid hget; have HSN := Lib.hid hsn; have HLT := Lib.hid hlt
      have HOL := Lib.hid (show ∀ x ∈ o, x < n by rw [HOE.out, HN.out]; exact HIN.out.lt k)
      have HOD := Lib.hid (show o.Nodup by rw [HOE.out]; exact bfs_nodup k)
      have HNB := Lib.hid (show ∀ x ∈ nbM m s, x < n by rw [HN.out]; exact HK.out.nb_lt (by rw [← HN.out]; exact hsn))
      have HNL := Lib.hid (show (nbM m s).length = K by have h1 := HK.out.nb_len (s := s) (by rw [← HN.out]; exact hsn); have h2 := HWD.out; omega)
      clear hs hget hsn hlen
      go_wp2_with fail
      go_loopw [3, 5] (fun u i wr => ∃ j : Nat, j ≤ K ∧ i = .int .i64 j ∧ OI wr W0.heap.size u (castL (puts o ((nbM m s).take j))) ∧ Below W0.heap.size W0 wr) (fun _ i _ => K - (intOf i).toNat)
      case atStart => exact ⟨0, Nat.zero_le _, rfl, by simpa [puts, castL_len, HLL.out] using HO.out, HB.out⟩
      case round =>
        obtain ⟨j, hj, rfl, hO, hb⟩ := hrel
        clear HO HB
        have HPO := Lib.hid (puts_ok (ts := (nbM m s).take j) HOD.out HOL.out (fun y hy => HNB.out y (List.mem_of_mem_take hy)))
        have hpre := puts_prefix (ts := (nbM m s).take j) o
        have hTK := fun h => puts_take o (nbM m s) (j := j) h
        obtain ⟨o1, ho1⟩ : ∃ o1, o1 = puts o ((nbM m s).take j) := ⟨_, rfl⟩
        rw [← ho1] at hO HPO hpre hTK
        obtain ⟨a, c, rfl, _, _⟩ := hO.len
        have HO1 := Lib.hid ho1
        have hx0 : wr.cell? ⟨B, 256, none⟩ = some (.int .i64 (K : Nat)) := by rw [← HWD.out]; exact (HX.out.below hb).wd
        by_cases hlj : j < K
        · obtain ⟨b1, o1', c1, b2, o2, c2, y1, y2, y3⟩ := read_row HX.out HK.out hb.drew (show s < m.lb.length by rw [← HN.out]; exact HSN.out) HWD.out hlj
          have hget1 : o1[k]? = some s := by
            obtain ⟨r, hr⟩ := hpre
            rw [← hr, List.getElem?_append_left (by rw [← HLL.out]; exact HLT.out)]
            exact HGET.out
          have hk1 := (List.getElem?_eq_some_iff.1 hget1).1
          obtain ⟨g, rfl, hgc⟩ := OI.at (hO.below (Below.refl _ _).drew) (i := k) (by rw [castL_len]; exact hk1)
          rw [castL_at, show o1.getD k 0 = s by rw [List.getD_eq_getElem?_getD, hget1]; rfl] at hgc
          rw [castL_len] at hO ⊢
          obtain ⟨L1, hL1⟩ : ∃ L1, L1 = o1.length := ⟨_, rfl⟩
          have HL1 := Lib.hid hL1
          rw [← hL1] at hO hk1 ⊢
          have hL1i : (L1 : Int) ≤ 65536 := by have := HPO.out.2.2; have := HN.out; omega
          rw [← HN.out] at y1
          have htk := hTK (by rw [HNL.out]; exact hlj)
          rw [nbM_get] at htk
          obtain ⟨t, ht⟩ : ∃ t, t = at2 m.nx s j := ⟨_, rfl⟩
          rw [← ht] at y3 htk
          have HTK := Lib.hid htk
          have hO' : OI wr.drew W0.heap.size (.slice (some ⟨g, 0, none⟩) L1 c) (castL o1) := hO.below (Below.refl _ _).drew
          have hsz1 := HSZ.out
          have HOI := Lib.hid hO'
          have HHAS := Lib.hid (Has_any _ hO'.is t)
          have HB := Lib.hid hb.drew
          have HLJ := Lib.hid hlj
          have hsn := HSN.out
          clear hO hO' hb hpre hTK ho1 hget1 hL1 ht htk
          go_wp2_with fail
          go_region
          clear hgc y1 y2 y3
          generalize wr.drew = wd at *
          go_wp2_with fail
          refine HHAS.out.mono ?_
          rintro e w2 ⟨rfl, rfl⟩
          by_cases hmem : t ∈ o1
          · have HE := Lib.hid (show puts o ((nbM m s).take (j + 1)) = o1 by rw [HTK.out, put_old hmem])
            rw [decide_eq_true hmem]
            clear hmem
            go_wp2_with fail
            exact ⟨⟨j + 1, HLJ.out, by go_num, by rw [HE.out]; exact HOI.out, HB.out⟩, by have := HLJ.out; simp [intOf]; omega⟩
          · have HE := Lib.hid (show puts o ((nbM m s).take (j + 1)) = o1 ++ [t] by rw [HTK.out, put_new hmem])
            rw [decide_eq_false hmem]
            have HO2 := Lib.hid (HOI.out.below ((Below.refl _ wd).alloc (Nat.le_refl _) (.cells #[.int .i64 (t : Int)] 3)))
            clear hmem
            go_wp2_with (at_builtin; refine wpList_append_int rfl _ _ rfl rfl HO2.out (by have := HB.out.size; simp; omega) ⟨wd.heap.size, 0, none⟩ 1 (t : Int) rfl (by rw [World.cell?_alloc_new]; rfl) rfl (by rw [castL_len]; have := HPO.out.2.2; have := HN.out; omega) ?_; intro v' w3 hO3 hb3; have HO3 := Lib.hid hO3; have HB3 := Lib.hid hb3; obtain ⟨a3, c3, rfl, _, _⟩ := hO3.len; clear hO3 hb3)
            refine ⟨⟨j + 1, HLJ.out, by go_num, ?_, ?_⟩, by have := HLJ.out; simp [intOf]; omega⟩
            · rw [HE.out]
              have := HO3.out
              simpa [castL] using this
            · exact (HB.out.alloc HB.out.size _).trans HB3.out
        · have hjK : j = K := by omega
          have HE := Lib.hid (show o1 = bfs (nbM m) [0] (k + 1) by rw [HNX.out, HO1.out, hjK, List.take_of_length_le (by rw [HNL.out]; exact Nat.le_refl _)])
          have HO := Lib.hid hO; have HB := Lib.hid hb
          rw [castL_len] at HO ⊢
          obtain ⟨L1, hL1⟩ : ∃ L1, L1 = o1.length := ⟨_, rfl⟩
          rw [← hL1] at HO ⊢
          clear hO hb hjK ho1 hpre hTK hL1
          have hlt := HLT.out
          go_wp2_with fail
          refine ⟨⟨k + 1, by have := HLT.out; have := HIN.out.len (l := [0]) k; rw [← HOE.out, ← HLL.out, ← HN.out] at this; omega, by go_num, by rw [← HE.out]; exact HO.out, HB.out⟩, ?_⟩
          have := HLT.out
          have := HIN.out.len (l := [0]) k
          rw [← HOE.out, ← HLL.out, ← HN.out] at this
          simp [intOf]; omega
    · have HE := Lib.hid (show reachL m = o by
        unfold reachL
        rw [HOE.out, fin_of HIN.out (k := k) (by rw [← HN.out]; exact hkn) (by rw [← HOE.out, ← HLL.out]; omega)])
      go_wp2_with fail
      go_ret
      exact ⟨_, rfl, by rw [HE.out]; exact owns_base HO.out HSZ.out, HB0.out.trans (HB.out.mono HSZ.out)⟩
end Go.Proofs.Ytkghnjgioijgpaa.DfaW
