/- Walk of the document's Live. -/
import Derived.Test.YtkghnjgioijgpaaPut
namespace Go.Proofs.Ytkghnjgioijgpaa.DfaW
set_option linter.unusedVariables false
open Go.RowKit Go.Maps Go.Proofs.Ytkghnjgioijgpaa.PartM Go.Proofs.Ytkghnjgioijgpaa.PartW Go.Proofs.Ytkghnjgioijgpaa.DfaM

/-- A rising list of some of the states that can come to a label, all that have one among them. -/
structure Lv (m : Mc) (o : List Nat) : Prop where
  rise : o.Pairwise (· < ·)
  into : ∀ x ∈ o, x ∈ finA m
  base : ∀ x ∈ labS m.lb, x ∈ o
/-- Nothing more comes of the states below k. -/
def Shut (m : Mc) (o : List Nat) (k : Nat) : Prop := ∀ s, s < k → (∃ t ∈ nbM m s, t ∈ o) → s ∈ o
theorem finA_step {m : Mc} (h : Ok m) {s t : Nat} (hs : s < m.lb.length) (ht : t ∈ nbM m s) (hf : t ∈ finA m) : s ∈ finA m := by
  have htn := h.nb_lt hs t ht
  refine fin_closed (inA m) hf s ?_
  rw [nbA_at m htn]
  unfold preL
  rw [List.mem_filter, List.mem_range]
  exact ⟨hs, by simpa using ht⟩
theorem Lv.lt {m : Mc} {o : List Nat} (h : Lv m o) : ∀ x ∈ o, x < m.lb.length := fun x hx => (inA m).lt _ x (h.into x hx)
theorem rising_nodup {o : List Nat} (h : o.Pairwise (· < ·)) : o.Nodup := h.imp fun h => Nat.ne_of_lt h
theorem Lv.len {m : Mc} {o : List Nat} (h : Lv m o) : o.length ≤ m.lb.length := nodup_le (rising_nodup h.rise) h.lt
theorem Lv.done {m : Mc} (hk : Ok m) {o : List Nat} (h : Lv m o) (hs : Shut m o m.lb.length) : o = liveL m := by
  refine rising_eq h.rise (live_rising m) fun x => ?_
  rw [mem_live]
  refine ⟨h.into x, fun hx => ?_⟩
  have h2 : ∀ x ∈ finA m, x < m.lb.length ∧ x ∈ o := bfs_all (P := fun x => x < m.lb.length ∧ x ∈ o) (fun x hx => ⟨labS_lt hx, h.base x hx⟩) (fun t ht s hs2 => by
    rw [nbA_at m ht.1] at hs2
    have h3 := preL_lt hs2
    unfold preL at hs2
    rw [List.mem_filter] at hs2
    exact ⟨h3, hs s h3 ⟨t, by simpa using hs2.2, ht.2⟩⟩) _
  exact (h2 x hx).2
theorem Lv.put {m : Mc} {o o' : List Nat} {s : Nat} (h : Lv m o) (hp : PutS o s o') (hs : s ∈ finA m) : Lv m o' :=
  ⟨hp.rise h.rise, fun x hx => ((hp.mem x).1 hx).elim (h.into x) (fun e => e ▸ hs), fun x hx => (hp.mem x).2 (.inl (h.base x hx))⟩
theorem put_more {o o' : List Nat} {s : Nat} (h : o.Pairwise (· < ·)) (hp : PutS o s o') (hs : s ∉ o) : o.length < o'.length := by
  have h1 := nodup_sub_len (s :: o) o' (List.nodup_cons.2 ⟨hs, rising_nodup h⟩) (fun x hx => by
    rcases List.mem_cons.1 hx with e | e
    · exact (hp.mem x).2 (.inr e)
    · exact (hp.mem x).2 (.inl e))
  simp at h1
  omega
theorem labTo_rising (lb : List Int) (k : Nat) : (labTo lb k).Pairwise (· < ·) := (range_rising k).filter _
theorem labTo_lt {lb : List Int} {k x : Nat} (h : x ∈ labTo lb k) : x < k := by
  unfold labTo at h
  rw [List.mem_filter, List.mem_range] at h
  exact h.1
theorem labTo_put {lb : List Int} {k : Nat} {l' : List Nat} (h0 : lb.getD k 0 ≠ 0) (h : PutS (labTo lb k) k l') : l' = labTo lb (k + 1) :=
  rising_eq (h.rise (labTo_rising lb k)) (labTo_rising lb (k + 1)) fun x => by rw [h.mem x, labTo_yes h0, List.mem_append, List.mem_singleton]
theorem lv_start (m : Mc) : Lv m (labTo m.lb m.lb.length) := ⟨labTo_rising _ _, fun x hx => fin_base (inA m) x hx, fun x hx => hx⟩
def boolV : Value → Nat
  | .bool true => 1
  | _ => 0

set_option maxRecDepth 100000 in
set_option maxHeartbeats 8000000 in
theorem refLive_any {C : Array Value} {m : Mc} (w : World) (h : IsM w.heap.size w C m) (hk : Ok m) :
    Calls Try.prog 26 #[.agg C] w fun e w' => ∃ v, e = .returned v ∧ OI w' w.heap.size v (castL (liveL m)) ∧ Below w.heap.size w w' := by
  have hx := Bx.new h
  have hb0 : Below w.heap.size w (w.alloc (.cells C 27)) := (Below.refl _ _).alloc (Nat.le_refl _) _
  have HX := Lib.hid hx; have HB0 := Lib.hid hb0; have HK := Lib.hid hk
  obtain ⟨n, hn⟩ : ∃ n, n = m.lb.length := ⟨_, rfl⟩
  have HN := Lib.hid hn
  have hn2 : (n : Int) ≤ 65536 := by have := hk.lbs.2.1; omega
  obtain ⟨K, hK⟩ : ∃ K : Nat, m.wd = K := ⟨_, hk.wd⟩
  have HWD := Lib.hid hK
  have hK2 : (K : Int) ≤ 256 := by have := rk_le (E := byKey m.of) 256; have := hk.wd; omega
  have HO0 := Lib.hid (show OI ((w.alloc (.cells C 27)).alloc (.cells #[] 3)) (w.alloc (.cells C 27)).heap.size (.slice (some ⟨w.heap.size + 1, 0, none⟩) 0 0) (castL (labTo m.lb 0)) from by
    have := OI.empty (w.alloc (.cells C 27))
    rw [World.size_alloc] at this ⊢
    exact this)
  obtain ⟨v2, x2, hv2⟩ := hx.lb
  obtain ⟨a2, c2, rfl, _, _, hl2⟩ := hv2.open
  rw [← hn] at x2 hl2
  have HL2 := Lib.hid hl2
  have HF : Hid (∀ W, Below (w.alloc (.cells C 27)).heap.size (w.alloc (.cells C 27)) W → W.cell? ⟨w.heap.size, 258, none⟩ = some (.slice a2 n c2) ∧ W.cell? ⟨w.heap.size, 256, none⟩ = some (.int .i64 (K : Nat))) :=
    Lib.hid fun W hW => ⟨(hW.cell (p := ⟨w.heap.size, _, none⟩) hx.ar.lt).trans x2, by rw [← hK]; exact (hW.cell (p := ⟨w.heap.size, _, none⟩) hx.ar.lt).trans hx.wd⟩
  clear h hx hb0 hk hn hK hv2 hl2 x2
  go_enter Try.func26, Try.ntmps26
  go_wp2_with fail
  obtain ⟨B, hB⟩ : ∃ B, B = w.heap.size := ⟨_, rfl⟩
  have HBE := Lib.hid hB
  have HW0 := Lib.hid (show Below (w.alloc (.cells C 27)).heap.size (w.alloc (.cells C 27)) ((w.alloc (.cells C 27)).alloc (.cells #[] 3)) from (Below.refl _ _).alloc (Nat.le_refl _) _)
  have HSZ := Lib.hid (show w.heap.size ≤ (w.alloc (.cells C 27)).heap.size by simp)
  rw [← hB] at HX HO0 HF ⊢
  clear hB
  generalize ((w.alloc (.cells C 27)).alloc (.cells #[] 3)) = W1 at *
  generalize (w.alloc (.cells C 27)) = W0 at *
  go_loopw [3, 4] (fun u i wr => ∃ k : Nat, k ≤ n ∧ i = .int .i64 k ∧ OI wr W0.heap.size u (castL (labTo m.lb k)) ∧ Below W0.heap.size W0 wr) (fun _ i _ => n - (intOf i).toNat)
  case atStart => exact ⟨0, Nat.zero_le _, rfl, HO0.out, HW0.out⟩
  case round =>
    obtain ⟨k, hkn, rfl, hO, hb⟩ := hrel
    clear HO0 HW0
    obtain ⟨au, cu, rfl, _, _⟩ := hO.len
    obtain ⟨y2, y1⟩ := HF.out wr hb
    have hll := labTo_len m.lb k
    have HPU := Lib.hid (Put_any wr hO hb.size k (by omega))
    obtain ⟨L, hL⟩ : ∃ L, L = (castL (labTo m.lb k)).length := ⟨_, rfl⟩
    rw [← hL] at hO HPU ⊢
    have HO := Lib.hid hO; have HB := Lib.hid hb; have HLE := Lib.hid hL
    clear hO hb hll hL
    by_cases hlt : k < n
    · obtain ⟨b, o, rfl, hb1, hc1⟩ := HL2.out k hlt
      have c1 := (HB.out.cell (p := ⟨b, o + k, none⟩) hb1).trans hc1
      obtain ⟨x, hx⟩ : ∃ x, x = m.lb.getD k 0 := ⟨_, rfl⟩
      rw [← hx] at c1
      have HLT := Lib.hid hlt
      by_cases hx0 : x = 0
      · have t0 : (x != 0) = false := by simpa using hx0
        have HE := Lib.hid (labTo_no (show m.lb.getD k 0 = 0 by rw [← hx]; exact hx0))
        clear hx0 hx hb1 hc1
        go_wp2_with fail
        exact ⟨⟨k + 1, HLT.out, by go_num, by rw [HE.out]; exact HO.out, HB.out⟩, by have := HLT.out; simp [intOf]; omega⟩
      · have t0 : (x != 0) = true := by simpa using hx0
        have HE := Lib.hid (show m.lb.getD k 0 ≠ 0 by rw [← hx]; exact hx0)
        clear hx0 hx hb1 hc1
        go_wp2_with fail
        refine HPU.out.mono ?_
        rintro e w2 ⟨v', l', rfl, hp, ho, hb2⟩
        obtain rfl := labTo_put HE.out hp
        have HO2 := Lib.hid ho
        have HB2 := Lib.hid (HB.out.trans (hb2.mono HB.out.size))
        clear hp ho hb2 y1 y2 c1
        obtain ⟨a', c', rfl, _, _⟩ := HO2.out.len
        go_wp2_with fail
        exact ⟨⟨k + 1, HLT.out, by go_num, HO2.out, HB2.out⟩, by have := HLT.out; simp [intOf]; omega⟩
    · have hkn' : k = n := by omega
      have HLV := Lib.hid (show Lv m (labTo m.lb k) by rw [hkn', HN.out]; exact lv_start m)
      clear hkn'
      go_wp2_with fail
      clear HPU y1 y2 hlt
      obtain ⟨o0, ho0⟩ : ∃ o, o = labTo m.lb k := ⟨_, rfl⟩
      rw [← ho0] at HO HLV HLE
      clear ho0
      go_loopw [3, 5] (fun u q wr => ∃ (o : List Nat) (mb : Bool), q = .bool mb ∧ OI wr W0.heap.size u (castL o) ∧ Hid (Lv m o) ∧ Hid (mb = false → Shut m o n) ∧ Below W0.heap.size W0 wr) (fun u q _ => 2 * (n - lenV u) + boolV q)
      case atStart => exact ⟨o0, true, rfl, HO.out, HLV, Lib.hid (fun h => (by cases h)), HB.out⟩
      case round =>
        obtain ⟨o, mb, rfl, hO, HL, HSH, hb⟩ := hrel
        clear HO HLV HB HLE o0
        obtain ⟨a, c, rfl, _, _⟩ := hO.len
        have HO := Lib.hid hO; have HB := Lib.hid hb
        clear hO hb
        cases mb with
        | false =>
          have HE := Lib.hid (HL.out.done HK.out (by rw [← HN.out]; exact HSH.out rfl))
          go_wp2_with fail
          go_ret
          exact ⟨_, rfl, by rw [← HE.out]; exact owns_base HO.out HSZ.out, HB0.out.trans (HB.out.mono HSZ.out)⟩
        | true =>
          go_wp2_with fail
          go_loopw [3, 5, 6] (fun u q i wr => ∃ (o' : List Nat) (mb : Bool) (s : Nat), s ≤ n ∧ i = .int .i64 s ∧ q = .bool mb ∧ OI wr W0.heap.size u (castL o') ∧ Hid (Lv m o') ∧ Hid ((mb = false → o' = o ∧ Shut m o' s) ∧ (mb = true → o.length < o'.length)) ∧ Below W0.heap.size W0 wr) (fun _ _ i _ => n - (intOf i).toNat)
          case atStart => exact ⟨o, false, 0, Nat.zero_le _, rfl, rfl, HO.out, HL, Lib.hid ⟨fun _ => ⟨rfl, fun s hs => absurd hs (Nat.not_lt_zero _)⟩, fun h => by cases h⟩, HB.out⟩
          case round =>
            obtain ⟨o1, mb, s, hsn, rfl, rfl, hO, HL1, HR, hb⟩ := hrel
            clear HO HB
            obtain ⟨a1, c1, rfl, _, _⟩ := hO.len
            obtain ⟨y2, y1⟩ := HF.out wr hb
            have HO := Lib.hid hO; have HB := Lib.hid hb
            clear hO hb
            by_cases hlt : s < n
            · have HLT := Lib.hid hlt
              go_wp2_with fail
              go_loopw [3, 5, 7] (fun u q i wr => ∃ (o' : List Nat) (mb : Bool) (j : Nat), j ≤ K ∧ i = .int .i64 j ∧ q = .bool mb ∧ OI wr W0.heap.size u (castL o') ∧ Hid (Lv m o') ∧ Hid ((mb = false → o' = o ∧ Shut m o' s) ∧ (mb = true → o.length < o'.length)) ∧ Hid (s ∈ o' ∨ ∀ t ∈ (nbM m s).take j, t ∉ o') ∧ Below W0.heap.size W0 wr) (fun _ _ i _ => K - (intOf i).toNat)
              case atStart => exact ⟨o1, mb, 0, Nat.zero_le _, rfl, rfl, HO.out, HL1, HR, Lib.hid (.inr fun t ht => by simp at ht), HB.out⟩
              case round =>
                obtain ⟨o2, mb2, j, hj, rfl, rfl, hO, HL2', HR2, HJ, hb⟩ := hrel
                clear HO HB y1 y2
                obtain ⟨a2', c2', rfl, _, _⟩ := hO.len
                obtain ⟨y2, y1⟩ := HF.out wr hb
                have HLE2 := Lib.hid HL2'.out.len
                have hnl := HK.out.nb_len (s := s) (by rw [← HN.out]; exact hlt)
                have HNL := Lib.hid (show (nbM m s).length = K by have h2 := HWD.out; omega)
                have hsi : (s : Int) < n := by omega
                by_cases hlj : j < K
                · obtain ⟨b1, o1', c1, b2, o2', c2, z1, z2, z3⟩ := read_row HX.out HK.out hb (show s < m.lb.length by rw [← HN.out]; exact hlt) HWD.out hlj
                  rw [← HN.out] at z1
                  have HHS := Lib.hid (Has_any wr hO.is s)
                  have HPU := Lib.hid (Put_any wr hO hb.size s (by have := HLE2.out; have := HN.out; omega))
                  have htm : at2 m.nx s j ∈ nbM m s := by
                    rw [← nbM_get, List.getD_eq_getElem?_getD, List.getElem?_eq_getElem (by rw [HNL.out]; exact hlj)]
                    exact List.getElem_mem _
                  have htk := take_snoc (nbM m s) (show j < (nbM m s).length by rw [HNL.out]; exact hlj)
                  rw [nbM_get] at htk
                  obtain ⟨t, ht⟩ : ∃ t, t = at2 m.nx s j := ⟨_, rfl⟩
                  rw [← ht] at z3 htm htk
                  have HTM := Lib.hid htm; have HTK := Lib.hid htk
                  have HHT := Lib.hid (Has_any wr hO.is t)
                  obtain ⟨L2, hL2'⟩ : ∃ L, L = (castL o2).length := ⟨_, rfl⟩
                  rw [← hL2'] at hO HHS HPU HHT ⊢
                  have HO := Lib.hid hO; have HB := Lib.hid hb; have HLJ := Lib.hid hlj
                  clear hO hb ht htm htk hL2' hnl
                  go_wp2_with fail
                  refine HHS.out.mono ?_
                  rintro e w2 ⟨rfl, rfl⟩
                  by_cases hs : s ∈ o2
                  · have HS := Lib.hid hs
                    rw [decide_eq_true hs]
                    clear hs
                    go_wp2_with fail
                    refine ⟨⟨o2, mb2, s + 1, HLT.out, by go_num, rfl, HO.out, HL2', Lib.hid ⟨fun h => ⟨(HR2.out.1 h).1, fun s' hs' hx => ?_⟩, HR2.out.2⟩, HB.out⟩, by have := HLT.out; simp [intOf]; omega⟩
                    by_cases e : s' = s
                    · subst e; exact HS.out
                    · exact (HR2.out.1 h).2 s' (by omega) hx
                  · have HS := Lib.hid hs
                    rw [decide_eq_false hs]
                    clear hs
                    go_wp2_with fail
                    refine HHT.out.mono ?_
                    rintro e w3 ⟨rfl, rfl⟩
                    by_cases ht : t ∈ o2
                    · have HT := Lib.hid ht
                      rw [decide_eq_true ht]
                      clear ht
                      go_wp2_with fail
                      refine HPU.out.mono ?_
                      rintro e w4 ⟨v', l', rfl, hp, ho, hb4⟩
                      have HL4 := Lib.hid (HL2'.out.put hp (finA_step HK.out (by rw [← HN.out]; exact HLT.out) HTM.out (HL2'.out.into t HT.out)))
                      have HM4 := Lib.hid (put_more HL2'.out.rise hp HS.out)
                      have HS4 := Lib.hid ((hp.mem s).2 (.inr rfl))
                      have HO4 := Lib.hid ho
                      have HB4 := Lib.hid (HB.out.trans (hb4.mono HB.out.size))
                      obtain ⟨a4, c4, rfl, _, _⟩ := ho.len
                      clear hp ho hb4 y1 y2 z1 z2 z3
                      go_wp2_with fail
                      refine ⟨⟨l', true, j + 1, HLJ.out, by go_num, rfl, HO4.out, HL4, Lib.hid ⟨fun h => (by cases h), fun _ => ?_⟩, Lib.hid (.inl HS4.out), HB4.out⟩, by have := HLJ.out; simp [intOf]; omega⟩
                      have := HM4.out
                      cases mb2 with
                      | true => have := HR2.out.2 rfl; omega
                      | false => have := (HR2.out.1 rfl).1; rw [← this]; omega
                    · have HT := Lib.hid ht
                      rw [decide_eq_false ht]
                      clear ht
                      go_wp2_with fail
                      refine ⟨⟨o2, mb2, j + 1, HLJ.out, by go_num, rfl, HO.out, HL2', HR2, Lib.hid (.inr fun t' ht' => ?_), HB.out⟩, by have := HLJ.out; simp [intOf]; omega⟩
                      rw [HTK.out, List.mem_append, List.mem_singleton] at ht'
                      rcases ht' with h | h
                      · rcases HJ.out with h' | h'
                        · exact absurd h' HS.out
                        · exact h' t' h
                      · rw [h]; exact HT.out
                · have hjK : j = K := by omega
                  have HJ' := Lib.hid (show s ∈ o2 ∨ ∀ t ∈ nbM m s, t ∉ o2 by
                    have := HJ.out
                    rw [hjK, List.take_of_length_le (by rw [HNL.out]; exact Nat.le_refl _)] at this
                    exact this)
                  obtain ⟨L2, hL2'⟩ : ∃ L, L = (castL o2).length := ⟨_, rfl⟩
                  rw [← hL2'] at hO ⊢
                  have HO := Lib.hid hO; have HB := Lib.hid hb
                  clear hO hb hjK hnl hL2'
                  go_wp2_with fail
                  refine ⟨⟨o2, mb2, s + 1, HLT.out, by go_num, rfl, HO.out, HL2', Lib.hid ⟨fun h => ⟨(HR2.out.1 h).1, fun s' hs' hx => ?_⟩, HR2.out.2⟩, HB.out⟩, by have := HLT.out; simp [intOf]; omega⟩
                  by_cases e : s' = s
                  · subst e
                    rcases HJ'.out with h' | h'
                    · exact h'
                    · obtain ⟨t, h1, h2⟩ := hx
                      exact absurd h2 (h' t h1)
                  · exact (HR2.out.1 h).2 s' (by omega) hx
            · have hs : s = n := by omega
              have HLE := Lib.hid HL1.out.len
              go_wp2_with fail
              refine ⟨⟨o1, mb, rfl, HO.out, HL1, Lib.hid fun h => by rw [← hs]; exact (HR.out.1 h).2, HB.out⟩, ?_⟩
              have h1 := HL.out.len
              have h2 := HL1.out.len
              rw [← HN.out] at h1 h2
              simp only [lenV, boolV, castL_len]
              cases mb with
              | true => have := HR.out.2 rfl; simp only; omega
              | false => have := (HR.out.1 rfl).1; rw [this]; simp only; omega
end Go.Proofs.Ytkghnjgioijgpaa.DfaW
