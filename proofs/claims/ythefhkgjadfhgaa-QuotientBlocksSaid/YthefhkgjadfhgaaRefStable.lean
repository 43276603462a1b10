/- Walk of the document's Stable. -/
import Derived.Test.YthefhkgjadfhgaaRefFiner
namespace Go.Proofs.Ythefhkgjadfhgaa.DfaW
set_option linter.unusedVariables false
set_option linter.unusedSimpArgs false
open Go.RowKit Go.Maps Go.Proofs.Ythefhkgjadfhgaa.PartM Go.Proofs.Ythefhkgjadfhgaa.PartW
def StableAt (m : Mc) (l : List Int) (s : Nat) : Prop := m.lb.getD s 0 = m.lb.getD (fst (blkE l) s) 0 ∧ ∀ k : Nat, (k : Int) < m.wd → l.getD (at2 m.nx s k) 0 = l.getD (at2 m.nx (fst (blkE l) s) k) 0
set_option maxRecDepth 100000 in
set_option maxHeartbeats 8000000 in
theorem refStable_any {C : Array Value} {m : Mc} {v : Value} {l : List Int} (w : World) (h : IsM w.heap.size w C m) (hv : IS w.heap.size w v l) :
    Calls Try.prog 17 #[.agg C, v] w fun e w' => Says e (StableP m l) ∧ Below w.heap.size w w' := by
  have hx := Bx.new h
  have hb0 : Below w.heap.size w (w.alloc (.cells C 31)) := (Below.refl _ _).alloc (Nat.le_refl _) _
  have HV := Lib.hid hv
  obtain ⟨a, cap, rfl, g1, g2, _⟩ := hv.open
  obtain ⟨a1, a2, a3, c1, c2, c3, k1, k2, k3⟩ := h.slices
  obtain ⟨L, hL⟩ : ∃ L, L = l.length := ⟨_, rfl⟩
  have hLi : (L : Int) ≤ 9223372036854775807 := by unfold maxLen at g2; omega
  obtain ⟨n, hn⟩ : ∃ n, n = m.lb.length := ⟨_, rfl⟩
  rw [← hL] at HV ⊢
  rw [← hn] at k2
  have HK := Lib.hid (show C[257]? = some (.slice a1 m.nx.length c1) ∧ C[258]? = some (.slice a2 n c2) from ⟨k1, k2⟩)
  have HN := Lib.hid (show L = l.length ∧ n = m.lb.length from ⟨hL, hn⟩)
  have HX := Lib.hid hx; have HB0 := Lib.hid hb0
  have HP := Lib.hid (show StableP m l ↔ Ok m ∧ L = n ∧ ∀ s, s < L → StableAt m l s by rw [hL, hn]; exact stable_iff)
  clear h hx hb0 hv g1 g2 k1 k2 k3 hL hn
  go_enter Try.func17, Try.ntmps17
  go_wp2_with (refine wpList_load_dfa rfl (.tmp 2) rfl rfl HX.out ?_)
  refine (refRightD_any _ HX.out.is).mono ?_
  rintro e w1 ⟨hs, hb1⟩
  have HX1 := Lib.hid (HX.out.below hb1)
  have HB1 := Lib.hid (HB0.out.trans (hb1.mono HB0.out.size))
  clear hb1 HX HB0
  rcases hs.elim with ⟨rfl, hk⟩ | ⟨rfl, hk⟩
  case inr =>
    have HE := Lib.hid (fun x => hk (HP.out.1 x).1)
    clear hs hk
    go_wp2_with fail
    go_ret
    exact ⟨Says.no HE.out, HB1.out⟩
  have HOK := Lib.hid hk
  have hn5 := hk.lbs.2.1
  have hni : (n : Int) ≤ 65536 := by have := HN.out.2; omega
  clear hs hk hn5
  have y2 := (HX1.out.lbv HK.out.2).1
  by_cases hq : L = n
  case neg =>
    have t0 : ((L : Int) != (n : Int)) = true := by simp; omega
    have HE := Lib.hid (fun x => hq (HP.out.1 x).2.1)
    clear hq
    go_wp2_with fail
    go_ret
    exact ⟨Says.no HE.out, HB1.out⟩
  have t0 : ((L : Int) != (n : Int)) = false := by simp; omega
  have HQ := Lib.hid hq
  have HVW := Lib.hid ((HV.out.below HB1.out))
  clear hq
  go_wp2_with fail
  clear t0 y2
  have HWD := Lib.hid (HX1.out.wd)
  obtain ⟨z1, hRS⟩ := HX1.out.nxv HK.out.1
  obtain ⟨z2, hIS⟩ := HX1.out.lbv HK.out.2
  have HZ := Lib.hid (show w1.cell? ⟨w.heap.size, 257, none⟩ = _ ∧ w1.cell? ⟨w.heap.size, 258, none⟩ = _ from ⟨z1, z2⟩)
  have HRS := Lib.hid hRS; have HIS := Lib.hid hIS
  obtain ⟨N, hN⟩ : ∃ N, N = m.nx.length := ⟨_, rfl⟩
  have HNN := Lib.hid (show N = n by rw [hN, HOK.out.len, ← HN.out.2])
  rw [← hN] at HZ HRS
  have hwd := HOK.out.wd
  have hw256 : m.wd ≤ 256 := by have := rk_le (E := byKey m.of) 256; omega
  obtain ⟨d, hd⟩ : ∃ d : Nat, m.wd = (d : Int) := ⟨_, hwd⟩
  rw [hd] at HWD hw256
  have HD := Lib.hid hd
  clear z1 z2 hRS hIS hN hwd hd
  go_loopw [5] (fun i wr => ∃ k : Nat, k ≤ L ∧ i = .int .i64 k ∧ Hid (∀ s, s < k → StableAt m l s) ∧ Dr w1 wr) (fun i _ => L - (intOf i).toNat)
  case atStart => exact ⟨0, Nat.zero_le _, rfl, Lib.hid fun j hj => absurd hj (Nat.not_lt_zero _), Dr.refl _⟩
  case round =>
    obtain ⟨s, hs, rfl, HA, hdr⟩ := hrel
    by_cases hlt : s < L
    · have hsl : s < l.length := by rw [← HN.out.1]; exact hlt
      have hsn : s < n := by have := HQ.out; omega
      obtain ⟨bl, ol, rfl, _, hcs⟩ := HVW.out.cell (i := s) hsl
      obtain ⟨f, hf⟩ : ∃ f, f = fst (blkE l) s := ⟨_, rfl⟩
      have hfs : f ≤ s := by rw [hf]; exact fst_le _ _
      have hcall := first_any wr (HVW.out.below (hdr.below (B := w.heap.size))) s hsl
      rw [← hf] at hcall
      obtain ⟨x, hx⟩ : ∃ x, x = l.getD s 0 := ⟨_, rfl⟩
      rw [← hx] at hcs hcall
      have c1 := (hdr.cell ⟨bl, ol + s, none⟩).trans hcs
      have HCALL := Lib.hid hcall
      obtain ⟨b2, o2, rfl, _, hl1⟩ := HIS.out.cell (i := s) (by rw [← HN.out.2]; exact hsn)
      obtain ⟨_, _, e2, _, hl2⟩ := HIS.out.cell (i := f) (by rw [← HN.out.2]; omega)
      simp only [Option.some.injEq, Addr.mk.injEq, and_true] at e2
      obtain ⟨rfl, rfl⟩ := e2
      obtain ⟨p, hp⟩ : ∃ p, p = m.lb.getD s 0 := ⟨_, rfl⟩
      obtain ⟨q, hq⟩ : ∃ q, q = m.lb.getD f 0 := ⟨_, rfl⟩
      rw [← hp] at hl1
      rw [← hq] at hl2
      have HPQ := Lib.hid (show f = fst (blkE l) s ∧ p = m.lb.getD s 0 ∧ q = m.lb.getD f 0 ∧ f ≤ s ∧ s < L ∧ s < n ∧ f < n from ⟨hf, hp, hq, hfs, hlt, hsn, by omega⟩)
      have HDR := Lib.hid hdr
      have HL12 := Lib.hid (show w1.cell? ⟨b2, o2 + s, none⟩ = some (.int .i64 p) ∧ w1.cell? ⟨b2, o2 + f, none⟩ = some (.int .i64 q) from ⟨hl1, hl2⟩)
      clear hcs hf hfs hcall hx hl1 hl2 hp hq hdr hsl hsn
      go_wp2_with fail
      refine HCALL.out.mono ?_
      rintro e w2 ⟨rfl, rfl⟩
      clear c1 HCALL
      have hdd := HDR.out.drew
      have d0 := (hdd.cell ⟨w.heap.size, 258, none⟩).trans HZ.out.2
      have d1 := (hdd.cell ⟨b2, o2 + s, none⟩).trans HL12.out.1
      have d2 := (hdd.cell ⟨b2, o2 + f, none⟩).trans HL12.out.2
      have hsn := HPQ.out.2.2.2.2.2.1
      have hfn := HPQ.out.2.2.2.2.2.2
      have HDD := Lib.hid hdd
      clear hdd
      by_cases hpq : p = q
      case neg =>
        have t0 : (p != q) = true := by simpa using hpq
        have HE := Lib.hid (fun x => hpq (by
          have := ((HP.out.1 x).2.2 s HPQ.out.2.2.2.2.1).1
          rw [HPQ.out.2.1, HPQ.out.2.2.1, HPQ.out.1]; exact this))
        clear hpq
        go_wp2_with fail
        go_region
        go_wp2_with fail
        go_ret
        exact ⟨Says.no HE.out, HB1.out.trans HDD.out.below⟩
      have t0 : (p != q) = false := by simpa using hpq
      have HPE := Lib.hid hpq
      clear hpq
      go_wp2_with fail
      go_region
      clear d0 d1 d2
      go_wp2_with fail
      go_loopw [7] (fun i wi => ∃ k : Nat, k ≤ d ∧ i = .int .i64 k ∧ Hid (∀ j : Nat, j < k → l.getD (at2 m.nx s j) 0 = l.getD (at2 m.nx f j) 0) ∧ Dr w1 wi) (fun i _ => d - (intOf i).toNat)
      case atStart => exact ⟨0, Nat.zero_le _, rfl, Lib.hid fun j hj => absurd hj (Nat.not_lt_zero _), HDD.out⟩
      case round =>
        rename World => wi
        obtain ⟨k, hk, rfl, HAK, hdi⟩ := hrel
        have d3 := (hdi.cell ⟨w.heap.size, 256, none⟩).trans HWD.out
        have HDI := Lib.hid hdi
        by_cases hkd : k < d
        · have hkw : (k : Int) < m.wd := by rw [HD.out]; omega
          have hsm : s < m.lb.length := by rw [← HN.out.2]; exact hsn
          have hfm : f < m.lb.length := by rw [← HN.out.2]; exact hfn
          obtain ⟨b1, o1, bs, os, cs, rfl, hr1, hr2⟩ := rows_form HOK.out HRS.out hsm
          obtain ⟨_, _, bf, of, cf, e3, hr3, hr4⟩ := rows_form HOK.out HRS.out hfm
          simp only [Option.some.injEq, Addr.mk.injEq, and_true] at e3
          obtain ⟨rfl, rfl⟩ := e3
          have hrs := HOK.out.row hsm
          have hrf := HOK.out.row hfm
          rw [show (m.nx.getD s []).length = d by rw [HD.out] at hrs; omega] at hr1
          rw [show (m.nx.getD f []).length = d by rw [HD.out] at hrf; omega] at hr3
          have hps := (HOK.out.cell hsm hkw).2
          have hpf := (HOK.out.cell hfm hkw).2
          have hr2k := hr2 k hkw
          have hr4k := hr4 k hkw
          obtain ⟨ps, hps'⟩ : ∃ ps, ps = at2 m.nx s k := ⟨_, rfl⟩
          obtain ⟨pf, hpf'⟩ : ∃ pf, pf = at2 m.nx f k := ⟨_, rfl⟩
          rw [← hps'] at hps hr2k
          rw [← hpf'] at hpf hr4k
          rw [← HN.out.2] at hps hpf
          have hLn := HQ.out
          obtain ⟨_, _, e4, _, hv1⟩ := HVW.out.cell (i := ps) (by rw [← HN.out.1]; omega)
          simp only [Option.some.injEq, Addr.mk.injEq, and_true] at e4
          obtain ⟨rfl, rfl⟩ := e4
          obtain ⟨_, _, e5, _, hv2⟩ := HVW.out.cell (i := pf) (by rw [← HN.out.1]; omega)
          simp only [Option.some.injEq, Addr.mk.injEq, and_true] at e5
          obtain ⟨rfl, rfl⟩ := e5
          obtain ⟨y1, hy1⟩ : ∃ y, y = l.getD ps 0 := ⟨_, rfl⟩
          obtain ⟨y2, hy2⟩ : ∃ y, y = l.getD pf 0 := ⟨_, rfl⟩
          rw [← hy1] at hv1
          rw [← hy2] at hv2
          have HYY := Lib.hid (show y1 = l.getD (at2 m.nx s k) 0 ∧ y2 = l.getD (at2 m.nx f k) 0 from ⟨by rw [hy1, hps'], by rw [hy2, hpf']⟩)
          have hdd := hdi.drew
          have z0 := (hdd.cell ⟨w.heap.size, 257, none⟩).trans HZ.out.1
          have z1 := (hdd.cell ⟨b1, o1 + s, none⟩).trans hr1
          have z2 := (hdd.cell ⟨b1, o1 + f, none⟩).trans hr3
          have z3 := (hdd.cell ⟨bs, os + k, none⟩).trans hr2k
          have z4 := (hdd.cell ⟨bf, of + k, none⟩).trans hr4k
          have z5 := (hdd.cell ⟨bl, ol + ps, none⟩).trans hv1
          have z6 := (hdd.cell ⟨bl, ol + pf, none⟩).trans hv2
          have hsN : s < N := by have := HNN.out; omega
          have hfN : f < N := by have := HNN.out; omega
          have hpL : ps < L := by omega
          have hfL : pf < L := by omega
          have HDD2 := Lib.hid hdd
          have HKD := Lib.hid hkd
          have HKW := Lib.hid hkw
          clear hkw hsm hfm hr1 hr2 hr3 hr4 hrs hrf hps hpf hr2k hr4k hps' hpf' hLn hv1 hv2 hy1 hy2 hdd hdi
          by_cases hyy : y1 = y2
          · have t0 : (y1 != y2) = false := by simpa using hyy
            have HE := Lib.hid hyy
            clear hyy
            go_wp2_with fail
            go_region
            clear z0 z1 z2 z3 z4 z5 z6
            go_wp2_with fail
            refine ⟨⟨k + 1, HKD.out, by go_num, Lib.hid fun j hj => ?_, HDD2.out⟩, by have := HKD.out; simp [intOf]; omega⟩
            by_cases e : j = k
            · subst e; rw [← HYY.out.1, ← HYY.out.2]; exact HE.out
            · exact HAK.out j (by omega)
          · have t0 : (y1 != y2) = true := by simpa using hyy
            have HE := Lib.hid (fun x => hyy (by
              have := ((HP.out.1 x).2.2 s HPQ.out.2.2.2.2.1).2 k HKW.out
              rw [← HPQ.out.1] at this
              rw [HYY.out.1, HYY.out.2]; exact this))
            clear hyy
            go_wp2_with fail
            go_region
            clear z0 z1 z2 z3 z4 z5 z6
            go_wp2_with fail
            go_ret
            exact ⟨Says.no HE.out, HB1.out.trans HDD2.out.below⟩
        · have hke : k = d := by omega
          have HAT := Lib.hid (show StableAt m l s from ⟨by rw [← HPQ.out.1, ← HPQ.out.2.1, ← HPQ.out.2.2.1]; exact HPE.out, fun j hj => by
            rw [← HPQ.out.1]
            exact HAK.out j (by rw [HD.out] at hj; omega)⟩)
          clear hke hdi
          go_wp2_with fail
          refine ⟨⟨s + 1, HPQ.out.2.2.2.2.1, by go_num, Lib.hid fun j hj => ?_, HDI.out⟩, by have := HPQ.out.2.2.2.2.1; simp [intOf]; omega⟩
          by_cases e : j = s
          · subst e; exact HAT.out
          · exact HA.out j (by omega)
    · have hsn : s = L := by omega
      have HE := Lib.hid (HP.out.2 ⟨HOK.out, HQ.out, fun j hj => HA.out j (by rw [hsn]; exact hj)⟩)
      have HDR := Lib.hid hdr
      clear hdr hsn
      go_wp2_with fail
      go_ret
      exact ⟨Says.yes HE.out, HB1.out.trans HDR.out.below⟩
end Go.Proofs.Ythefhkgjadfhgaa.DfaW
