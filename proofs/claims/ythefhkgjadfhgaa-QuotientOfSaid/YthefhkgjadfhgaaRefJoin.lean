/- Walk of the document's Join. -/
import Derived.Test.YthefhkgjadfhgaaRefBlk
import Derived.Test.YthefhkgjadfhgaaSameL
namespace Go.Proofs.Ythefhkgjadfhgaa.DfaW
set_option linter.unusedVariables false
set_option linter.unusedSimpArgs false
open Go.RowKit Go.Maps Go.Proofs.Ythefhkgjadfhgaa.PartM Go.Proofs.Ythefhkgjadfhgaa.PartW
/-- Of each state the first one that is with it in both. -/
def firsts (E : Nat → Nat → Bool) (n : Nat) : List Int := (List.range n).map fun i => (fst E i : Int)
theorem firsts_len (E : Nat → Nat → Bool) (n : Nat) : (firsts E n).length = n := by simp [firsts]
theorem firsts_succ (E : Nat → Nat → Bool) (n : Nat) : firsts E (n + 1) = firsts E n ++ [(fst E n : Int)] := by unfold firsts; rw [List.range_succ, List.map_append]; rfl
theorem firsts_at (E : Nat → Nat → Bool) {n i : Nat} (hi : i < n) : (firsts E n).getD i 0 = (fst E i : Nat) := by simp [firsts, List.getD, hi]
theorem fst_iff {E : Nat → Nat → Bool} (hE : Eqv E) (i j : Nat) : fst E i = fst E j ↔ E i j = true := by
  constructor
  · intro h
    have h1 := fst_alike hE i
    have h2 := fst_alike hE j
    rw [← h] at h2
    exact hE.trans _ _ _ (hE.symm _ _ h1) h2
  · intro h; exact fst_congr hE h
theorem norm_firsts {E : Nat → Nat → Bool} (hE : Eqv E) (n : Nat) : normV (firsts E n) = numsTo E n := by
  unfold normV
  rw [firsts_len]
  refine numsTo_congr fun i j hi hj => ?_
  rw [Bool.eq_iff_iff, blkE_iff, firsts_at E hi, firsts_at E hj, ← fst_iff hE]
  constructor <;> intro h <;> omega
theorem fst_ne2 {a b : List Int} {i q : Nat} (h : q < fst (blkE2 a b) i) : a.getD q 0 ≠ a.getD i 0 ∨ b.getD q 0 ≠ b.getD i 0 := by
  have hn : blkE2 a b q i = false := by
    rcases fst_spec (blkE2 a b) i with ⟨h1, h2⟩ | ⟨_, _, h2⟩
    · rw [h1] at h; exact h2 q h
    · exact h2 q h
  by_cases e : a.getD q 0 = a.getD i 0
  · by_cases e2 : b.getD q 0 = b.getD i 0
    · rw [blkE2_iff.2 ⟨e, e2⟩] at hn; cases hn
    · exact .inr e2
  · exact .inl e
set_option maxRecDepth 100000 in
set_option maxHeartbeats 8000000 in
theorem refJoin_any {va vb : Value} {a b : List Int} (w : World) (ha : IS w.heap.size w va a) (hb : IS w.heap.size w vb b) (hla : a.length ≤ 1048576) :
    Calls Try.prog 10 #[va, vb] w fun e w' => ∃ v', e = .returned v' ∧ OI w' w.heap.size v' (joinV a b) ∧ Below w.heap.size w w' := by
  obtain ⟨a1, c1, rfl, g1, g2, g3⟩ := ha.open
  obtain ⟨a2, c2, rfl, k1, k2, k3⟩ := hb.open
  obtain ⟨na, hna⟩ : ∃ n, n = a.length := ⟨_, rfl⟩
  obtain ⟨nb, hnb⟩ : ∃ n, n = b.length := ⟨_, rfl⟩
  have hni : (na : Int) ≤ 1048576 := by omega
  have hmb : (nb : Int) ≤ 9223372036854775807 := by unfold maxLen at k2; omega
  obtain ⟨n, hn⟩ : ∃ n, n = min na nb := ⟨_, rfl⟩
  have HN := Lib.hid (show na = a.length ∧ nb = b.length ∧ n = min na nb ∧ n ≤ 1048576 from ⟨hna, hnb, hn, by omega⟩)
  have hn1 : n ≤ na ∧ n ≤ nb := by omega
  have HN1 := Lib.hid (show n ≤ na ∧ n ≤ nb ∧ (n = na ∨ n = nb) from ⟨hn1.1, hn1.2, by omega⟩)
  rw [← hna] at g3 ⊢
  rw [← hnb] at k3 ⊢
  have HCA := Lib.hid g3; have HCB := Lib.hid k3
  have HO0 := Lib.hid (OI.empty w)
  have HB0 := Lib.hid (show Below w.heap.size w (w.alloc (.cells #[] 3)) from (Below.refl _ _).alloc (Nat.le_refl _) _)
  clear ha hb g1 g2 g3 k1 k2 k3 hna hnb hn hn1 hla
  go_enter Try.func10, Try.ntmps10
  go_wp2_with fail
  go_loopw [5, 6] (fun u i wr => ∃ k : Nat, k ≤ n ∧ i = .int .i64 k ∧ OI wr w.heap.size u (firsts (blkE2 a b) k) ∧ Below w.heap.size w wr) (fun _ i _ => n - (intOf i).toNat)
  case atStart => exact ⟨0, Nat.zero_le _, rfl, HO0.out, HB0.out⟩
  case round =>
    obtain ⟨k, hk, rfl, ho, hb⟩ := hrel
    obtain ⟨au, cu, rfl, _, _⟩ := ho.len
    rw [firsts_len] at ho ⊢
    have HB := Lib.hid hb; have HO := Lib.hid ho
    by_cases hlt : k < n
    · have h1 := HN1.out
      have hka : k < na := by omega
      have hkb : k < nb := by omega
      obtain ⟨b1, o1, rfl, hb1, hc1⟩ := HCA.out k hka
      obtain ⟨b2, o2, rfl, hb2, hc2⟩ := HCB.out k hkb
      have HC1 := Lib.hid ((hb.cell (p := ⟨b1, o1 + k, none⟩) hb1).trans hc1)
      have HC2 := Lib.hid ((hb.cell (p := ⟨b2, o2 + k, none⟩) hb2).trans hc2)
      have HLT := Lib.hid (show k < n ∧ k < na ∧ k < nb from ⟨hlt, hka, hkb⟩)
      obtain ⟨f, hf⟩ : ∃ f, f = fst (blkE2 a b) k := ⟨_, rfl⟩
      have hfk : f ≤ k := by rw [hf]; exact fst_le _ _
      have HFE := Lib.hid (show f = fst (blkE2 a b) k ∧ f ≤ k from ⟨hf, hfk⟩)
      obtain ⟨x, hx⟩ : ∃ x, x = a.getD k 0 := ⟨_, rfl⟩
      obtain ⟨y, hy⟩ : ∃ y, y = b.getD k 0 := ⟨_, rfl⟩
      rw [← hx] at HC1
      rw [← hy] at HC2
      have HXY := Lib.hid (show x = a.getD k 0 ∧ y = b.getD k 0 from ⟨hx, hy⟩)
      have t1 : decide ((k : Int) < (na : Int)) = true := by simp; omega
      have t2 : decide ((k : Int) < (nb : Int)) = true := by simp; omega
      have hki : (k : Int) ≤ 1048576 := by have := HN.out.2.2.2; omega
      clear ho hb hb1 hb2 hc1 hc2 hf hfk hx hy h1
      go_wp2_with fail
      clear t1 t2
      go_loopw [7] (fun s wi => ∃ q : Nat, q ≤ f ∧ s = .int .i64 q ∧ Dr wr wi) (fun s _ => f - (intOf s).toNat)
      case atStart => exact ⟨0, Nat.zero_le _, rfl, Dr.refl _⟩
      case round =>
        rename World => wi
        obtain ⟨q, hq, rfl, hd⟩ := hrel
        have hqa : q < na := by have := HFE.out.2; have := HLT.out; omega
        have hqb : q < nb := by have := HFE.out.2; have := HLT.out; omega
        have hbw : Below w.heap.size w wi.drew := HB.out.trans hd.drew.below
        obtain ⟨_, _, e1, hb1, hc1⟩ := HCA.out q hqa
        simp only [Option.some.injEq, Addr.mk.injEq, and_true] at e1
        obtain ⟨rfl, rfl⟩ := e1
        obtain ⟨_, _, e2, hb2, hc2⟩ := HCB.out q hqb
        simp only [Option.some.injEq, Addr.mk.injEq, and_true] at e2
        obtain ⟨rfl, rfl⟩ := e2
        have d1 := (hbw.cell (p := ⟨b1, o1 + q, none⟩) hb1).trans hc1
        have d2 := (hbw.cell (p := ⟨b2, o2 + q, none⟩) hb2).trans hc2
        have d3 : wi.drew.cell? ⟨b1, o1 + k, none⟩ = some (.int .i64 x) := by
          obtain ⟨j, e⟩ := hd.drew
          rw [e]; exact HC1.out
        have d4 : wi.drew.cell? ⟨b2, o2 + k, none⟩ = some (.int .i64 y) := by
          obtain ⟨j, e⟩ := hd.drew
          rw [e]; exact HC2.out
        obtain ⟨p, hp⟩ : ∃ p, p = a.getD q 0 := ⟨_, rfl⟩
        obtain ⟨r, hr⟩ : ∃ r, r = b.getD q 0 := ⟨_, rfl⟩
        rw [← hp] at d1
        rw [← hr] at d2
        have HDR := Lib.hid hd.drew
        by_cases hqf : q < f
        · have hor := fst_ne2 (a := a) (b := b) (i := k) (q := q) (by rw [← HFE.out.1]; exact hqf)
          rw [← hp, ← hr, ← HXY.out.1, ← HXY.out.2] at hor
          have HQF := Lib.hid hqf
          have hka := HLT.out.2.1; have hkb := HLT.out.2.2
          clear hbw hb1 hb2 hc1 hc2 hp hr hd
          by_cases hpx : p = x
          · have hry : r ≠ y := by rcases hor with h | h; exact absurd hpx h; exact h
            have t0 : (p != x) = false := by simpa using hpx
            have t1 : (r != y) = true := by simpa using hry
            clear hor hpx hry
            go_wp2_with fail
            go_region
            go_wp2_with fail
            exact ⟨⟨q + 1, HQF.out, by go_num, HDR.out⟩, by have := HQF.out; simp [intOf]; omega⟩
          · have t0 : (p != x) = true := by simpa using hpx
            clear hor hpx
            go_wp2_with fail
            go_region
            go_wp2_with fail
            exact ⟨⟨q + 1, HQF.out, by go_num, HDR.out⟩, by have := HQF.out; simp [intOf]; omega⟩
        · have hqe : q = f := by omega
          have hal := blkE2_iff.1 (fst_alike (blkE2_eqv a b) k)
          rw [← HFE.out.1, ← hqe, ← hp, ← hr, ← HXY.out.1, ← HXY.out.2] at hal
          have t0 : (p != x) = false := by simpa using hal.1
          have t1 : (r != y) = false := by simpa using hal.2
          have HQE := Lib.hid hqe
          have hka := HLT.out.2.1; have hkb := HLT.out.2.2
          have HBW := Lib.hid hbw
          clear hbw hb1 hb2 hc1 hc2 hp hr hd hal hqf hqe
          go_wp2_with fail
          go_region
          have HO1 := Lib.hid (HO.out.below HDR.out.below)
          have hsw : w.heap.size ≤ wi.drew.heap.size := HBW.out.size
          have HO2 := Lib.hid (HO1.out.below ((Below.refl _ wi.drew).alloc (Nat.le_refl _) (.cells #[.int .i64 (q : Int)] 3)))
          have HB2 := Lib.hid (HBW.out.trans ((Below.refl w.heap.size wi.drew).alloc hsw (.cells #[.int .i64 (q : Int)] 3)))
          have HSW := Lib.hid hsw
          clear d1 d2 d3 d4 hsw
          generalize wi.drew = wd at *
          go_wp2_with (at_builtin; refine wpList_append_int rfl (.tmp 43) (.tmp 45) rfl rfl HO2.out (by simp only [World.size_alloc]; exact Nat.le_trans HSW.out (Nat.le_succ _)) ⟨wd.heap.size, 0, none⟩ 1 (q : Int) rfl (by rw [World.cell?_alloc_new]; rfl) rfl (by rw [firsts_len]; have := HLT.out.1; have := HN.out.2.2.2; omega) ?_; intro v' w5 hO5 hb5; have HO5 := Lib.hid hO5; have HB5 := Lib.hid hb5; clear hO5 hb5; go_frame)
          refine ⟨⟨k + 1, HLT.out.1, by go_num, ?_, HB2.out.trans HB5.out⟩, by have := HLT.out.1; simp [intOf]; omega⟩
          rw [firsts_succ, ← HFE.out.1, ← HQE.out]
          exact HO5.out
    · have hkn : k = n := by omega
      have h1 := HN1.out
      have hnr := refNormB_any wr ho.is (by rw [firsts_len]; have := HN.out.2.2.2; omega)
      rw [norm_firsts (blkE2_eqv a b)] at hnr
      have HNR := Lib.hid hnr
      have HE := Lib.hid (show numsTo (blkE2 a b) k = joinV a b by unfold joinV; rw [hkn, HN.out.2.2.1, HN.out.1, HN.out.2.1])
      by_cases hka : k < na
      · have t1 : decide ((k : Int) < (na : Int)) = true := by simp; omega
        have t2 : decide ((k : Int) < (nb : Int)) = false := by simp; omega
        have t3 : ¬ ((k : Int) < (nb : Int)) := by omega
        have t4 : ¬ (k < nb) := by omega
        clear ho hb hkn hnr h1
        go_wp2_with fail
        refine HNR.out.mono ?_
        rintro e w6 ⟨v', rfl, ho, hb6⟩
        have HO6 := Lib.hid (owns_base ho HB.out.size); have HB6 := Lib.hid (HB.out.trans (hb6.mono HB.out.size))
        clear ho hb6
        go_wp2_with fail
        go_ret
        exact ⟨_, rfl, by rw [← HE.out]; exact HO6.out, HB6.out⟩
      · have t1 : decide ((k : Int) < (na : Int)) = false := by simp; omega
        clear ho hb hkn hnr h1
        go_wp2_with fail
        refine HNR.out.mono ?_
        rintro e w6 ⟨v', rfl, ho, hb6⟩
        have HO6 := Lib.hid (owns_base ho HB.out.size); have HB6 := Lib.hid (HB.out.trans (hb6.mono HB.out.size))
        clear ho hb6
        go_wp2_with fail
        go_ret
        exact ⟨_, rfl, by rw [← HE.out]; exact HO6.out, HB6.out⟩
end Go.Proofs.Ythefhkgjadfhgaa.DfaW
