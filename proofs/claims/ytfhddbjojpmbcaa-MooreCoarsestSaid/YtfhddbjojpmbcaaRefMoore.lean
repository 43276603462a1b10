/- Walks of the document's After, Blocks, Rounds, Right. -/
import Derived.Test.YtfhddbjojpmbcaaRefApart
import Derived.Test.YtfhddbjojpmbcaaRefBlk
import Derived.Test.YtfhddbjojpmbcaaQuoC
namespace Go.Proofs.Ytfhddbjojpmbcaa.DfaW
set_option linter.unusedVariables false
set_option linter.unusedSimpArgs false
open Go.RowKit Go.Maps Go.Proofs.Ytfhddbjojpmbcaa.PartM Go.Proofs.Ytfhddbjojpmbcaa.PartW
theorem apX_fst {m : Mc} {k s t : Nat} (h : t < fst (alk m k) s) : apX m k s t = true := by
  have : alk m k t s = false := by
    rcases fst_spec (alk m k) s with ⟨h1, h2⟩ | ⟨_, _, h2⟩
    · exact h2 t (by omega)
    · exact h2 t h
  unfold apX
  cases h2 : alk m k s t with
  | false => rfl
  | true => rw [(alk_eqv m k).symm _ _ h2] at this; cases this
theorem apX_at_fst (m : Mc) (k s : Nat) : apX m k s (fst (alk m k) s) = false := by
  unfold apX
  rw [(alk_eqv m k).symm _ _ (fst_alike (alk_eqv m k) s)]; rfl
/-- The first ones of theirs: the list that After makes normal. -/
def fstL (m : Mc) (k n : Nat) : List Int := (List.range n).map fun s => (fst (alk m k) s : Int)
theorem fstL_len (m : Mc) (k n : Nat) : (fstL m k n).length = n := by simp [fstL]
theorem fstL_succ (m : Mc) (k n : Nat) : fstL m k (n + 1) = fstL m k n ++ [(fst (alk m k) n : Int)] := by simp [fstL, List.range_succ]
theorem fstL_norm (m : Mc) (k : Nat) : normV (fstL m k m.lb.length) = aftN m k := by
  unfold normV aftN
  rw [fstL_len]
  refine numsTo_congr fun a b ha hb => ?_
  rw [Bool.eq_iff_iff, blkE_iff]
  have e : ∀ c, c < m.lb.length → (fstL m k m.lb.length).getD c 0 = (fst (alk m k) c : Int) := fun c hc => by simp [fstL, List.getD, hc]
  rw [e a ha, e b hb]
  constructor
  · intro h
    have h : fst (alk m k) a = fst (alk m k) b := by omega
    have h1 := fst_alike (alk_eqv m k) a; have h2 := fst_alike (alk_eqv m k) b
    rw [h] at h1
    exact (alk_eqv m k).trans _ _ _ ((alk_eqv m k).symm _ _ h1) h2
  · intro h
    rw [fst_congr (alk_eqv m k) h]
set_option maxRecDepth 100000 in
set_option maxHeartbeats 4000000 in
theorem refAfter_any {C : Array Value} {m : Mc} (w : World) (k : Int) (hk : k ≤ 9223372036854775807) (h : IsM w.heap.size w C m) (hok : Ok m) :
    Calls Try.prog 16 #[.agg C, .int .i64 k] w fun e w' => ∃ v', e = .returned v' ∧ OI w' w.heap.size v' (aftN m k.toNat) ∧ Below w.heap.size w w' := by
  have hx := Bx.new h
  obtain ⟨a1, a2, a3, c1, c2, c3, k1, k2, k3⟩ := h.slices
  have hn6 := hok.lbs.2.1
  obtain ⟨n, hn⟩ : ∃ n, n = m.lb.length := ⟨_, rfl⟩
  rw [← hn] at k2 hn6
  have hni : (n : Int) ≤ 65536 := by omega
  have HN := Lib.hid (show n = m.lb.length ∧ n ≤ 65536 from ⟨hn, by omega⟩)
  have HK2 := Lib.hid k2; have HOK := Lib.hid hok; have HKM := Lib.hid hk
  have HB0 := Lib.hid (al_o w (.cells C 27)); have HX := Lib.hid hx
  clear h hok hx k1 k2 k3 hn hn6 hk
  go_enter Try.func16, Try.ntmps16
  go_wp2_with (refine wpList_load_dfa rfl (.tmp 2) rfl rfl HX.out ?_)
  refine (apart_ref _ k HKM.out HX.out.is HOK.out).mono ?_
  rintro e w1 ⟨v, Gm, Km, rfl, hM, hb⟩
  rw [← HN.out.1] at hM
  obtain ⟨av, cv, rfl⟩ := hM.form
  obtain ⟨j, hj⟩ : ∃ j, j = k.toNat := ⟨_, rfl⟩
  rw [← hj] at hM
  have HJ := Lib.hid hj
  have hal := al_o w1 (.cells #[] 3)
  have HM := Lib.hid hM
  have HX1 := Lib.hid (HX.out.below hb)
  have HB1 := Lib.hid (HB0.out.trans (hb.mono HB0.out.size))
  have HO1 := Lib.hid (OI.empty w1)
  have HL1 := Lib.hid hal
  clear hM hb hal HX HB0 hj
  go_wp2_with fail
  go_loopw [6, 7] (fun u i wr => ∃ s : Nat, s ≤ n ∧ i = .int .i64 s ∧ OI wr w1.heap.size u (fstL m j s) ∧ Below w1.heap.size w1 wr) (fun _ i _ => n - (intOf i).toNat)
  case atStart => exact ⟨0, Nat.zero_le _, rfl, HO1.out, HL1.out⟩
  case round =>
    obtain ⟨s, hs, rfl, ho, hb⟩ := hrel
    obtain ⟨au, cu, rfl, _, _⟩ := ho.len
    rw [fstL_len] at ho ⊢
    have y2 := ((HX1.out.below hb).lbv HK2.out).1
    have HO := Lib.hid ho; have HB := Lib.hid hb
    by_cases hls : s < n
    · have hm := HM.out.below hb
      obtain ⟨bv, rfl, _, _, z1⟩ := hm.topAt hls
      have HZ := Lib.hid (fun t (ht : t < n) => hm.at hls ht)
      have HLS := Lib.hid hls
      obtain ⟨f, hf⟩ : ∃ f, f = fst (alk m j) s := ⟨_, rfl⟩
      have hfs : f ≤ s := by rw [hf]; exact fst_le _ _
      have HF := Lib.hid (show f ≤ s ∧ f = fst (alk m j) s from ⟨hfs, hf⟩)
      have hsi : (s : Int) ≤ 65536 := by omega
      clear ho hb hm hf hfs
      go_wp2_with fail
      clear y2
      go_loopw [8] (fun i wi => ∃ t : Nat, t ≤ f ∧ i = .int .i64 t ∧ wi = wr) (fun i _ => n - (intOf i).toNat)
      case atStart => exact ⟨0, Nat.zero_le _, rfl, rfl⟩
      case round =>
        rename World => wi
        obtain ⟨t, ht, rfl, hw⟩ := hrel
        subst hw
        have htn : t < n := by have := HF.out.1; omega
        have z2 := HZ.out t htn
        have hti : (t : Int) ≤ 65536 := by omega
        by_cases hlt : t < f
        · rw [apX_fst (by rw [← HF.out.2]; exact hlt)] at z2
          have HLT := Lib.hid hlt; have HTN := Lib.hid htn
          clear hlt ht
          go_wp2_with fail
          exact ⟨⟨t + 1, HLT.out, by go_num, trivial⟩, by have := HTN.out; simp [intOf]; omega⟩
        · have htf : t = f := by omega
          rw [htf, HF.out.2, apX_at_fst, ← HF.out.2, ← htf] at z2
          have HTF := Lib.hid htf
          have HO2 := Lib.hid (HO.out.below (al_o wi (.cells #[.int .i64 (t : Int)] 3)))
          have HB2 := Lib.hid (HB.out.alloc HB.out.size (.cells #[.int .i64 (t : Int)] 3))
          clear hlt ht htf
          go_wp2_with (at_builtin; refine wpList_append_int rfl (.tmp 29) (.tmp 31) rfl rfl HO2.out HB2.out.size ⟨wi.heap.size, 0, none⟩ 1 (t : Int) rfl (by rw [World.cell?_alloc_new]; rfl) rfl (by rw [fstL_len]; have := HLS.out; have := HN.out.2; omega) ?_; intro v' w5 hO5 hb5; have HO5 := Lib.hid hO5; have HB5 := Lib.hid (HB2.out.trans hb5); clear hO5 hb5; go_frame)
          exact ⟨⟨s + 1, HLS.out, by go_num, by rw [fstL_succ, ← HF.out.2, ← HTF.out]; exact HO5.out, HB5.out⟩, by have := HLS.out; simp [intOf]; omega⟩
    · have hsn : n = s := by omega
      subst hsn
      clear ho hb hls hs
      go_wp2_with fail
      refine (refNormB_any _ (HO.out.is) (by rw [fstL_len]; have := HN.out.2; omega)).mono ?_
      rintro e w5 ⟨v', rfl, ho5, hb5⟩
      rw [HN.out.1, fstL_norm] at ho5
      have HO5 := Lib.hid (owns_base ho5 (show w.heap.size ≤ wr.heap.size from Nat.le_trans HB1.out.size HB.out.size))
      have HB5 := Lib.hid ((HB1.out.trans (HB.out.mono HB1.out.size)).trans (hb5.mono (Nat.le_trans HB1.out.size HB.out.size)))
      clear ho5 hb5
      go_wp2_with fail
      go_ret
      exact ⟨_, rfl, by rw [← HJ.out]; exact HO5.out, HB5.out⟩
set_option maxHeartbeats 1000000 in
theorem refBlocks_any {C : Array Value} {m : Mc} (w : World) (h : IsM w.heap.size w C m) (hok : Ok m) :
    Calls Try.prog 14 #[.agg C] w fun e w' => ∃ v', e = .returned v' ∧ OI w' w.heap.size v' (blkN m) ∧ Below w.heap.size w w' := by
  have hx := Bx.new h
  obtain ⟨a1, a2, a3, c1, c2, c3, k1, k2, k3⟩ := h.slices
  have y2 := (hx.lbv k2).1
  have HX := Lib.hid hx; have HOK := Lib.hid hok; have HB0 := Lib.hid (al_o w (.cells C 27))
  have HL := Lib.hid (show (m.lb.length : Int) ≤ 9223372036854775807 by have := hok.lbs.2.1; omega)
  clear h hok hx k1 k2 k3
  go_enter Try.func14, Try.ntmps14
  go_wp2_with (refine wpList_load_dfa rfl (.tmp 1) rfl rfl HX.out ?_)
  refine (refAfter_any _ _ HL.out HX.out.is HOK.out).mono ?_
  rintro e w1 ⟨v', rfl, ho, hb⟩
  have HO := Lib.hid (owns_base ho HB0.out.size); have HB := Lib.hid (HB0.out.trans (hb.mono HB0.out.size))
  clear ho hb
  go_wp2_with fail
  go_ret
  exact ⟨_, rfl, HO.out, HB.out⟩
/-- It may be, and has few states. -/
theorem refRight24_any {C : Array Value} {m : Mc} (w : World) (k : Nat) (hk : k ≤ 1048576) (h : IsM w.heap.size w C m) :
    Calls Try.prog 12 #[.agg C, .int .i64 k] w fun e w' => Says e (Ok m ∧ m.lb.length ≤ k) ∧ Below w.heap.size w w' := by
  have hx := Bx.new h
  obtain ⟨a1, a2, a3, c1, c2, c3, k1, k2, k3⟩ := h.slices
  obtain ⟨n, hn⟩ : ∃ n, n = m.lb.length := ⟨_, rfl⟩
  rw [← hn] at k2 ⊢
  have HX := Lib.hid hx; have HB0 := Lib.hid (al_o w (.cells C 27)); have HK2 := Lib.hid k2; have HN := Lib.hid hn
  clear h hx k1 k2 k3 hn
  go_enter Try.func12, Try.ntmps12
  go_wp2_with (refine wpList_load_dfa rfl (.tmp 2) rfl rfl HX.out ?_)
  refine (refRightD_any _ HX.out.is).mono ?_
  rintro e w1 ⟨hs, hb1⟩
  have HX1 := Lib.hid (HX.out.below hb1); have HB1 := Lib.hid (HB0.out.trans (hb1.mono HB0.out.size))
  clear hb1 HX HB0
  rcases hs.elim with ⟨rfl, hok⟩ | ⟨rfl, hok⟩
  · have y2 := (HX1.out.lbv HK2.out).1
    have HOK := Lib.hid hok
    clear hs hok
    by_cases hle : n ≤ k
    · have t0 : decide ((n : Int) ≤ (k : Int)) = true := by simp; omega
      have t0n : decide (n ≤ k) = true := by simp; omega
      have HL := Lib.hid hle
      clear hle
      go_wp2_with fail
      go_ret
      exact ⟨Says.yes ⟨HOK.out, HL.out⟩, HB1.out⟩
    · have t0 : decide ((n : Int) ≤ (k : Int)) = false := by simp; omega
      have t0n : decide (n ≤ k) = false := by simp; omega
      have HL := Lib.hid hle
      clear hle
      go_wp2_with fail
      go_ret
      exact ⟨Says.no fun x => HL.out x.2, HB1.out⟩
  · have HE := Lib.hid (fun (x : Ok m ∧ n ≤ k) => hok x.1)
    clear hs hok
    go_wp2_with fail
    go_ret
    exact ⟨Says.no HE.out, HB1.out⟩
end Go.Proofs.Ytfhddbjojpmbcaa.DfaW
