/- Walks of the document's Finer, Stable. -/
import Derived.Test.YthefhkgjadfhgaaRefJoin
import Derived.Test.YthefhkgjadfhgaaRightF
namespace Go.Proofs.Ythefhkgjadfhgaa.DfaW
set_option linter.unusedVariables false
set_option linter.unusedSimpArgs false
open Go.Proofs.Ythefhkgjadfhgaa.RegionU (Up wpW_taken wpW_takenY wpW_one wpW_two wpW_done1 wpW_done2 wpW_done3 wpW_have wp_region_W)
open Go.RowKit Go.Maps Go.Proofs.Ythefhkgjadfhgaa.PartM Go.Proofs.Ythefhkgjadfhgaa.PartW
theorem finer_iff {a b : List Int} : FinerP a b ↔ a.length = b.length ∧ ∀ i, i < a.length → b.getD (fst (blkE a) i) 0 = b.getD i 0 := by
  constructor
  · rintro ⟨h1, h2⟩
    exact ⟨h1, fun i hi => h2 _ _ (fst_lt _ hi) hi (fst_blk a i)⟩
  · rintro ⟨h1, h2⟩
    refine ⟨h1, fun i j hi hj h => ?_⟩
    rw [← h2 i hi, ← h2 j hj, fst_congr (blkE_eqv a) (blkE_iff.2 h)]
theorem stable_iff {m : Mc} {l : List Int} : StableP m l ↔ Ok m ∧ l.length = m.lb.length ∧ ∀ s, s < l.length → m.lb.getD s 0 = m.lb.getD (fst (blkE l) s) 0 ∧ ∀ k : Nat, (k : Int) < m.wd → l.getD (at2 m.nx s k) 0 = l.getD (at2 m.nx (fst (blkE l) s) k) 0 := by
  constructor
  · rintro ⟨h1, h2, h3⟩
    exact ⟨h1, h2, fun s hs => h3 s _ hs (fst_lt _ hs) (fst_blk l s).symm⟩
  · rintro ⟨h1, h2, h3⟩
    refine ⟨h1, h2, fun s t hs ht h => ?_⟩
    have e := fst_congr (blkE_eqv l) (blkE_iff.2 h)
    have h4 := h3 s hs
    have h5 := h3 t ht
    rw [e] at h4
    exact ⟨h4.1.trans h5.1.symm, fun k hk => (h4.2 k hk).trans (h5.2 k hk).symm⟩
theorem Dr.cell {w W : World} (h : Dr w W) (p : Addr) : W.cell? p = w.cell? p := by obtain ⟨q, rfl⟩ := h; rfl
set_option maxRecDepth 100000 in
set_option maxHeartbeats 8000000 in
theorem refFiner_any {va vb : Value} {a b : List Int} (w : World) (ha : IS w.heap.size w va a) (hb : IS w.heap.size w vb b) :
    Calls Try.prog 12 #[va, vb] w fun e w' => Says e (FinerP a b) ∧ Below w.heap.size w w' := by
  have HF := Lib.hid (fun W (hb : Below w.heap.size w W) i hi => first_any W (ha.below hb) i hi)
  obtain ⟨a1, c1, rfl, g1, g2, g3⟩ := ha.open
  obtain ⟨a2, c2, rfl, k1, k2, k3⟩ := hb.open
  obtain ⟨na, hna⟩ : ∃ n, n = a.length := ⟨_, rfl⟩
  obtain ⟨nb, hnb⟩ : ∃ n, n = b.length := ⟨_, rfl⟩
  have hma : (na : Int) ≤ 9223372036854775807 := by unfold maxLen at g2; omega
  have hmb : (nb : Int) ≤ 9223372036854775807 := by unfold maxLen at k2; omega
  have HN := Lib.hid (show na = a.length ∧ nb = b.length from ⟨hna, hnb⟩)
  have HP := Lib.hid (show FinerP a b ↔ na = nb ∧ ∀ i, i < na → b.getD (fst (blkE a) i) 0 = b.getD i 0 by rw [hna, hnb]; exact finer_iff)
  rw [← hna] at g3 HF ⊢
  rw [← hnb] at k3 ⊢
  have HCA := Lib.hid g3; have HCB := Lib.hid k3
  clear ha hb g1 g2 g3 k1 k2 k3 hna hnb
  by_cases hq : na = nb
  case neg =>
    have t0 : ((na : Int) != (nb : Int)) = true := by simp; omega
    have HQ := Lib.hid hq
    clear hq
    go_enter Try.func12, Try.ntmps12
    go_wp2_with fail
    go_ret
    exact ⟨Says.no fun e => HQ.out (HP.out.1 e).1, Below.refl _ _⟩
  subst hq
  go_enter Try.func12, Try.ntmps12
  go_wp2_with fail
  go_loopw [5] (fun i wr => ∃ k : Nat, k ≤ na ∧ i = .int .i64 k ∧ Hid (∀ i, i < k → b.getD (fst (blkE a) i) 0 = b.getD i 0) ∧ Below w.heap.size w wr) (fun i _ => na - (intOf i).toNat)
  case atStart => exact ⟨0, Nat.zero_le _, rfl, Lib.hid fun j hj => absurd hj (Nat.not_lt_zero _), Below.refl _ _⟩
  case round =>
    obtain ⟨k, hk, rfl, HA, hb⟩ := hrel
    by_cases hlt : k < na
    · obtain ⟨b1, o1, rfl, hb1, hc1⟩ := HCA.out k hlt
      obtain ⟨b2, o2, rfl, hb2, hc2⟩ := HCB.out k hlt
      obtain ⟨f, hf⟩ : ∃ f, f = fst (blkE a) k := ⟨_, rfl⟩
      have hfk : f ≤ k := by rw [hf]; exact fst_le _ _
      have hfn : f < na := by omega
      obtain ⟨_, _, e2, hb3, hc3⟩ := HCB.out f hfn
      simp only [Option.some.injEq, Addr.mk.injEq, and_true] at e2
      obtain ⟨rfl, rfl⟩ := e2
      obtain ⟨x, hx⟩ : ∃ x, x = a.getD k 0 := ⟨_, rfl⟩
      obtain ⟨y, hy⟩ : ∃ y, y = b.getD k 0 := ⟨_, rfl⟩
      obtain ⟨z, hz⟩ : ∃ z, z = b.getD f 0 := ⟨_, rfl⟩
      rw [← hx] at hc1
      rw [← hy] at hc2
      rw [← hz] at hc3
      have hsz := hb.size
      have HC1 := Lib.hid (show b1 < wr.heap.size ∧ wr.cell? ⟨b1, o1 + k, none⟩ = _ from ⟨by omega, (hb.cell (p := ⟨b1, o1 + k, none⟩) hb1).trans hc1⟩)
      have HC2 := Lib.hid (show b2 < wr.heap.size ∧ wr.cell? ⟨b2, o2 + k, none⟩ = _ from ⟨by omega, (hb.cell (p := ⟨b2, o2 + k, none⟩) hb2).trans hc2⟩)
      have HC3 := Lib.hid (show b2 < wr.heap.size ∧ wr.cell? ⟨b2, o2 + f, none⟩ = _ from ⟨by omega, (hb.cell (p := ⟨b2, o2 + f, none⟩) hb2).trans hc3⟩)
      have HLT := Lib.hid hlt
      have HFN := Lib.hid (show f < na ∧ (f : Int) < (na : Int) from ⟨hfn, by omega⟩)
      have HYZ := Lib.hid (show z = b.getD (fst (blkE a) k) 0 ∧ y = b.getD k 0 from ⟨by rw [hz, hf], hy⟩)
      have HCALL := Lib.hid (fun W (hW : KB wr W) => by have := HF.out W (hb.trans (Below.mono (show Below _ _ _ from hW) hb.size)) k hlt; rw [← hx, ← hf] at this; exact this)
      have HB := Lib.hid hb
      clear hb1 hb2 hb3 hc1 hc2 hc3 hf hfk hfn hx hy hz hb hsz
      have hki := HLT.out
      go_wp2_with fail
      have HD := Lib.hid (show KB wr wr.drew from (Below.refl _ _).drew)
      refine wp_region_W (fun i => decide (i < 13)) 13 1 (by kernel_rfl) (by kernel_rfl) (KB.up wr) HD.out ?_
      refine wpW_taken (i := 0) rfl (by kernel_rfl) (by kernel_rfl) (by kernel_rfl) (by kernel_rfl) (KB.up wr) ?_
      apply Exists.intro
      refine ⟨Or.inl ⟨rfl, fun W hW => ?hy⟩, ?_⟩
      case hy =>
        go_simp
        exact RegionU.does_value rfl
      simp only [Act.put, List.setIfInBounds_toArray, List.set]
      refine wpW_taken (i := 1) rfl (by kernel_rfl) (by kernel_rfl) (by kernel_rfl) (by kernel_rfl) (KB.up wr) ?_
      apply Exists.intro
      refine ⟨Or.inl ⟨rfl, fun W hW => ?hy⟩, ?_⟩
      case hy =>
        go_simp
        exact RegionU.does_value rfl
      simp only [Act.put, List.setIfInBounds_toArray, List.set]
      refine wpW_taken (i := 2) rfl (by kernel_rfl) (by kernel_rfl) (by kernel_rfl) (by kernel_rfl) (KB.up wr) ?_
      apply Exists.intro
      refine ⟨Or.inl ⟨rfl, fun W hW => ?hy⟩, ?_⟩
      case hy =>
        go_simp
        exact RegionU.does_value rfl
      simp only [Act.put, List.setIfInBounds_toArray, List.set]
      refine wpW_taken (i := 3) rfl (by kernel_rfl) (by kernel_rfl) (by kernel_rfl) (by kernel_rfl) (KB.up wr) ?_
      apply Exists.intro
      refine ⟨Or.inl ⟨rfl, fun W hW => ?hy⟩, ?_⟩
      case hy =>
        go_simp
        exact RegionU.does_value rfl
      simp only [Act.put, List.setIfInBounds_toArray, List.set]
      refine wpW_taken (i := 4) rfl (by kernel_rfl) (by kernel_rfl) (by kernel_rfl) (by kernel_rfl) (KB.up wr) ?_
      apply Exists.intro
      refine ⟨Or.inl ⟨rfl, fun W hW => ?hy⟩, ?_⟩
      case hy =>
        go_simp
        exact RegionU.does_value rfl
      simp only [Act.put, List.setIfInBounds_toArray, List.set]
      refine wpW_taken (i := 5) rfl (by kernel_rfl) (by kernel_rfl) (by kernel_rfl) (by kernel_rfl) (KB.up wr) ?_
      apply Exists.intro
      refine ⟨Or.inl ⟨rfl, fun W hW => ?hy⟩, ?_⟩
      case hy =>
        have d := (Below.cell (p := ⟨b1, o1 + k, none⟩) hW HC1.out.1).trans HC1.out.2
        go_simp
        exact RegionU.does_value rfl
      simp only [Act.put, List.setIfInBounds_toArray, List.set]
      refine wpW_taken (i := 6) rfl (by kernel_rfl) (by kernel_rfl) (by kernel_rfl) (by kernel_rfl) (KB.up wr) ?_
      apply Exists.intro
      refine ⟨Or.inl ⟨rfl, fun W hW => ?hy⟩, ?_⟩
      case hy =>
        go_simp
        exact RegionU.does_call ((HCALL.out W hW).mono fun e w' ⟨h, hw⟩ => ⟨h, by rw [hw]; exact Below.refl _ _⟩)
      simp only [Act.put, List.setIfInBounds_toArray, List.set]
      refine wpW_taken (i := 7) rfl (by kernel_rfl) (by kernel_rfl) (by kernel_rfl) (by kernel_rfl) (KB.up wr) ?_
      apply Exists.intro
      refine ⟨Or.inl ⟨rfl, fun W hW => ?hy⟩, ?_⟩
      case hy =>
        have h1 := HFN.out
        go_simp
        exact RegionU.does_value rfl
      simp only [Act.put, List.setIfInBounds_toArray, List.set]
      refine wpW_taken (i := 8) rfl (by kernel_rfl) (by kernel_rfl) (by kernel_rfl) (by kernel_rfl) (KB.up wr) ?_
      apply Exists.intro
      refine ⟨Or.inl ⟨rfl, fun W hW => ?hy⟩, ?_⟩
      case hy =>
        have d := (Below.cell (p := ⟨b2, o2 + f, none⟩) hW HC3.out.1).trans HC3.out.2
        go_simp
        exact RegionU.does_value rfl
      simp only [Act.put, List.setIfInBounds_toArray, List.set]
      refine wpW_taken (i := 9) rfl (by kernel_rfl) (by kernel_rfl) (by kernel_rfl) (by kernel_rfl) (KB.up wr) ?_
      apply Exists.intro
      refine ⟨Or.inl ⟨rfl, fun W hW => ?hy⟩, ?_⟩
      case hy =>
        go_simp
        exact RegionU.does_value rfl
      simp only [Act.put, List.setIfInBounds_toArray, List.set]
      refine wpW_taken (i := 10) rfl (by kernel_rfl) (by kernel_rfl) (by kernel_rfl) (by kernel_rfl) (KB.up wr) ?_
      apply Exists.intro
      refine ⟨Or.inl ⟨rfl, fun W hW => ?hy⟩, ?_⟩
      case hy =>
        go_simp
        exact RegionU.does_value rfl
      simp only [Act.put, List.setIfInBounds_toArray, List.set]
      refine wpW_taken (i := 11) rfl (by kernel_rfl) (by kernel_rfl) (by kernel_rfl) (by kernel_rfl) (KB.up wr) ?_
      apply Exists.intro
      refine ⟨Or.inl ⟨rfl, fun W hW => ?hy⟩, ?_⟩
      case hy =>
        go_simp
        exact RegionU.does_value rfl
      simp only [Act.put, List.setIfInBounds_toArray, List.set]
      refine wpW_taken (i := 12) rfl (by kernel_rfl) (by kernel_rfl) (by kernel_rfl) (by kernel_rfl) (KB.up wr) ?_
      apply Exists.intro
      refine ⟨Or.inl ⟨rfl, fun W hW => ?hy⟩, ?_⟩
      case hy =>
        have d := (Below.cell (p := ⟨b2, o2 + k, none⟩) hW HC2.out.1).trans HC2.out.2
        go_simp
        exact RegionU.does_value rfl
      simp only [Act.put, List.setIfInBounds_toArray, List.set]
      refine wpW_done1 (i := 13) rfl (by kernel_rfl) (by kernel_rfl) ?_
      intro W hW
      have HW := Lib.hid (show Below wr.heap.size wr W from hW)
      clear hW HD HC1 HC2 HC3 HCALL
      have HBW := Lib.hid (HB.out.trans (HW.out.mono HB.out.size))
      by_cases hyz : z = y
      · have t0 : (z != y) = false := by simpa using hyz
        have HE := Lib.hid hyz
        clear hyz
        go_wp2_with fail
        refine ⟨⟨k + 1, HLT.out, by go_num, Lib.hid fun i hi => ?_, HBW.out⟩, by have := HLT.out; simp [intOf]; omega⟩
        by_cases e : i = k
        · subst e; rw [← HYZ.out.1, ← HYZ.out.2]; exact HE.out
        · exact HA.out i (by omega)
      · have t0 : (z != y) = true := by simpa using hyz
        have HE := Lib.hid hyz
        clear hyz
        go_wp2_with fail
        go_ret
        exact ⟨Says.no fun e => HE.out (by rw [HYZ.out.1, HYZ.out.2]; exact (HP.out.1 e).2 k HLT.out), HBW.out⟩
    · have hkn : k = na := by omega
      have HB := Lib.hid hb
      have HE := Lib.hid (HP.out.2 ⟨by trivial, fun i hi => HA.out i (by rw [hkn]; exact hi)⟩)
      clear hb hkn
      go_wp2_with fail
      go_ret
      exact ⟨Says.yes HE.out, HB.out⟩
end Go.Proofs.Ythefhkgjadfhgaa.DfaW
