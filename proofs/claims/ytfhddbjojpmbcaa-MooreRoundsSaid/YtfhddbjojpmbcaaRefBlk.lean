/- Walks of the document's first, Norm, Join, Finer. -/
import Derived.Test.YtfhddbjojpmbcaaTexts
import Derived.Test.YtfhddbjojpmbcaaAid
namespace Go.Proofs.Ytfhddbjojpmbcaa.DfaW
set_option linter.unusedVariables false
set_option linter.unusedSimpArgs false
open Go.RowKit Go.Maps Go.Proofs.Ytfhddbjojpmbcaa.PartM Go.Proofs.Ytfhddbjojpmbcaa.PartW
theorem fst_ne {l : List Int} {i a : Nat} (h : a < fst (blkE l) i) : l.getD a 0 ≠ l.getD i 0 := fun e => by
  rcases fst_spec (blkE l) i with ⟨h1, h2⟩ | ⟨_, _, h2⟩
  · rw [h1] at h
    have := h2 a h
    rw [blkE_iff.2 e] at this; cases this
  · have := h2 a h
    rw [blkE_iff.2 e] at this; cases this
set_option maxHeartbeats 1000000 in
theorem first_any {v : Value} {l : List Int} {B : Nat} (w : World) (h : IS B w v l) (i : Nat) (hi : i < l.length) :
    Calls Try.prog 42 #[v, .int .i64 (l.getD i 0)] w fun e w' => e = .returned (.int .i64 (fst (blkE l) i : Nat)) ∧ w = w' := by
  obtain ⟨a, cap, rfl, h1, h2, h3⟩ := h.open
  obtain ⟨n, hn⟩ : ∃ n, n = l.length := ⟨_, rfl⟩
  have hm : (n : Int) ≤ 9223372036854775807 := by unfold maxLen at h2; omega
  obtain ⟨f, hf⟩ : ∃ f, f = fst (blkE l) i := ⟨_, rfl⟩
  have hfi : f ≤ i := by rw [hf]; exact fst_le _ _
  have HNE := Lib.hid (fun a (ha : a < f) => fst_ne (l := l) (i := i) (a := a) (by rw [← hf]; exact ha))
  have HEQ := Lib.hid (show l.getD f 0 = l.getD i 0 by rw [hf]; exact fst_blk l i)
  have hfn : f < n := by omega
  have HFN := Lib.hid hfn
  have HL := Lib.hid hn
  rw [← hn] at h3 ⊢
  rw [← hf]
  obtain ⟨x, hx⟩ : ∃ x, x = l.getD i 0 := ⟨_, rfl⟩
  rw [← hx] at HNE HEQ ⊢
  have HC := Lib.hid h3
  clear h h1 h2 h3 hn hf hi hx
  go_enter Try.func42, Try.ntmps42
  go_wp2_with fail
  go_loopw [5] (fun s wr => ∃ k : Nat, k ≤ f ∧ s = .int .i64 k ∧ wr = w) (fun s _ => n - (intOf s).toNat)
  case atStart => exact ⟨0, Nat.zero_le _, rfl, rfl⟩
  case round =>
    obtain ⟨k, hk, rfl, rfl⟩ := hrel
    have hfn := HFN.out
    have hlt : k < n := by omega
    obtain ⟨b, o, rfl, hb1, hc1⟩ := HC.out k hlt
    by_cases hkf : k < f
    · have hne := HNE.out k hkf
      obtain ⟨y, hy⟩ : ∃ y, y = l.getD k 0 := ⟨_, rfl⟩
      rw [← hy] at hc1 hne
      have t0 : (y == x) = false := by simpa using hne
      have HKF := Lib.hid (show k < f ∧ k < n from ⟨hkf, hlt⟩)
      clear hb1 hne hy
      go_wp2_with fail
      exact ⟨⟨k + 1, HKF.out.1, by go_num, trivial⟩, by have := HKF.out.2; simp [intOf]; omega⟩
    · have hkf' : k = f := by omega
      subst hkf'
      rw [HEQ.out] at hc1
      clear hb1
      go_wp2_with fail
      go_ret
      exact ⟨rfl, rfl⟩
set_option maxRecDepth 100000 in
set_option maxHeartbeats 4000000 in
theorem refNormB_any {v : Value} {l : List Int} (w : World) (h : IS w.heap.size w v l) (hl : l.length ≤ 1048576) :
    Calls Try.prog 27 #[v] w fun e w' => ∃ v', e = .returned v' ∧ OI w' w.heap.size v' (normV l) ∧ Below w.heap.size w w' := by
  have HF := Lib.hid (fun W (hb : Below w.heap.size w W) i hi => first_any W (h.below hb) i hi)
  obtain ⟨a, cap, rfl, h1, h2, h3⟩ := h.open
  obtain ⟨n, hn⟩ : ∃ n, n = l.length := ⟨_, rfl⟩
  have hni : (n : Int) ≤ 1048576 := by omega
  have HN := Lib.hid (show n = l.length ∧ n ≤ 1048576 from ⟨hn, by omega⟩)
  rw [← hn] at h3 HF ⊢
  have HC := Lib.hid h3
  have HO0 := Lib.hid (OI.empty w)
  have HB0 := Lib.hid (show Below w.heap.size w (w.alloc (.cells #[] 3)) from (Below.refl _ _).alloc (Nat.le_refl _) _)
  clear h h1 h2 h3 hn hl
  go_enter Try.func27, Try.ntmps27
  go_wp2_with fail
  go_loopw [3, 4, 5] (fun u t i wr => ∃ k : Nat, k ≤ n ∧ i = .int .i64 k ∧ t = .int .i64 (rk (blkE l) k : Nat) ∧ OI wr w.heap.size u (numsTo (blkE l) k) ∧ Below w.heap.size w wr) (fun _ _ i _ => n - (intOf i).toNat)
  case atStart => exact ⟨0, Nat.zero_le _, rfl, rfl, HO0.out, HB0.out⟩
  case round =>
    obtain ⟨k, hk, rfl, rfl, ho, hb⟩ := hrel
    have hrk : rk (blkE l) k ≤ k := rk_le _
    obtain ⟨au, cu, rfl, _, _⟩ := ho.len
    rw [numsTo_len] at ho ⊢
    have HB := Lib.hid hb
    by_cases hlt : k < n
    · obtain ⟨b, o, rfl, hb1, hc1⟩ := HC.out k hlt
      have c1 := (hb.cell (p := ⟨b, o + k, none⟩) hb1).trans hc1
      have HLT := Lib.hid hlt
      obtain ⟨x, hx⟩ : ∃ x, x = l.getD k 0 := ⟨_, rfl⟩
      have hcall := HF.out wr hb k hlt
      rw [← hx] at c1 hcall
      obtain ⟨f, hf⟩ : ∃ f, f = fst (blkE l) k := ⟨_, rfl⟩
      rw [← hf] at hcall
      have hfk : f ≤ k := by rw [hf]; exact fst_le _ _
      have HCALL := Lib.hid hcall
      have HO := Lib.hid ho
      have HFE := Lib.hid hf
      obtain ⟨t, ht⟩ : ∃ t, t = rk (blkE l) k := ⟨_, rfl⟩
      have HT := Lib.hid ht
      rw [← ht] at hrk ⊢
      clear ho hb hc1 hb1 hx hcall hf ht
      go_wp2_with fail
      refine HCALL.out.mono ?_
      rintro e w1 ⟨rfl, rfl⟩
      by_cases hfe : f = k
      · have t0 : ((f : Int) == (k : Int)) = true := by simp [hfe]
        have HFK := Lib.hid (show fst (blkE l) k = k by rw [← HFE.out]; exact hfe)
        have HO2 := Lib.hid (HO.out.below ((Below.refl _ wr).alloc (Nat.le_refl _) (.cells #[.int .i64 (t : Int)] 3)))
        have HB2 := Lib.hid (HB.out.trans ((Below.refl w.heap.size wr).alloc HB.out.size (.cells #[.int .i64 (t : Int)] 3)))
        clear hfe HCALL
        go_wp2_with (at_builtin; refine wpList_append_int rfl (.tmp 23) (.tmp 25) rfl rfl HO2.out (by simp only [World.size_alloc]; exact Nat.le_trans HB.out.size (Nat.le_succ _)) ⟨wr.heap.size, 0, none⟩ 1 (t : Int) rfl (by rw [World.cell?_alloc_new]; rfl) rfl (by rw [numsTo_len]; have := HLT.out; have := HN.out.2; omega) ?_; intro v' w5 hO5 hb5; have HO5 := Lib.hid hO5; have HB5 := Lib.hid hb5; clear hO5 hb5; go_frame)
        refine ⟨⟨k + 1, HLT.out, by go_num, ?_, ?_, HB2.out.trans HB5.out⟩, by have := HLT.out; simp [intOf]; omega⟩
        · rw [rk_new HFK.out, ← HT.out]; go_num
        · rw [numsTo_succ, nm_first HFK.out, ← HT.out]; exact HO5.out
      · have t0 : ((f : Int) == (k : Int)) = false := by simp; omega
        have hfl : f < k := by omega
        have HFK := Lib.hid (show fst (blkE l) k ≠ k by rw [← HFE.out]; exact hfe)
        obtain ⟨bq, oq, rfl, _, hcq⟩ := HO.out.is.cell (i := f) (by rw [numsTo_len]; exact hfl)
        rw [numsTo_at _ hfl] at hcq
        have hnm : nm (blkE l) f = nm (blkE l) k := by rw [HFE.out]; exact nm_congr (blkE_eqv l) (fst_alike (blkE_eqv l) k)
        rw [hnm] at hcq
        have hnk := nm_le (E := blkE l) k
        obtain ⟨q, hq⟩ : ∃ q, q = nm (blkE l) k := ⟨_, rfl⟩
        rw [← hq] at hcq hnk
        have HQ := Lib.hid hq
        have HO2 := Lib.hid (HO.out.below ((Below.refl _ wr).alloc (Nat.le_refl _) (.cells #[.int .i64 (q : Int)] 3)))
        have HB2 := Lib.hid (HB.out.trans ((Below.refl w.heap.size wr).alloc HB.out.size (.cells #[.int .i64 (q : Int)] 3)))
        clear hfe HCALL hnm hq
        go_wp2_with (at_builtin; refine wpList_append_int rfl (.tmp 29) (.tmp 34) rfl rfl HO2.out (by simp only [World.size_alloc]; exact Nat.le_trans HB.out.size (Nat.le_succ _)) ⟨wr.heap.size, 0, none⟩ 1 (q : Int) rfl (by rw [World.cell?_alloc_new]; rfl) rfl (by rw [numsTo_len]; have := HLT.out; have := HN.out.2; omega) ?_; intro v' w5 hO5 hb5; have HO5 := Lib.hid hO5; have HB5 := Lib.hid hb5; clear hO5 hb5; go_frame)
        refine ⟨⟨k + 1, HLT.out, by go_num, ?_, ?_, HB2.out.trans HB5.out⟩, by have := HLT.out; simp [intOf]; omega⟩
        · rw [rk_old HFK.out, ← HT.out]
        · rw [numsTo_succ, ← HQ.out]; exact HO5.out
    · have hkn : k = n := by omega
      have HO := Lib.hid ho
      have HE := Lib.hid (show numsTo (blkE l) k = normV l by unfold normV; rw [hkn, HN.out.1])
      clear ho hb hkn
      go_wp2_with fail
      go_ret
      refine ⟨_, rfl, ?_, HB.out⟩
      rw [← HE.out]
      have := HO.out
      unfold OI at this ⊢
      rw [numsTo_len] at this ⊢
      exact this
end Go.Proofs.Ytfhddbjojpmbcaa.DfaW
