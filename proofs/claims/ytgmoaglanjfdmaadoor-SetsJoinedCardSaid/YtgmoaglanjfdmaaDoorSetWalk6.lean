/- Walks of layer 2: the document's Not, Of; Union. -/
import Derived.Test.YtgmoaglanjfdmaaDoorSetWalk5
import Derived.StillTailTactics
namespace Go.Proofs.YtgmoaglanjfdmaaDoor.SetW
set_option linter.unusedVariables false
open Go.RowKit Go.Proofs.YtgmoaglanjfdmaaDoor.SetM
open Go.Proofs.YtgmoaglanjfdmaaDoor.Base (BSl bytes_below)

theorem refNot_any (f : Nat → Bool) (w : World) :
    Calls Tryd.prog 18 #[SV f] w fun e w' => e = .returned (SV (notF f)) ∧ Below w.heap.size w w' := by
  have h1 := fun W => refSpan_any 0 255 (by decide) (by decide) W
  have h2 := fun W => Two2_any (spanF 0 256) f W
  rw [SV_congr (f := lessF (spanF 0 256) f) (g := notF f) (fun i hi => by simp [lessF, notF, spanF, hi])] at h2
  have H1 := Lib.hid h1; have H2 := Lib.hid h2; clear h1 h2
  obtain ⟨A, hA⟩ : ∃ A, A = w.heap.size := ⟨_, rfl⟩
  have HA := Lib.hid hA; clear hA
  go_enter Tryd.func18, Tryd.ntmps18
  go_wp2_with fail
  have hb0 : Below w.heap.size w ((w.alloc (.cells #[.int .u64 (wd f 0), .int .u64 (wd f 1), .int .u64 (wd f 2), .int .u64 (wd f 3)] 25)).alloc (.cells #[.int .u64 0, .int .u64 0, .int .u64 0, .int .u64 0] 25)) :=
    ((Below.refl _ _).alloc (Nat.le_refl _) _).alloc (by simp) _
  have hF := ((HoldsS.new w f 25).alloc (.cells #[.int .u64 0, .int .u64 0, .int .u64 0, .int .u64 0] 25))
  have hR := HoldsS.zero2 w (.cells #[.int .u64 (wd f 0), .int .u64 (wd f 1), .int .u64 (wd f 2), .int .u64 (wd f 3)] 25) 25
  generalize ((w.alloc (.cells #[.int .u64 (wd f 0), .int .u64 (wd f 1), .int .u64 (wd f 2), .int .u64 (wd f 3)] 25)).alloc (.cells #[.int .u64 0, .int .u64 0, .int .u64 0, .int .u64 0] 25)) = W0 at *
  rw [← HA.out] at hF hR ⊢
  have nF : A + 1 ≠ A := by omega
  have c0 := hF.drew.c0; have c1 := hF.drew.c1; have c2 := hF.drew.c2; have c3 := hF.drew.c3
  go_region_held3 (fun w' => w'.cell? ⟨A, 0, none⟩ = some (.int .u64 (wd f 0)) ∧ w'.cell? ⟨A, 1, none⟩ = some (.int .u64 (wd f 1)) ∧ w'.cell? ⟨A, 2, none⟩ = some (.int .u64 (wd f 2)) ∧ w'.cell? ⟨A, 3, none⟩ = some (.int .u64 (wd f 3)))
    (first | (with_reducible exact ⟨c0, c1, c2, c3⟩) | (with_reducible exact ⟨(hF2.other nF _).c0, (hF2.other nF _).c1, (hF2.other nF _).c2, (hF2.other nF _).c3⟩))
    (first
      | (go_at_call 10; refine (H1.out _).mono ?_; rintro e w1 ⟨rfl, hb1⟩; have hF1 := hF.drew.below hb1; have hR1 := hR.drew.below hb1; have c0 := hF1.c0; have c1 := hF1.c1; have c2 := hF1.c2; have c3 := hF1.c3)
      | (go_at_call 14; refine (H2.out _).mono ?_; rintro e w2 ⟨rfl, hb2⟩; have hF2 := hF1.below hb2; have hR2 := hR1.below hb2; have c0 := hF2.c0; have c1 := hF2.c1; have c2 := hF2.c2; have c3 := hF2.c3; have r0 := hR2.c0; have r1 := hR2.c1; have r2 := hR2.c2; have r3 := hR2.c3; have z0 := hR2.z0; have z1 := hR2.z1; have z2 := hR2.z2; have z3 := hR2.z3))
  go_wp2_with fail
  have q := hR2.store (notF f)
  have hb : Below w.heap.size w w2 := hb0.drew.trans (hb1.mono hb0.size |>.trans (hb2.mono (Nat.le_trans hb0.size hb1.size)))
  exact bodyPost_ret (v := SV (notF f)) (by simp [results, Tryd.results18, go_sem, q.c0, q.c1, q.c2, q.c3]) rfl ⟨rfl, below_put4 hb (by rw [HA.out]; omega) _⟩

set_option maxHeartbeats 1000000 in
theorem refOf_any (v : Value) (s : ByteArray) (w : World) (hv : BSl w v s) :
    Calls Tryd.prog 8 #[v] w fun e w' => e = .returned (SV (ofF s.data.toList)) ∧ Below w.heap.size w w' := by
  have HV := Lib.hid hv
  obtain ⟨len, cap, a, hvv, hll, hmx⟩ : ∃ len cap a, v = .slice a len cap ∧ s.size = len ∧ len ≤ 9223372036854775807 := by
    rcases hv with ⟨_, h1, h2⟩ | ⟨b, o, cap, h1, h2, h3, _⟩
    · exact ⟨_, _, _, h1, by rw [h2]; rfl, by omega⟩
    · exact ⟨_, _, _, h1, rfl, by unfold maxLen at h3; omega⟩
  subst hvv
  have HL := Lib.hid hll
  clear hll
  obtain ⟨B, hB⟩ : ∃ B, B = w.heap.size + 1 := ⟨_, rfl⟩
  obtain ⟨R, hR⟩ : ∃ R, R = w.heap.size := ⟨_, rfl⟩
  have HB := Lib.hid hB; clear hB
  have HR := Lib.hid hR; clear hR
  go_enter Tryd.func8, Tryd.ntmps8
  go_wp2_with fail
  rw [← HB.out, ← HR.out]
  go_loopw [4] (fun i wr => ∃ k : Nat, k ≤ len ∧ i = .int .i64 k ∧ HoldsS wr R emptyF ∧ HoldsS wr B (ofF (s.data.toList.take k)) ∧ Below w.heap.size w wr) (fun i _ => len - (intOf i).toNat)
  case atStart =>
    refine ⟨0, Nat.zero_le _, rfl, ?_, ?_, ?_⟩
    · rw [HR.out]; exact (HoldsS.zero _ _).alloc _
    · rw [List.take_zero, ofF_nil, HB.out]; exact HoldsS.zero2 _ _ _
    · exact ((Below.refl _ _).alloc (Nat.le_refl _) _).alloc (by simp) _
  case round =>
    obtain ⟨k, hk, rfl, hR, hS, hb⟩ := hrel
    by_cases hlt : k < len
    · have hks : k < s.size := by rw [HL.out]; exact hlt
      obtain ⟨b, o, rfl, hc, hbl⟩ : ∃ b o, a = some ⟨b, o, none⟩ ∧ wr.cell? ⟨b, o + k, none⟩ = some (.int .u8 (s[k].toNat : Int)) ∧ b < w.heap.size := by
        rcases HV.out with ⟨_, h1, h2⟩ | ⟨b, o, c, h1, _, _, h4⟩
        · subst h2; exact absurd hks (by simp)
        · simp only [Value.slice.injEq] at h1
          exact ⟨b, o, h1.1, bytes_below h4 hb k hks, World.block_lt_of_cell? _ _ (h4 k hks)⟩
      have HS := Lib.hid (ofF_succ s k hks)
      have hx := byte_lt s[k]
      generalize hy : s[k].toNat = x at *
      clear hy
      generalize hg : ofF (s.data.toList.take k) = g at *
      clear hg
      have H1 := Lib.hid (fun W => With_any g x hx W)
      have nB : B ≠ R := by rw [HB.out, HR.out]; omega
      have nb : b ≠ B := by rw [HB.out]; omega
      have c0 := hS.drew.c0; have c1 := hS.drew.c1; have c2 := hS.drew.c2; have c3 := hS.drew.c3
      have hcd : wr.drew.cell? ⟨b, o + k, none⟩ = some (.int .u8 (x : Int)) := hc
      go_wp2_with fail
      go_still_tail 6, (by kernel_rfl)
      change wpList _ _ _ _ _ wr.drew
      have hRd := hR.drew
      have hSd := hS.drew
      have hbd := hb.drew
      generalize wr.drew = wd2 at *
      go_wp2_with fail
      refine (H1.out _).mono ?_
      rintro e w1 ⟨rfl, hb1⟩
      have hS1 := hSd.below hb1
      have hR1 := hRd.below hb1
      have hb2 := hbd.trans (hb1.mono hbd.size)
      clear c0 c1 c2 c3
      have c0 := hS1.c0
      have c1 := hS1.c1
      have c2 := hS1.c2
      have c3 := hS1.c3
      have z0 := hS1.z0
      have z1 := hS1.z1
      have z2 := hS1.z2
      have z3 := hS1.z3
      go_wp2_with fail
      refine ⟨⟨k + 1, by omega, by go_num, hR1.other nB _, ?_, below_put4 hb2 (by rw [HB.out]; omega) _⟩, by simp [intOf]; omega⟩
      rw [HS.out]
      exact hS1.store _
    · have HE := Lib.hid (show s.data.toList.take k = s.data.toList from List.take_of_length_le (by have := HL.out; simp; omega))
      have c0 := hS.c0
      have c1 := hS.c1
      have c2 := hS.c2
      have c3 := hS.c3
      have z0 := hS.z0
      have z1 := hS.z1
      have z2 := hS.z2
      have z3 := hS.z3
      have d0 := hR.c0
      have d1 := hR.c1
      have d2 := hR.c2
      have d3 := hR.c3
      have y0 := hR.z0
      have y1 := hR.z1
      have y2 := hR.z2
      have y3 := hR.z3
      go_wp2_with fail
      rw [HE.out]
      have q := hR.store (ofF s.data.toList)
      exact bodyPost_ret (v := SV _) (by simp [results, Tryd.results8, go_sem, q.c0, q.c1, q.c2, q.c3]) rfl ⟨rfl, below_put4 hb (by rw [HR.out]; omega) _⟩
end Go.Proofs.YtgmoaglanjfdmaaDoor.SetW
