/- Walk of join, the walk itself. -/
import Derived.Test.YtfhddbjojpmbcaaJoinW
namespace Go.Proofs.Ytfhddbjojpmbcaa.DfaW
set_option linter.unusedVariables false
set_option linter.unusedSimpArgs false
open Go.RowKit Go.Maps Go.Proofs.Ytfhddbjojpmbcaa.PartM Go.Proofs.Ytfhddbjojpmbcaa.PartW
theorem latL_zero (E G : Nat → Nat → Bool) (n : Nat) : latL E G 0 n = fillL n n := List.ext_getElem? fun i => by
  by_cases h : i < n
  · rw [latL_at E G h, fillL_at (Nat.le_refl _) h]; rfl
  · rw [List.getElem?_eq_none (by rw [latL_len]; omega), List.getElem?_eq_none (by rw [fillL_len (Nat.le_refl _)]; omega)]
section
variable {w W : World} {B B0 A M g n c s k r q : Nat} {KL : Nat → Lit} {E : Nat → Nat → Bool} {f : Nat → Int} {t : Value}
theorem JnK.more (h : JnK w B B0 A M g n c KL E f s k r q t W) {k' : Nat} (hk : k ≤ k') : JnK w B B0 A M g n c KL E f s k' r q t W := by
  obtain ⟨D, h1, h2⟩ := h.m
  exact ⟨h.a, h.o, ⟨D, h1.mono hk, h2⟩, h.b, h.gr, h.sz⟩
/-- The map told more of. -/
theorem JnK.met (h : JnK w B B0 A M g n c KL E f s k r q t W) {D : DataW Unit} (h1 : W.ownsMap Try.prog 64 (plainElem Try.prog 3) M k D) {q' : Nat} (h2 : Met D n KL E (joinE E f) q') : JnK w B B0 A M g n c KL E f s k r q' t W :=
  ⟨h.a, h.o, ⟨D, h1, h2⟩, h.b, h.gr, h.sz⟩
theorem JnK.told (h : JnK w B B0 A M g n c KL E f s k r q t W) {r' : Nat} (e : toldI (joinE E f) f r' = toldI (joinE E f) f r) : JnK w B B0 A M g n c KL E f s k r' q t W :=
  ⟨h.a, by rw [e]; exact h.o, h.m, h.b, h.gr, h.sz⟩
end
set_option maxRecDepth 100000 in
set_option maxHeartbeats 8000000 in
theorem join_any {w : World} {B g n c : Nat} {E : Nat → Nat → Bool} {f : Nat → Int} (P1 P2 P3 : Addr) (hE : Eqv E) (h0 : 0 < n) (hn : n ≤ 1048576) (hf : ∀ i, i < n → (Lit.int .i64 (f i)).wf = true)
    (hO : OI w B (.slice (some ⟨g, 0, none⟩) n c) (numsTo E n))
    (hclo : ∀ W, w.grownBy W (some g) → ∀ i, i < n → Calls Try.prog 55 #[.int .i64 i, .pointer (some P1), .pointer (some P2), .pointer (some P3)] W fun e W' => e = .returned (.int .i64 (f i)) ∧ W.drew = W') :
    Calls Try.prog 54 #[.slice (some ⟨g, 0, none⟩) n c, .func (.func 55) #[] #[.pointer (some P1), .pointer (some P2), .pointer (some P3)]] w fun e w' =>
      (∃ v, e = .returned v) ∧ OI w' B (.slice (some ⟨g, 0, none⟩) n c) (numsTo (joinE E f) n) ∧ w.grownBy w' (some g) := by
  have HK := Lib.hid (keysP (n := n) (f := fun i => (nm E i : Nat)) (g := f) (E := joinE E f) (fun b hb => by have := nm_le (E := E) b; exact wf_i64 (by omega) (by omega)) hf (fun a b ha hb => by
    rw [joinE_iff, nm_iff hE, beq_iff_eq]
    constructor <;> rintro ⟨h1, h2⟩ <;> exact ⟨by omega, h2⟩))
  generalize hKL : (fun b => (keyOf Try.prog 64 (KVP (fun i => (nm E i : Nat)) f b)).getD (.bool false)) = KL at HK
  clear hKL
  have HE := Lib.hid hE
  have HCL := Lib.hid hclo
  have HNN := Lib.hid (show 0 < n ∧ n ≤ 1048576 from ⟨h0, hn⟩)
  have hni : (n : Int) ≤ 1048576 := by omega
  have hmm := @run_makeMap Try.prog
  have hg : g < w.heap.size := (hO.cellAt (j := 0) (by rw [numsTo_len]; exact h0)).2.2.1
  have HOO := Lib.hid hO; have HG := Lib.hid hg
  have HF := Lib.hid hf
  clear hE hclo hO hg hf
  go_enter Try.func54, Try.ntmps54
  go_wp2_with fail
  refine (Repeat_any (b := w.heap.size) (o := 0) (c := 1) _ ((World.cell?_alloc_new w #[.int .i64 (-1)] 3 0).trans rfl) HNN.out.1 HNN.out.2).mono ?_
  rintro e w1 ⟨rfl, hA, hB⟩
  have hs1 : (w.alloc (.cells #[.int .i64 (-1)] 3)).heap.size = w.heap.size + 1 := by simp
  obtain ⟨A, hAe⟩ : ∃ A, A = (w.alloc (.cells #[.int .i64 (-1)] 3)).heap.size := ⟨_, rfl⟩
  have hB1 : Below w.heap.size w w1 := ((Below.refl w.heap.size w).alloc (Nat.le_refl _) (.cells #[.int .i64 (-1)] 3)).trans (hB.mono (by rw [hs1]; omega))
  rw [← hAe] at hA ⊢
  have hA1 := Ar.lt hA
  have hmap := World.ownsMap_made (H := Unit) w1 Try.prog 64 (plainElem Try.prog 3)
  have hb2 : Below w1.heap.size w1 (w1.alloc (.map #[] 0)) := (Below.refl _ _).alloc (Nat.le_refl _) _
  have hB2 : Below w.heap.size w (w1.alloc (.map #[] 0)) := hB1.trans (hb2.mono hB1.size)
  obtain ⟨M, hMe⟩ : ∃ M, M = w1.heap.size := ⟨_, rfl⟩
  have HP := Lib.hid (show JnP w (M + 1) A M g from ⟨⟨by omega, by omega⟩, ⟨by have := hB1.size; omega, by omega⟩, by omega, HG.out⟩)
  have HJ0 := Lib.hid (show JnK w B (M + 1) A M g n c KL E f 0 0 0 0 (.slice none 0 0) (w1.alloc (.map #[] 0)) from
    ⟨by rw [latL_zero]; exact ar_keep hA (hb2.block A hA1),
      OI.nil _ _, ⟨.map [], by rw [hMe]; exact hmap, Met.none _ _ _ _⟩, by rw [mixI_zero]; exact HOO.out.below hB2,
      ⟨hB2.os, hB2.tape, hB2.output, hB2.size, fun i hi _ => hB2.block i hi⟩, by rw [World.size_alloc]; omega⟩)
  clear hA hB hs1 hB1 hAe hA1 hmap hb2 hB2 h0 hn HG HOO
  go_wp2_with fail
  clear hmm
  rw [← hMe]
  generalize w1.alloc (.map #[] 0) = w0 at *
  clear hMe
  go_loopw [5, 20] (fun u i wr => ∃ s : Nat, s ≤ n ∧ i = .int .i64 s ∧ JnK w B (M + 1) A M g n c KL E f s s s s u wr) (fun _ i _ => n - (intOf i).toNat)
  case atStart => exact ⟨0, Nat.zero_le _, rfl, HJ0.out⟩
  case round =>
    obtain ⟨s, hs, rfl, hJ⟩ := hrel
    clear HJ0
    by_cases hlt : s < n
    · obtain ⟨D, hM, hMet⟩ := hJ.m
      have hbn : nm E s < n := by have := nm_le (E := E) s; omega
      have x1 := (hJ.b.cellAt (j := s) (by rw [mixI_len]; exact hlt)).1
      rw [mixI_at _ _ hlt] at x1
      have x2 : wr.cell? ⟨A, nm E s, none⟩ = some (.int .i64 (lat E (joinE E f) s (nm E s))) := (Ar.at' hJ.a _).trans (by rw [List.getElem?_toArray]; exact latL_at _ _ hbn)
      have HCALL := Lib.hid (fun i => HCL.out (wr.drewN i) (hJ.drewN i).gr s hlt)
      obtain ⟨au, cu, e, _, _⟩ := hJ.o.len
      rw [toldI_len] at e
      subst e
      have HMET := Lib.hid hMet; have HM := Lib.hid hM; have HJ := Lib.hid hJ; have HLT := Lib.hid hlt
      have hrk := rk_le (E := joinE E f) s
      obtain ⟨b, hbe⟩ : ∃ b, b = nm E s := ⟨_, rfl⟩
      have HBE := Lib.hid hbe
      obtain ⟨x, hx⟩ : ∃ x, x = f s := ⟨_, rfl⟩
      have HXE := Lib.hid hx
      rw [← hx] at HCALL
      rcases lat_cases E (joinE E f) (nm E s) s with ⟨hno, hl⟩ | ⟨i, hi, he, hl⟩
      · obtain ⟨hfst, hmet⟩ := hMet.first HE.out hl
        rw [hl] at x2
        rw [← hbe] at x1 x2 hbn
        have HFST := Lib.hid hfst; have HMET2 := Lib.hid hmet
        obtain ⟨R, hR⟩ : ∃ R, R = rk (joinE E f) s := ⟨_, rfl⟩
        have HRE := Lib.hid (show R = nm (joinE E f) s by rw [nm_first hfst, hR])
        rw [← hR] at hrk ⊢
        rw [← hR] at HJ
        have hRi : (R : Int) ≤ 1048576 := by have := HNN.out; omega
        clear hJ hM hMet hbe hx hno hl hfst hmet hR
        go_wp2_with fail
        go_quiet ((go_at_call 55; exact Calls.quiet_of ((HCALL.out _).mono fun e w' ⟨h1, h2⟩ => ⟨h1, 1, h2.symm⟩)))
        have HJ1 := Lib.hid ((HJ.out.met HM.out HMET2.out).drewN nq)
        obtain ⟨W1, hW1⟩ : ∃ W1, W1 = wr.drewN nq := ⟨_, rfl⟩
        rw [← hW1] at HJ1 ⊢
        clear hW1 HCALL HJ x1 x2
        go_wp2_with (at_builtin; refine wpList_append_int rfl (.tmp 36) (.tmp 38) rfl rfl (HJ1.out.o.below ((Below.refl _ W1).alloc (Nat.le_refl _) _)) (by simp only [World.size_alloc]; exact Nat.le_trans HJ1.out.sz (Nat.le_succ _)) ⟨W1.heap.size, 0, none⟩ 1 x rfl (by rw [World.cell?_alloc_new]; rfl) rfl (by rw [toldI_len]; have := rk_le (E := joinE E f) s; have := HNN.out; have := HLT.out; omega) ?_; intro v' w5 hO5 hb5; have hJ5 := HJ1.out.past HP.out (((Below.refl (M + 1) W1).alloc HJ1.out.sz (.cells #[.int .i64 x] 3)).trans hb5) (t' := v') (r' := s + 1) (by rw [toldI_new f HFST.out, ← HXE.out]; exact hO5); have htwo := hJ5.two HP.out HLT.out (.int .i64 (R : Nat)); rw [← HBE.out] at htwo; obtain ⟨f1, ⟨u1, q1⟩, f2, ⟨u2, q2⟩⟩ := htwo; have HJ5 := Lib.hid hJ5; clear hJ5 hO5 hb5)
        refine ⟨⟨s + 1, by have := HLT.out; omega, by go_num, ?_⟩, by have := HLT.out; simp [intOf]; omega⟩
        have h := (HJ5.out.end HP.out HLT.out).more (Nat.le_succ s)
        rw [← HBE.out, ← HRE.out] at h
        exact h
      · obtain ⟨a', cap', e, _, _, hc⟩ := hJ.o.is.open
        rw [toldI_len] at e hc
        simp only [Value.slice.injEq, true_and] at e
        obtain ⟨rfl, rfl⟩ := e
        have hpl := nm_lt (joinE_eqv HE.out f) hi
        obtain ⟨bt, ot, rfl, _, y1⟩ := hc _ hpl
        rw [toldI_at HE.out f hi] at y1
        rw [hl] at x2
        obtain ⟨L, hL⟩ : ∃ L, L = rk (joinE E f) s := ⟨_, rfl⟩
        have hLi : (L : Int) ≤ 1048576 := by have := HNN.out; omega
        rw [← hbe] at x1 x2 hbn
        rw [← hL] at HJ hpl ⊢
        have t0 : (((nm (joinE E f) i : Nat) : Int) == -1) = false := by simp
        by_cases hf' : f i = f s
        · obtain ⟨h1, h2, h3⟩ := hMet.same HE.out hi he hl hf'
          have HJ' := Lib.hid ((HJ.out.met HM.out h3).told (toldI_old f h1))
          rw [hf', ← hx] at y1
          obtain ⟨R, hR⟩ : ∃ R, R = nm (joinE E f) i := ⟨_, rfl⟩
          have HRE := Lib.hid (hR.trans h2.symm)
          rw [← hR] at x2 y1 hpl t0
          clear hJ hM hMet hbe hx he hl h1 h2 h3 hR hc hL hf' hi HJ
          go_wp2_with fail
          go_quiet ((go_at_call 55; exact Calls.quiet_of ((HCALL.out _).mono fun e w' ⟨h1, h2⟩ => ⟨h1, 1, h2.symm⟩)))
          have HJ1 := Lib.hid (HJ'.out.drewN nq)
          have z1 : (wr.drewN nq).cell? ⟨bt, ot + R, none⟩ = some (.int .i64 x) := y1
          obtain ⟨W1, hW1⟩ : ∃ W1, W1 = wr.drewN nq := ⟨_, rfl⟩
          rw [← hW1] at HJ1 z1 ⊢
          have htwo := HJ1.out.two HP.out HLT.out (.int .i64 (R : Nat))
          rw [← HBE.out] at htwo
          obtain ⟨f1, ⟨u1, q1⟩, f2, ⟨u2, q2⟩⟩ := htwo
          clear hW1 HCALL HJ' x1 x2 y1
          go_wp2_with fail
          refine ⟨⟨s + 1, by have := HLT.out; omega, by go_num, ?_⟩, by have := HLT.out; simp [intOf]; omega⟩
          have h := (HJ1.out.end HP.out HLT.out).more (Nat.le_succ s)
          rw [← HBE.out, ← HRE.out] at h
          exact h
        · obtain ⟨h1, h2⟩ := hMet.other HK.out HE.out (hM.tidy lawP) hlt hi he hl hf'
          have hk1 := HK.out.key i (by omega)
          have hk2 := HK.out.key s hlt
          simp only [KVP] at hk1 hk2
          rw [he, ← hbe] at hk1
          rw [← hbe, ← hx] at hk2
          obtain ⟨y, hy⟩ : ∃ y, y = f i := ⟨_, rfl⟩
          have t1 : (y != x) = true := by simp [hy, hx, hf']
          have t2 : (y == x) = false := by simp [hy, hx, hf']
          rw [← hy] at y1 hk1
          have HWF := Lib.hid (wf_i64 (x := ((nm (joinE E f) i : Nat) : Int)) (by omega) (by have := HNN.out; omega))
          rcases h2 with ⟨h2, h3, h4⟩ | ⟨h2, h4⟩
          · have HOLD := Lib.hid (toldI_old f h4)
            have HAT := Lib.hid (h3 (.lit (.int .i64 0)))
            have HMET2 := Lib.hid h1; have HHAS := Lib.hid h2
            obtain ⟨p, hp⟩ : ∃ p, p = nm (joinE E f) i := ⟨_, rfl⟩
            obtain ⟨R, hR⟩ : ∃ R, R = nm (joinE E f) s := ⟨_, rfl⟩
            have HRE := Lib.hid hR
            rw [← hp] at x2 y1 hpl t0 HWF HMET2 HAT HHAS
            rw [← hR] at HAT
            clear hJ hM hMet hbe hx he hl h1 h2 h3 h4 hR hc hL hf' hi hp hy
            go_wp2_with fail
            go_quiet ((go_at_call 55; exact Calls.quiet_of ((HCALL.out _).mono fun e w' ⟨h1, h2⟩ => ⟨h1, 1, h2.symm⟩)))
            have HJ1 := Lib.hid (HJ.out.drewN nq)
            have HM1 := Lib.hid (show (wr.drewN nq).ownsMap Try.prog 64 (plainElem Try.prog 3) M s D from owns_map_heap HM.out rfl)
            have z1 : (wr.drewN nq).cell? ⟨bt, ot + p, none⟩ = some (.int .i64 y) := y1
            obtain ⟨W1, hW1⟩ : ∃ W1, W1 = wr.drewN nq := ⟨_, rfl⟩
            rw [← hW1] at HJ1 HM1 z1 ⊢
            clear hW1 HCALL HJ x1 x2 y1 HM
            go_wp2_with (first | (at_lookup; refine wpList_lookup_own_ok_int _ rfl _ _ 76 rfl 64 3 .i64 lawP Try.underlying76 Try.underlying3 (zeroI _) M (s + 1) _ rfl HD4.out _ _ rfl hk2 ?_; intro c' hat hwc; have hc' := hat.symm.trans HAT.out; simp only [DataW.lit.injEq, Lit.int.injEq, true_and] at hc'; subst hc'; clear hat hwc; rw [HHAS.out]) | (at_mapUpdate; refine wpList_mapUpdate_own _ rfl _ _ _ 76 rfl 64 3 lawP Try.underlying76 _ M s D rfl HM1.out (by have := HLT.out; have := HNN.out; unfold maxLen; omega) _ _ _ rfl rfl hk1 _ [] (plainElem_int Try.underlying3 HWF.out) ?_; intro w4 hD4 hg4; have HD4 := Lib.hid hD4; have hJ4 := (HJ1.out.turn HP.out hg4 hD4 HMET2.out).told HOLD.out; have htwo := hJ4.two HP.out HLT.out (.int .i64 (R : Nat)); rw [← HBE.out] at htwo; obtain ⟨f1, ⟨u1, q1⟩, f2, ⟨u2, q2⟩⟩ := htwo; have HJ4 := Lib.hid hJ4; clear hJ4 hD4 hg4))
            refine ⟨⟨s + 1, by have := HLT.out; omega, by go_num, ?_⟩, by have := HLT.out; simp [intOf]; omega⟩
            have h := (HJ4.out.end HP.out HLT.out)
            rw [← HBE.out, ← HRE.out] at h
            exact h
          · have HFST := Lib.hid h4
            have HMET2 := Lib.hid h1; have HHAS := Lib.hid h2
            obtain ⟨p, hp⟩ : ∃ p, p = nm (joinE E f) i := ⟨_, rfl⟩
            obtain ⟨R, hR⟩ : ∃ R, R = L := ⟨_, rfl⟩
            have HRE := Lib.hid (show R = nm (joinE E f) s by rw [nm_first h4, hR, hL])
            rw [← hp] at x2 y1 hpl t0 HWF HMET2 HHAS
            rw [← hR] at hpl hLi HJ ⊢
            clear hJ hM hMet hbe hx he hl h1 h2 h4 hR hc hL hf' hi hp hy
            go_wp2_with fail
            go_quiet ((go_at_call 55; exact Calls.quiet_of ((HCALL.out _).mono fun e w' ⟨h1, h2⟩ => ⟨h1, 1, h2.symm⟩)))
            have HJ1 := Lib.hid (HJ.out.drewN nq)
            have HM1 := Lib.hid (show (wr.drewN nq).ownsMap Try.prog 64 (plainElem Try.prog 3) M s D from owns_map_heap HM.out rfl)
            have z1 : (wr.drewN nq).cell? ⟨bt, ot + p, none⟩ = some (.int .i64 y) := y1
            obtain ⟨W1, hW1⟩ : ∃ W1, W1 = wr.drewN nq := ⟨_, rfl⟩
            rw [← hW1] at HJ1 HM1 z1 ⊢
            clear hW1 HCALL HJ x1 x2 y1 HM
            go_wp2_with (first | (at_lookup; refine wpList_lookup_own_ok_int _ rfl _ _ 76 rfl 64 3 .i64 lawP Try.underlying76 Try.underlying3 (zeroI _) M (s + 1) _ rfl HD4.out _ _ rfl hk2 ?_; intro c' hat hwc; clear hat hwc; rw [HHAS.out]) | (at_mapUpdate; refine wpList_mapUpdate_own _ rfl _ _ _ 76 rfl 64 3 lawP Try.underlying76 _ M s D rfl HM1.out (by have := HLT.out; have := HNN.out; unfold maxLen; omega) _ _ _ rfl rfl hk1 _ [] (plainElem_int Try.underlying3 HWF.out) ?_; intro w4 hD4 hg4; have HD4 := Lib.hid hD4; have HJ4 := Lib.hid (HJ1.out.turn HP.out hg4 hD4 HMET2.out); clear hD4 hg4) | (at_builtin; refine wpList_append_int rfl (.tmp 66) (.tmp 68) rfl rfl (HJ4.out.o.below ((Below.refl _ w4).alloc (Nat.le_refl _) _)) (by simp only [World.size_alloc]; exact Nat.le_trans HJ4.out.sz (Nat.le_succ _)) ⟨w4.heap.size, 0, none⟩ 1 x rfl (by rw [World.cell?_alloc_new]; rfl) rfl (by rw [toldI_len]; have := rk_le (E := joinE E f) s; have := HNN.out; have := HLT.out; omega) ?_; intro v' w5 hO5 hb5; have hJ5 := HJ4.out.past HP.out (((Below.refl (M + 1) w4).alloc HJ4.out.sz (.cells #[.int .i64 x] 3)).trans hb5) (t' := v') (r' := s + 1) (by rw [toldI_new f HFST.out, ← HXE.out]; exact hO5); have htwo := hJ5.two HP.out HLT.out (.int .i64 (R : Nat)); rw [← HBE.out] at htwo; obtain ⟨f1, ⟨u1, q1⟩, f2, ⟨u2, q2⟩⟩ := htwo; have HJ5 := Lib.hid hJ5; clear hJ5 hO5 hb5))
            refine ⟨⟨s + 1, by have := HLT.out; omega, by go_num, ?_⟩, by have := HLT.out; simp [intOf]; omega⟩
            have h := (HJ5.out.end HP.out HLT.out)
            rw [← HBE.out, ← HRE.out] at h
            exact h
    · obtain rfl : s = n := by omega
      have HJ := Lib.hid hJ
      clear hJ
      go_wp2_with fail
      go_end0
      have h := HJ.out.b
      rw [mixI_all] at h
      exact ⟨⟨_, rfl⟩, h, HJ.out.gr⟩
end Go.Proofs.Ytfhddbjojpmbcaa.DfaW
