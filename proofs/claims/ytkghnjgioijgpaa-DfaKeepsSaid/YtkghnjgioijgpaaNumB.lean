/- Walks of layer 19: numbered, of one number for each byte; Norm. -/
import Derived.Test.YtkghnjgioijgpaaPartMap
import Derived.WalkMore
namespace Go.Proofs.Ytkghnjgioijgpaa.PartW
set_option linter.unusedVariables false
open Go.RowKit Go.Maps Go.Proofs.Ytkghnjgioijgpaa.PartM

theorem Norm1 {w : World} {B : Nat} {C : Array Value} {f : Nat → Nat} (h : Ar w B C 22) (hC : IsA C f) {b : Nat} (hb : b < 256) :
    Calls Try.prog 66 #[.int .u8 b, .pointer (some ⟨B, 0, none⟩)] w fun e w' => e = .returned (.int .u8 (f b)) ∧ w' = w := by
  have hc := h.cell hC hb
  clear h
  go_enter Try.func66, Try.ntmps66
  go_wp2_with fail
  go_ret
  exact ⟨rfl, rfl⟩
theorem lawB : Keyed Try.prog 5 := int_keyed Try.underlying5
theorem zeroB (w : World) : (zeroValue 5).run Try.prog w = .ok (.int .u8 0) w := Try.zeroValue5 w
theorem keysB {f : Nat → Nat} (hf : ∀ b, b < 256 → f b < 256) : Keys Try.prog 5 (fun b => .int .u8 (f b : Int)) (fun b => .int .u8 (f b : Int)) (byKey f) :=
  ⟨lawB, fun b hb => keyOf_int_mk Try.underlying5 (wf_u8 (hf b hb)), fun a b ha hb => by simp [byKey]; omega⟩
set_option maxRecDepth 100000 in
set_option maxHeartbeats 1000000 in
theorem numberedB {w : World} {B : Nat} {C : Array Value} {f : Nat → Nat} (h : Ar w B C 22) (hC : IsA C f) (hf : ∀ b, b < 256 → f b < 256) :
    Calls Try.prog 65 #[.func (.func 66) #[] #[.pointer (some ⟨B, 0, none⟩)]] w fun e w' =>
      ∃ D, e = .returned (.tuple #[.agg D, .int .i64 (rk (byKey f) 256 : Nat)]) ∧ IsA D (nm (byKey f)) ∧ Below w.heap.size w w' := by
  obtain ⟨Z, hZ, hz⟩ := zeroA
  have HZ := Lib.hid hZ
  have HC := Lib.hid hC
  have HK := Lib.hid (keysB hf)
  have HE := Lib.hid (byKey_eqv f)
  have HF := Lib.hid hf
  have hmm := @run_makeMap Try.prog
  clear hZ hC hf
  go_enter Try.func65, Try.ntmps65
  go_wp2_with fail
  obtain ⟨R, hR⟩ : ∃ R, R = w.heap.size := ⟨_, rfl⟩
  obtain ⟨A, hA⟩ : ∃ A, A = w.heap.size + 1 := ⟨_, rfl⟩
  obtain ⟨M, hM⟩ : ∃ M, M = w.heap.size + 1 + 1 := ⟨_, rfl⟩
  have HR := Lib.hid hR; have HA := Lib.hid hA; have HM := Lib.hid hM
  have hlt := h.lt
  have hb0 : Below w.heap.size w (((w.alloc (.cells Z 22)).alloc (.cells Z 22)).alloc (.map #[] 0)) := (((Below.refl _ w).alloc (Nat.le_refl _) _).alloc (by simp) _).alloc (by simp; omega) _
  have hr0 : Ar (((w.alloc (.cells Z 22)).alloc (.cells Z 22)).alloc (.map #[] 0)) R Z 22 := by rw [hR]; exact ((Ar.new w Z _).alloc _).alloc _
  have ha0 : Ar (((w.alloc (.cells Z 22)).alloc (.cells Z 22)).alloc (.map #[] 0)) A Z 22 := by rw [hA, ← World.size_alloc w (.cells Z 22)]; exact (Ar.new (w.alloc (.cells Z 22)) Z _).alloc _
  have hm0 : (((w.alloc (.cells Z 22)).alloc (.cells Z 22)).alloc (.map #[] 0)).ownsMap Try.prog 5 (plainElem Try.prog 5) M 0 (.map [] : DataW Unit) := by
    have := World.ownsMap_made (H := Unit) ((w.alloc (.cells Z 22)).alloc (.cells Z 22)) Try.prog 5 (plainElem Try.prog 5)
    simp only [World.size_alloc] at this
    rw [hM]; exact this
  have hB0 := h.below hb0
  rw [← hM, ← hA, ← hR]
  have HAR := Lib.hid (show A ≠ R ∧ M ≠ R ∧ M ≠ A ∧ B ≠ R ∧ B ≠ A ∧ B ≠ M ∧ w.heap.size ≤ R ∧ w.heap.size ≤ A ∧ w.heap.size ≤ M by omega)
  generalize (((w.alloc (.cells Z 22)).alloc (.cells Z 22)).alloc (.map #[] 0)) = w0 at *
  clear hR hA hM hlt h hz hmm
  go_loopw [11] (fun i wr => ∃ k : Nat, k ≤ 256 ∧ i = .int .i64 k ∧ ∃ Y D, Ar wr B C 22 ∧ Ar wr R Z 22 ∧ Ar wr A Y 22 ∧ Hid (IsA Y (nmTo (byKey f) k)) ∧ wr.ownsMap Try.prog 5 (plainElem Try.prog 5) M k (D : DataW Unit) ∧ Hid (Seen D (fun b => .int .u8 (f b : Int)) (byKey f) k) ∧ Below w.heap.size w wr) (fun i _ => 256 - (intOf i).toNat)
  case atStart =>
    exact ⟨0, by omega, rfl, Z, .map [], hB0, hr0, ha0, Lib.hid (by rw [nmTo_zero]; exact HZ.out), hm0, Lib.hid (Seen.none _ _), hb0⟩
  case round =>
    obtain ⟨k, hk, rfl, Y, D, hB, hR, hA, HY, hM, HS, hb⟩ := hrel
    by_cases hlt : k < 256
    · have hkey := HK.out.key k hlt
      have hwr : IntKind.u8.wrap (k : Int) = (k : Int) := wrap_u8 hlt
      have hfk := HF.out k hlt
      have hfz := hA.frozen k
      obtain ⟨u, hck⟩ : ∃ u, wr.cell? ⟨A, k, none⟩ = some u := ⟨_, hA.cell HY.out hlt⟩
      have hsz := HS.out.size
      have hrk := rk_le (E := byKey f) k
      by_cases hn : fst (byKey f) k = k
      · obtain ⟨h1, h2⟩ := HS.out.new HK.out HE.out (hM.tidy lawB) hlt hn
        have HN := Lib.hid (nmTo_set (byKey f) HY.out)
        have HQ := Lib.hid (nm_first hn)
        have HS2 := Lib.hid h2
        clear h2 hn
        generalize rk (byKey f) k = n at *
        have hwn : IntKind.u8.wrap (n : Int) = (n : Int) := wrap_u8 (by omega)
        have hwf := wf_u8 (show n < 256 by omega)
        have t0 : decide ((k : Int) < 256) = true := by simp; omega
        have t1 : ¬ (256 : Int) ≤ (k : Int) := by omega
        have HLT := Lib.hid hlt; have HRK := Lib.hid hrk; have HK2 := Lib.hid hk; have HFK := Lib.hid hfk
        have HWF := Lib.hid hwf
        clear hwf hlt hrk hk hfk hb0 hr0 ha0 hm0 hB0
        go_wp2_with (first | (go_at_call 66; refine (Norm1 hB HC.out HLT.out).mono ?_; rintro e w1 ⟨rfl, rfl⟩) | (at_lookup; refine wpList_lookup_own_ok_int _ rfl _ _ 100 rfl 5 5 .u8 lawB Try.underlying100 Try.underlying5 (zeroB _) M k D rfl hM _ _ rfl hkey ?_; intro c hat hwc; clear hat hwc; rw [h1]) | (at_len; refine wpList_len_own _ rfl _ 100 rfl 5 5 Try.underlying100 _ M k D rfl hM ?_; rw [hsz]) | (at_mapUpdate; refine wpList_mapUpdate_own _ rfl _ _ _ 100 rfl 5 5 lawB Try.underlying100 _ M k D rfl hM (by have := HLT.out; unfold maxLen; omega) _ _ _ rfl rfl hkey _ [] (plainElem_int Try.underlying5 HWF.out) ?_; intro w4 hD4 hg4; have hA4 : Ar w4 A Y 22 := (hg4.block A hA.lt (by intro e; cases e; exact HAR.out.2.2.1 rfl)).trans hA; have hfz4 := hA4.frozen k; obtain ⟨u4, hck4⟩ : ∃ u, w4.cell? ⟨A, k, none⟩ = some u := ⟨_, hA4.cell HY.out HLT.out⟩; have HB4 := Lib.hid hD4; have HG4 := Lib.hid hg4; clear hD4 hg4 hck hfz))
        have hg4 := HG4.out
        refine ⟨⟨k + 1, by have := HLT.out; omega, by simp, _, _, ?_, ?_, hA4.set k _, Lib.hid (by rw [← HQ.out]; exact HN.out), HB4.out.setCell (by exact HAR.out.2.2.1) _, HS2, ?_⟩, by have := HLT.out; simp [intOf]; omega⟩
        · exact Ar.other (show Ar w4 B C 22 from (hg4.block B hB.lt (by intro e; cases e; exact HAR.out.2.2.2.2.2.1 rfl)).trans hB) (fun e => HAR.out.2.2.2.2.1 e.symm) _
        · exact Ar.other (show Ar w4 R Z 22 from (hg4.block R hR.lt (by intro e; cases e; exact HAR.out.2.1 rfl)).trans hR) (fun e => HAR.out.1 e) _
        · exact (hb.trans ⟨hg4.os, hg4.tape, hg4.output, hg4.size, fun i hi => hg4.block i (Nat.lt_of_lt_of_le hi hb.size) (by intro e; cases e; have := HAR.out.2.2.2.2.2.2.2.2; omega)⟩).setCell (p := ⟨A, k, none⟩) HAR.out.2.2.2.2.2.2.2.1 _
      · obtain ⟨h1, h3, h2⟩ := HS.out.old HK.out HE.out hlt hn
        have HN := Lib.hid (nmTo_set (byKey f) HY.out)
        have HS2 := Lib.hid h2
        have HAT := Lib.hid (h3 (.lit (.int .u8 0)))
        clear h2 h3 hn
        have t0 : decide ((k : Int) < 256) = true := by simp; omega
        have t1 : ¬ (256 : Int) ≤ (k : Int) := by omega
        have HLT := Lib.hid hlt; have HRK := Lib.hid hrk; have HK2 := Lib.hid hk; have HFK := Lib.hid hfk
        clear hlt hrk hk hfk hb0 hr0 ha0 hm0 hB0
        go_wp2_with (first | (go_at_call 66; refine (Norm1 hB HC.out HLT.out).mono ?_; rintro e w1 ⟨rfl, rfl⟩) | (at_lookup; refine wpList_lookup_own_ok_int _ rfl _ _ 100 rfl 5 5 .u8 lawB Try.underlying100 Try.underlying5 (zeroB _) M k D rfl hM _ _ rfl hkey ?_; intro c hat hwc; have HC2 := Lib.hid (hat.symm.trans HAT.out); clear hat hwc; rw [h1]))
        have hc := HC2.out
        simp only [DataW.lit.injEq, Lit.int.injEq, true_and] at hc
        refine ⟨⟨k + 1, by have := HLT.out; omega, by simp, _, _, ?_, ?_, hA.set k _, Lib.hid (by rw [hc]; exact HN.out), (hM.mono (Nat.le_succ k)).setCell (by exact HAR.out.2.2.1) _, HS2, ?_⟩, by have := HLT.out; simp [intOf]; omega⟩
        · exact hB.other (fun e => HAR.out.2.2.2.2.1 e.symm) _
        · exact hR.other (fun e => HAR.out.1 e) _
        · exact hb.setCell (p := ⟨A, k, none⟩) HAR.out.2.2.2.2.2.2.2.1 _
    · obtain rfl : k = 256 := by omega
      have hsz := HS.out.size
      have HKK := Lib.hid hk; clear hk hlt
      obtain ⟨n, hn⟩ : ∃ n, n = rk (byKey f) 256 := ⟨_, rfl⟩
      rw [← hn] at hsz
      have HNN := Lib.hid hn; clear hn
      have HN := Lib.hid (nmTo_all _ HY.out)
      go_wp2_with (first | (at_len; refine wpList_len_own _ rfl _ 100 rfl 5 5 Try.underlying100 _ M 256 D rfl hM ?_; rw [hsz]) | (refine wpList_load_arr rfl 22 (.tmp 4) rfl rfl hA HY.out.size Try.underlying22 infoA ?_) | (refine wpList_store_arr rfl 22 (.tmp 2) (.tmp 36) rfl rfl rfl hR HZ.out.size HN.out infoA ?_))
      have hld := (hR.row Y).loadVar (P := Try.prog) HY.out.size Try.underlying22 infoA
      refine bodyPost_ret (v := .tuple #[.agg Y, .int .i64 n]) ?_ rfl ⟨Y, by rw [HNN.out], HN.out, below_row hb HAR.out.2.2.2.2.2.2.1 Y⟩
      rw [results_cell_tmp rfl]
      simp [asAddr, Result.andThen, hld]
theorem Norm_any {C : Array Value} {f : Nat → Nat} (hC : IsA C f) (hf : ∀ b, b < 256 → f b < 256) (w : World) :
    Calls Try.prog 53 #[.agg C] w fun e w' => ∃ D, e = .returned (.tuple #[.agg D, .int .i64 (rk (byKey f) 256 : Nat)]) ∧ IsA D (nm (byKey f)) ∧ Below w.heap.size w w' := by
  obtain ⟨Z, hZ, hz⟩ := zeroA
  have HZ := Lib.hid hZ
  have HC := Lib.hid hC
  have HF := Lib.hid hf
  have hs := hC.size
  have hm := hmf
  clear hZ hC hf
  go_enter Try.func53, Try.ntmps53
  go_wp2_with fail
  refine (numberedB (B := w.heap.size) (C := C) (f := f) ((Ar.new w C _).alloc _) HC.out HF.out).mono ?_
  rintro e w1 ⟨D, rfl, hD, hb⟩
  have hr : Ar w1 (w.heap.size + 1) Z 22 := by
    have := (Ar.new (w.alloc (.cells C 22)) Z 22).below hb
    rw [World.size_alloc] at this; exact this
  have hb1 : Below w.heap.size w w1 := (((Below.refl _ w).alloc (Nat.le_refl _) _).alloc (by simp) _).trans (hb.mono (by simp; omega))
  have HD := Lib.hid hD; have HB := Lib.hid hb1
  clear hD hb hb1
  go_wp2_with (refine wpList_store_arr rfl 22 (.tmp 2) (.tmp 6) rfl rfl rfl hr HZ.out.size HD.out infoA ?_)
  have hld := (hr.row D).loadVar (P := Try.prog) HD.out.size Try.underlying22 infoA
  refine bodyPost_ret (v := .tuple #[.agg D, .int .i64 (rk (byKey f) 256 : Nat)]) ?_ rfl ⟨D, rfl, HD.out, below_row HB.out (by omega) D⟩
  rw [results_cell_tmp rfl]
  simp [asAddr, Result.andThen, hld]
end Go.Proofs.Ytkghnjgioijgpaa.PartW
