/- Walks of layer 19: numbered, of two great numbers for each byte; what Of hands it. -/
import Derived.Test.YtciggkebbhineaaDoorWhich
import Derived.DeepKeys4
import Derived.ChangeKeysEq
import Derived.RegionTactic
import Derived.BigRegion
import Derived.ChangeAlike
import Derived.Deep.RegionHeld3
namespace Go.Proofs.YtciggkebbhineaaDoor.PartW
set_option linter.unusedVariables false
open Go.RowKit Go.Maps Go.Proofs.YtciggkebbhineaaDoor.PartM Go.Proofs.YtciggkebbhineaaDoor.SetM Go.Proofs.YtciggkebbhineaaDoor.SetW

theorem wf_u64 {n : Nat} (h : n < 18446744073709551616) : (Lit.int .u64 (n : Int)).wf = true := by simp [Lit.wf, IntKind.min, IntKind.max, IntKind.signed, IntKind.bits]; omega
theorem wrap_u64 {n : Nat} (h : n < 18446744073709551616) : IntKind.u64.wrap (n : Int) = (n : Int) := by rw [IntKind.wrap_u64]; omega
theorem laidQ : laidOutB Tryd.prog = true := by kernel_rfl
theorem rowQ : (52 : TypeId) < Tryd.prog.types.size := of_decide_eq_true (by kernel_rfl)
theorem wideQ : (match Tryd.prog.underlying 52 with | some (.array _ _) | some (.struct _) => true | _ => false) = true := by rw [Tryd.underlying52]
theorem lawQ : Keyed Tryd.prog 52 := Keyed.of_law (deep_law_laid laidQ (m := 2) (by omega) rowQ (by kernel_rfl) wideQ)
theorem cellsQ : Tryd.prog.cellsOf 52 = 2 := by kernel_rfl
theorem cellsW : Tryd.prog.cellsOf 33 = 1 := by kernel_rfl
theorem formedQ {c0 c1 : Value} : (Value.agg #[c0, c1]).formed Tryd.prog 52 = true := by simp [Value.formed, Tryd.underlying52, cellsQ]
theorem keyTypeQ : Tryd.prog.keyType 52 = true := by kernel_rfl
theorem litW {n : Nat} {x : Int} (hx : (Lit.int .u64 x).wf = true) : Tryd.prog.keyLits (n + 1) 33 [.int .u64 x] = some [.int .u64 x] := by
  simp [Program.keyLits, Tryd.underlying33, hx]
theorem litQ {n : Nat} {x y : Int} (hx : (Lit.int .u64 x).wf = true) (hy : (Lit.int .u64 y).wf = true) : Tryd.prog.keyLits (n + 2) 52 [.int .u64 x, .int .u64 y] = some [.int .u64 x, .int .u64 y] := by
  unfold Program.keyLits
  simp only [Tryd.underlying52, cellsQ, cellsW]
  simp [List.range, List.range.loop, litW hx, litW hy]
theorem keyQ {x y : Int} (hx : (Lit.int .u64 x).wf = true) (hy : (Lit.int .u64 y).wf = true) : ∃ lx, keyOf Tryd.prog 52 (.agg #[.int .u64 x, .int .u64 y]) = some lx := by
  obtain ⟨n, hn⟩ : ∃ n, Tryd.prog.types.size + 1 = n + 2 := ⟨Tryd.prog.types.size - 1, by have h : 52 < Tryd.prog.types.size := rowQ; omega⟩
  unfold keyOf
  rw [Tryd.underlying52]
  simp only [keyTypeQ, formedQ, hn, Bool.and_self, if_true]
  exact ⟨_, by simp [Value.cells, litQ hx hy]; rfl⟩
abbrev KVQ (f g : Nat → Nat) : Nat → Value := fun b => .agg #[.int .u64 (f b : Int), .int .u64 (g b : Int)]
theorem keysQ {f g : Nat → Nat} (hf : ∀ b, b < 256 → f b < 18446744073709551616) (hg : ∀ b, b < 256 → g b < 18446744073709551616) : Keys Tryd.prog 52 (KVQ f g) (fun b => (keyOf Tryd.prog 52 (KVQ f g b)).getD (.bool false)) (byKey fun b => (f b, g b)) :=
  keys_of lawQ (fun b hb => keyQ (wf_u64 (hf b hb)) (wf_u64 (hg b hb))) (fun a b => by simp [byKey]; omega)


theorem two_other {W : World} {A R i : Nat} {x y : Value} (h : A ≠ R) : ((W.setCell ⟨R, 0, none⟩ x).setCell ⟨R, 1, none⟩ y).cell? ⟨A, i, none⟩ = W.cell? ⟨A, i, none⟩ := by
  rw [World.cell?_setCell_other _ _ _ _ (fun e => h (by injection e with e; exact e.symm)), World.cell?_setCell_other _ _ _ _ (fun e => h (by injection e with e; exact e.symm))]
theorem two_same {W : World} {R : Nat} {x y u v : Value} (h0 : W.cell? ⟨R, 0, none⟩ = some u) (h1 : W.cell? ⟨R, 1, none⟩ = some v) : ((W.setCell ⟨R, 0, none⟩ x).setCell ⟨R, 1, none⟩ y).cell? ⟨R, 0, none⟩ = some x ∧ ((W.setCell ⟨R, 0, none⟩ x).setCell ⟨R, 1, none⟩ y).cell? ⟨R, 1, none⟩ = some y := by
  have h01 : (⟨R, 0, none⟩ : Addr) ≠ ⟨R, 1, none⟩ := by simp
  exact ⟨by rw [World.cell?_setCell_other _ _ _ _ h01.symm]; exact World.cell?_setCell_same _ _ _ h0, World.cell?_setCell_same (u := v) _ _ _ (by rw [World.cell?_setCell_other _ _ _ _ h01]; exact h1)⟩
theorem Of1 {w : World} {A B : Nat} {C : Array Value} {f : Nat → Nat} (h : Ar w A C 22) (hC : IsA C f) (hf : ∀ b, b < 256 → f b < 256) {v : Value} {fs : List (Nat → Bool)} (hB : w.cell? ⟨B, 0, none⟩ = some v) (hv : SSl w v fs) (hl : fs.length ≤ 64) {b : Nat} (hb : b < 256) :
    Calls Tryd.prog 29 #[.int .u8 b, .pointer (some ⟨A, 0, none⟩), .pointer (some ⟨B, 0, none⟩)] w fun e w' => e = .returned (KVQ f (fun b => wd (memF fs b) 0) b) ∧ Below w.heap.size w w' := by
  have hb0 : Below w.heap.size w (w.alloc (.cells #[.int .u64 0, .int .u64 0] 52)) := (Below.refl _ w).alloc (Nat.le_refl _) _
  have hwr : IntKind.u64.wrap (f b : Int) = (f b : Int) := wrap_u64 (by have := hf b hb; omega)
  have hBl : B < w.heap.size := World.block_lt_of_cell? _ _ hB
  have hAl := h.lt
  have h1 : Ar (w.alloc (.cells #[.int .u64 0, .int .u64 0] 52)).drew A C 22 := h.alloc _
  have h2 : SSl (w.alloc (.cells #[.int .u64 0, .int .u64 0] 52)).drew v fs := hv.alloc _
  have c0 : (w.alloc (.cells #[.int .u64 0, .int .u64 0] 52)).drew.cell? ⟨A, b, none⟩ = some (.int .u8 (f b : Int)) := h1.cell hC hb
  have c1 : (w.alloc (.cells #[.int .u64 0, .int .u64 0] 52)).drew.cell? ⟨B, 0, none⟩ = some v := by
    rw [hb0.drew.cell (p := ⟨B, 0, none⟩) hBl]; exact hB
  obtain ⟨R, hR⟩ : ∃ R, R = w.heap.size := ⟨_, rfl⟩
  have HR := Lib.hid hR
  have HW := Lib.hid (fun W (hW : Below (w.alloc (.cells #[.int .u64 0, .int .u64 0] 52)).drew.heap.size (w.alloc (.cells #[.int .u64 0, .int .u64 0] 52)).drew W) => which_any (h2.below hW) hl hb)
  have HBL := Lib.hid (show B < R ∧ A < R by omega)
  have HBB := Lib.hid hb0
  clear h hB hv h1 h2 hb0
  go_enter Tryd.func29, Tryd.ntmps29
  go_wp2_with fail
  have r0 : (w.alloc (.cells #[.int .u64 0, .int .u64 0] 52)).drew.cell? ⟨R, 0, none⟩ = some (.int .u64 0) := by rw [hR]; simp
  have r1 : (w.alloc (.cells #[.int .u64 0, .int .u64 0] 52)).drew.cell? ⟨R, 1, none⟩ = some (.int .u64 0) := by rw [hR]; simp
  have z0 : (w.alloc (.cells #[.int .u64 0, .int .u64 0] 52)).drew.frozen? ⟨R, 0, none⟩ = false := by rw [hR]; simp
  have z1 : (w.alloc (.cells #[.int .u64 0, .int .u64 0] 52)).drew.frozen? ⟨R, 1, none⟩ = false := by rw [hR]; simp
  have hs0 : R < (w.alloc (.cells #[.int .u64 0, .int .u64 0] 52)).drew.heap.size := by simp; omega
  rw [← hR]
  clear hR
  generalize (w.alloc (.cells #[.int .u64 0, .int .u64 0] 52)) = W0 at *
  have HA0 := Lib.hid (show A < W0.drew.heap.size ∧ B < W0.drew.heap.size by have := HBL.out; omega)
  have HQ := Lib.hid (HW.out _ (Below.refl _ _))
  have HS0 := Lib.hid hs0
  have HR0 := Lib.hid r0; have HR1 := Lib.hid r1; have HZ0 := Lib.hid z0; have HZ1 := Lib.hid z1
  have nA : A ≠ R := by have := HBL.out; omega
  have nB : B ≠ R := by have := HBL.out; omega
  have t0 : (0 : Int) ≤ (b : Int) := by omega
  have t1 : (b : Int) < 256 := by omega
  clear hBl hAl hs0 r0 r1 z0 z1
  go_region_held3 (fun w' => w'.cell? ⟨A, b, none⟩ = some (.int .u8 (f b : Int)) ∧ w'.cell? ⟨B, 0, none⟩ = some v)
    (first | (with_reducible exact ⟨c0, c1⟩) | (with_reducible exact ⟨d0, d1⟩) | (with_reducible exact ⟨(two_other nA).trans d0, (two_other nB).trans d1⟩))
    (first | (go_at_call 30; refine HQ.out.mono ?_; rintro e w1 ⟨rfl, hb1⟩; have HB1 := Lib.hid hb1; have d0 := (hb1.cell (p := ⟨A, b, none⟩) HA0.out.1).trans c0; have d1 := (hb1.cell (p := ⟨B, 0, none⟩) HA0.out.2).trans c1; have r0 := (hb1.cell (p := ⟨R, 0, none⟩) HS0.out).trans HR0.out; have r1 := (hb1.cell (p := ⟨R, 1, none⟩) HS0.out).trans HR1.out; have z0 := (hb1.frozen (p := ⟨R, 0, none⟩) HS0.out).trans HZ0.out; have z1 := (hb1.frozen (p := ⟨R, 1, none⟩) HS0.out).trans HZ1.out; clear hb1))
  go_wp2_with fail
  obtain ⟨q0, q1⟩ := two_same (x := .int .u64 (f b : Int)) (y := .int .u64 (wd (memF fs b) 0 : Int)) r0 r1
  have hbw : Below w.heap.size w w1 := HBB.out.drew.trans (HB1.out.mono (by have := HBB.out.size; exact this))
  refine bodyPost_ret (v := KVQ f (fun b => wd (memF fs b) 0) b) (by simp [results, Tryd.results29, go_sem, q0, q1]) rfl ⟨rfl, (hbw.setCell (p := ⟨R, 0, none⟩) (by have := HR.out; show _ ≤ R; omega) _).setCell (p := ⟨R, 1, none⟩) (by have := HR.out; show _ ≤ R; omega) _⟩
set_option maxRecDepth 100000 in
set_option maxHeartbeats 1000000 in
theorem numberedQ {w : World} (p q : Addr) {f g : Nat → Nat} {KL : Nat → Lit} (hK : Keys Tryd.prog 52 (KVQ f g) KL (byKey fun b => (f b, g b)))
    (hclo : ∀ W, Below w.heap.size w W → ∀ b : Nat, b < 256 → Calls Tryd.prog 29 #[.int .u8 b, .pointer (some p), .pointer (some q)] W fun e W' => e = .returned (KVQ f g b) ∧ Below W.heap.size W W') :
    Calls Tryd.prog 28 #[.func (.func 29) #[] #[.pointer (some p), .pointer (some q)]] w fun e w' =>
      ∃ D, e = .returned (.tuple #[.agg D, .int .i64 (rk (byKey fun b => (f b, g b)) 256 : Nat)]) ∧ IsA D (nm (byKey fun b => (f b, g b))) ∧ Below w.heap.size w w' := by
  obtain ⟨Z, hZ, hz⟩ := zeroA
  have HZ := Lib.hid hZ
  have HK := Lib.hid hK
  have HE := Lib.hid (byKey_eqv fun b => (f b, g b))
  have HCL := Lib.hid hclo
  have hmm := @run_makeMap Tryd.prog
  obtain ⟨E, hE⟩ : ∃ E, E = byKey fun b => (f b, g b) := ⟨_, rfl⟩
  rw [← hE] at HK HE ⊢
  clear hZ hK hclo hE
  go_enter Tryd.func28, Tryd.ntmps28
  go_wp2_with fail
  obtain ⟨R, hR⟩ : ∃ R, R = w.heap.size := ⟨_, rfl⟩
  obtain ⟨A, hA⟩ : ∃ A, A = w.heap.size + 1 := ⟨_, rfl⟩
  obtain ⟨M, hM⟩ : ∃ M, M = w.heap.size + 1 + 1 := ⟨_, rfl⟩
  have hb0 : Below w.heap.size w (((w.alloc (.cells Z 22)).alloc (.cells Z 22)).alloc (.map #[] 0)) := (((Below.refl _ w).alloc (Nat.le_refl _) _).alloc (by simp) _).alloc (by simp; omega) _
  have hr0 : Ar (((w.alloc (.cells Z 22)).alloc (.cells Z 22)).alloc (.map #[] 0)) R Z 22 := by rw [hR]; exact ((Ar.new w Z _).alloc _).alloc _
  have ha0 : Ar (((w.alloc (.cells Z 22)).alloc (.cells Z 22)).alloc (.map #[] 0)) A Z 22 := by rw [hA, ← World.size_alloc w (.cells Z 22)]; exact (Ar.new (w.alloc (.cells Z 22)) Z _).alloc _
  have hm0 : (((w.alloc (.cells Z 22)).alloc (.cells Z 22)).alloc (.map #[] 0)).ownsMap Tryd.prog 52 (plainElem Tryd.prog 5) M 0 (.map [] : DataW Unit) := by
    have := World.ownsMap_made (H := Unit) ((w.alloc (.cells Z 22)).alloc (.cells Z 22)) Tryd.prog 52 (plainElem Tryd.prog 5)
    simp only [World.size_alloc] at this
    rw [hM]; exact this
  rw [← hM, ← hA, ← hR]
  have HAR := Lib.hid (show A ≠ R ∧ M ≠ R ∧ M ≠ A ∧ w.heap.size ≤ R ∧ w.heap.size ≤ A ∧ w.heap.size ≤ M by omega)
  generalize (((w.alloc (.cells Z 22)).alloc (.cells Z 22)).alloc (.map #[] 0)) = w0 at *
  clear hR hA hM hz hmm
  go_loopw [11] (fun i wr => ∃ k : Nat, k ≤ 256 ∧ i = .int .i64 k ∧ ∃ Y D, Ar wr R Z 22 ∧ Ar wr A Y 22 ∧ Hid (IsA Y (nmTo E k)) ∧ wr.ownsMap Tryd.prog 52 (plainElem Tryd.prog 5) M k (D : DataW Unit) ∧ Hid (Seen D KL E k) ∧ Below w.heap.size w wr) (fun i _ => 256 - (intOf i).toNat)
  case atStart =>
    exact ⟨0, by omega, rfl, Z, .map [], hr0, ha0, Lib.hid (by rw [nmTo_zero]; exact HZ.out), hm0, Lib.hid (Seen.none _ _), hb0⟩
  case round =>
    obtain ⟨k, hk, rfl, Y, D, hR, hA, HY, hM, HS, hb⟩ := hrel
    by_cases hlt : k < 256
    · have hkey := HK.out.key k hlt
      have hwr : IntKind.u8.wrap (k : Int) = (k : Int) := wrap_u8 hlt
      have hsz := HS.out.size
      have hrk := rk_le (E := E) k
      have t0 : decide ((k : Int) < 256) = true := by simp; omega
      have t1 : ¬ (256 : Int) ≤ (k : Int) := by omega
      have HCK := Lib.hid (HCL.out wr hb k hlt)
      have HB := Lib.hid hb; have HR := Lib.hid hR; have HA := Lib.hid hA; have HM := Lib.hid hM
      have HN := Lib.hid (nmTo_set E HY.out)
      by_cases hn : fst E k = k
      · obtain ⟨h1, h2⟩ := HS.out.new HK.out HE.out (hM.tidy lawQ) hlt hn
        have HQ := Lib.hid (nm_first hn)
        have HS2 := Lib.hid h2
        clear h2 hn
        generalize rk E k = n at *
        have hwn : IntKind.u8.wrap (n : Int) = (n : Int) := wrap_u8 (by omega)
        have HWF := Lib.hid (wf_u8 (show n < 256 by omega))
        have HLT := Lib.hid hlt
        clear hlt hrk hk hb0 hr0 ha0 hm0 hb hR hA hM
        go_wp2_with fail
        refine HCK.out.mono ?_
        rintro e w1 ⟨rfl, hb1⟩
        have HM1 := Lib.hid (owns_map_heap HM.out (hb1.block M (owns_map_lt HM.out)))
        have HA1 := Lib.hid (HA.out.below hb1)
        have HR1 := Lib.hid (HR.out.below hb1)
        have HB1 := Lib.hid (HB.out.trans (hb1.mono HB.out.size))
        clear hb1
        go_wp2_with (first | (at_lookup; refine wpList_lookup_own_ok_int _ rfl _ _ 60 rfl 52 5 .u8 lawQ Tryd.underlying60 Tryd.underlying5 (zeroB _) M k D rfl (HM1.out.alloc _) _ _ rfl hkey ?_; intro c hat hwc; clear hat hwc; rw [h1]) | (at_len; refine wpList_len_own _ rfl _ 60 rfl 52 5 Tryd.underlying60 _ M k D rfl (HM1.out.alloc _) ?_; rw [hsz]) | (at_mapUpdate; refine wpList_mapUpdate_own _ rfl _ _ _ 60 rfl 52 5 lawQ Tryd.underlying60 _ M k D rfl (HM1.out.alloc _) (by have := HLT.out; unfold maxLen; omega) _ _ _ rfl rfl hkey _ [] (plainElem_int Tryd.underlying5 HWF.out) ?_; intro w4 hD4 hg4; have hA4 : Ar w4 A Y 22 := (hg4.block A (HA1.out.alloc _).lt (by intro e; cases e; exact HAR.out.2.2.1 rfl)).trans (HA1.out.alloc _); have hfz4 := hA4.frozen k; obtain ⟨u4, hck4⟩ : ∃ u, w4.cell? ⟨A, k, none⟩ = some u := ⟨_, hA4.cell HY.out HLT.out⟩; have HB4 := Lib.hid hD4; have HG4 := Lib.hid hg4; clear hD4 hg4))
        have hg4 := HG4.out
        have hal := HB1.out.alloc HB1.out.size (.cells #[.int .u64 (f k : Int), .int .u64 (g k : Int)] 52)
        refine ⟨⟨k + 1, by have := HLT.out; omega, by simp, _, _, ?_, hA4.set k _, Lib.hid (by rw [← HQ.out]; exact HN.out), HB4.out.setCell (by exact HAR.out.2.2.1) _, HS2, ?_⟩, by have := HLT.out; simp [intOf]; omega⟩
        · exact Ar.other (show Ar w4 R Z 22 from (hg4.block R (HR1.out.alloc _).lt (by intro e; cases e; exact HAR.out.2.1 rfl)).trans (HR1.out.alloc _)) (fun e => HAR.out.1 e) _
        · exact (hal.trans ⟨hg4.os, hg4.tape, hg4.output, hg4.size, fun i hi => hg4.block i (Nat.lt_of_lt_of_le hi hal.size) (by intro e; cases e; have := HAR.out.2.2.2.2.2; omega)⟩).setCell (p := ⟨A, k, none⟩) HAR.out.2.2.2.2.1 _
      · obtain ⟨h1, h3, h2⟩ := HS.out.old HK.out HE.out hlt hn
        have HS2 := Lib.hid h2
        have HAT := Lib.hid (h3 (.lit (.int .u8 0)))
        have HLT := Lib.hid hlt
        clear h2 h3 hn hlt hrk hk hb0 hr0 ha0 hm0 hb hR hA hM
        go_wp2_with fail
        refine HCK.out.mono ?_
        rintro e w1 ⟨rfl, hb1⟩
        have HM1 := Lib.hid (owns_map_heap HM.out (hb1.block M (owns_map_lt HM.out)))
        have HA1 := Lib.hid (HA.out.below hb1)
        have HR1 := Lib.hid (HR.out.below hb1)
        have HB1 := Lib.hid (HB.out.trans (hb1.mono HB.out.size))
        have hA2 := HA1.out.alloc (.cells #[.int .u64 (f k : Int), .int .u64 (g k : Int)] 52)
        have hfz2 := hA2.frozen k
        obtain ⟨u2, hck2⟩ : ∃ u, (w1.alloc (.cells #[.int .u64 (f k : Int), .int .u64 (g k : Int)] 52)).cell? ⟨A, k, none⟩ = some u := ⟨_, hA2.cell HY.out HLT.out⟩
        have HA2 := Lib.hid hA2
        clear hb1 hA2
        go_wp2_with (at_lookup; refine wpList_lookup_own_ok_int _ rfl _ _ 60 rfl 52 5 .u8 lawQ Tryd.underlying60 Tryd.underlying5 (zeroB _) M k D rfl (HM1.out.alloc _) _ _ rfl hkey ?_; intro c hat hwc; have HC2 := Lib.hid (hat.symm.trans HAT.out); clear hat hwc; rw [h1])
        have hc := HC2.out
        simp only [DataW.lit.injEq, Lit.int.injEq, true_and] at hc
        have hal := HB1.out.alloc HB1.out.size (.cells #[.int .u64 (f k : Int), .int .u64 (g k : Int)] 52)
        refine ⟨⟨k + 1, by have := HLT.out; omega, by simp, _, _, ?_, HA2.out.set k _, Lib.hid (by rw [hc]; exact HN.out), ((HM1.out.alloc _).mono (Nat.le_succ k)).setCell (by exact HAR.out.2.2.1) _, HS2, ?_⟩, by have := HLT.out; simp [intOf]; omega⟩
        · exact (HR1.out.alloc _).other (fun e => HAR.out.1 e) _
        · exact hal.setCell (p := ⟨A, k, none⟩) HAR.out.2.2.2.2.1 _
    · obtain rfl : k = 256 := by omega
      have hsz := HS.out.size
      have HKK := Lib.hid hk; clear hk hlt
      obtain ⟨n, hn⟩ : ∃ n, n = rk E 256 := ⟨_, rfl⟩
      rw [← hn] at hsz
      have HNN := Lib.hid hn; clear hn
      have HN := Lib.hid (nmTo_all _ HY.out)
      go_wp2_with (first | (at_len; refine wpList_len_own _ rfl _ 60 rfl 52 5 Tryd.underlying60 _ M 256 D rfl hM ?_; rw [hsz]) | (refine wpList_load_arr rfl 22 (.tmp 4) rfl rfl hA HY.out.size Tryd.underlying22 infoA ?_) | (refine wpList_store_arr rfl 22 (.tmp 2) (.tmp 36) rfl rfl rfl hR HZ.out.size HN.out infoA ?_))
      have hld := (hR.row Y).loadVar (P := Tryd.prog) HY.out.size Tryd.underlying22 infoA
      refine bodyPost_ret (v := .tuple #[.agg Y, .int .i64 n]) ?_ rfl ⟨Y, by rw [HNN.out], HN.out, below_row hb HAR.out.2.2.2.1 Y⟩
      rw [results_cell_tmp rfl]
      simp [asAddr, Result.andThen, hld]

end Go.Proofs.YtciggkebbhineaaDoor.PartW
