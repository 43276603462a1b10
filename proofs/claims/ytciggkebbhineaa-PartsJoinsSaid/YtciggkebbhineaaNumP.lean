/- Walks of layer 19: numbered, of two small numbers for each byte; Join. -/
import Derived.Test.YtciggkebbhineaaNumB
import Derived.DeepKeys4
import Derived.ChangeKeysEq
import Derived.RegionTactic
import Derived.BigRegion
import Derived.ChangeAlike
import Derived.Deep.RegionHeld3
namespace Go.Proofs.Ytciggkebbhineaa.PartW
set_option linter.unusedVariables false
open Go.RowKit Go.Maps Go.Proofs.Ytciggkebbhineaa.PartM

theorem keys_of {P : Program} {kt : TypeId} {KV : Nat → Value} {E : Nat → Nat → Bool} (law : Keyed P kt) (hk : ∀ b, b < 256 → ∃ l, keyOf P kt (KV b) = some l) (hE : ∀ a b, KV a = KV b ↔ E a b = true) :
    Keys P kt KV (fun b => (keyOf P kt (KV b)).getD (.bool false)) E := by
  refine ⟨law, fun b hb => ?_, fun a b ha hb => ?_⟩
  · obtain ⟨l, hl⟩ := hk b hb
    simp [hl]
  · obtain ⟨l, hl⟩ := hk a ha
    obtain ⟨m, hm⟩ := hk b hb
    simp only [hl, hm, Option.getD_some]
    constructor
    · rintro rfl
      exact (hE a b).1 (law.inj hl hm)
    · intro h
      have := (hE a b).2 h
      rw [this, hm] at hl
      injection hl with hl
      exact hl.symm
theorem laidP : laidOutB Try.prog = true := by kernel_rfl
theorem rowP : (45 : TypeId) < Try.prog.types.size := of_decide_eq_true (by kernel_rfl)
theorem wideP : (match Try.prog.underlying 45 with | some (.array _ _) | some (.struct _) => true | _ => false) = true := by rw [Try.underlying45]
theorem lawP : Keyed Try.prog 45 := Keyed.of_law (deep_law_laid laidP (m := 2) (by omega) rowP (by kernel_rfl) wideP)
theorem cellsP : Try.prog.cellsOf 45 = 2 := by kernel_rfl
theorem cellsB : Try.prog.cellsOf 5 = 1 := by kernel_rfl
theorem formedP {c0 c1 : Value} : (Value.agg #[c0, c1]).formed Try.prog 45 = true := by simp [Value.formed, Try.underlying45, cellsP]
theorem keyTypeP : Try.prog.keyType 45 = true := by kernel_rfl
theorem litB {n : Nat} {x : Int} (hx : (Lit.int .u8 x).wf = true) : Try.prog.keyLits (n + 1) 5 [.int .u8 x] = some [.int .u8 x] := by
  simp [Program.keyLits, Try.underlying5, hx]
theorem litP {n : Nat} {x y : Int} (hx : (Lit.int .u8 x).wf = true) (hy : (Lit.int .u8 y).wf = true) : Try.prog.keyLits (n + 2) 45 [.int .u8 x, .int .u8 y] = some [.int .u8 x, .int .u8 y] := by
  unfold Program.keyLits
  simp only [Try.underlying45, cellsP, cellsB]
  simp [List.range, List.range.loop, litB hx, litB hy]
theorem keyP {x y : Int} (hx : (Lit.int .u8 x).wf = true) (hy : (Lit.int .u8 y).wf = true) : ∃ lx, keyOf Try.prog 45 (.agg #[.int .u8 x, .int .u8 y]) = some lx := by
  obtain ⟨n, hn⟩ : ∃ n, Try.prog.types.size + 1 = n + 2 := ⟨Try.prog.types.size - 1, by have h : 45 < Try.prog.types.size := rowP; omega⟩
  unfold keyOf
  rw [Try.underlying45]
  simp only [keyTypeP, formedP, hn, Bool.and_self, if_true]
  exact ⟨_, by simp [Value.cells, litP hx hy]; rfl⟩
abbrev KVP (f g : Nat → Nat) : Nat → Value := fun b => .agg #[.int .u8 (f b : Int), .int .u8 (g b : Int)]
theorem keysP {f g : Nat → Nat} (hf : ∀ b, b < 256 → f b < 256) (hg : ∀ b, b < 256 → g b < 256) : Keys Try.prog 45 (KVP f g) (fun b => (keyOf Try.prog 45 (KVP f g b)).getD (.bool false)) (byKey fun b => (f b, g b)) :=
  keys_of lawP (fun b hb => keyP (wf_u8 (hf b hb)) (wf_u8 (hg b hb))) (fun a b => by simp [byKey]; omega)

theorem Join1 {w : World} {A B : Nat} {C D : Array Value} {f g : Nat → Nat} (h : Ar w A C 24) (hC : IsA C f) (k : Ar w B D 24) (hD : IsA D g) {b : Nat} (hb : b < 256) :
    Calls Try.prog 20 #[.int .u8 b, .pointer (some ⟨A, 0, none⟩), .pointer (some ⟨B, 0, none⟩)] w fun e w' => e = .returned (KVP f g b) ∧ Below w.heap.size w w' := by
  have hz : Ar (w.alloc (.cells #[.int .u8 0, .int .u8 0] 45)).drew A C 24 := h.alloc _
  have hy : Ar (w.alloc (.cells #[.int .u8 0, .int .u8 0] 45)).drew B D 24 := k.alloc _
  have hc := hz.cell hC hb
  have hd := hy.cell hD hb
  have hb0 : Below w.heap.size w (w.alloc (.cells #[.int .u8 0, .int .u8 0] 45)) := (Below.refl _ w).alloc (Nat.le_refl _) _
  clear h k hz hy
  go_enter Try.func20, Try.ntmps20
  go_wp2_with fail
  go_region
  go_wp2_with fail
  refine bodyPost_ret (v := KVP f g b) (by simp [results, Try.results20, go_sem]) rfl ⟨rfl, ((Below.refl _ w).alloc (Nat.le_refl _) _).drew⟩

set_option maxRecDepth 100000 in
set_option maxHeartbeats 1000000 in
theorem numberedP {w : World} (p q : Addr) {f g : Nat → Nat} {KL : Nat → Lit} (hK : Keys Try.prog 45 (KVP f g) KL (byKey fun b => (f b, g b)))
    (hclo : ∀ W, Below w.heap.size w W → ∀ b : Nat, b < 256 → Calls Try.prog 20 #[.int .u8 b, .pointer (some p), .pointer (some q)] W fun e W' => e = .returned (KVP f g b) ∧ Below W.heap.size W W') :
    Calls Try.prog 19 #[.func (.func 20) #[] #[.pointer (some p), .pointer (some q)]] w fun e w' =>
      ∃ D, e = .returned (.tuple #[.agg D, .int .i64 (rk (byKey fun b => (f b, g b)) 256 : Nat)]) ∧ IsA D (nm (byKey fun b => (f b, g b))) ∧ Below w.heap.size w w' := by
  obtain ⟨Z, hZ, hz⟩ := zeroA
  have HZ := Lib.hid hZ
  have HK := Lib.hid hK
  have HE := Lib.hid (byKey_eqv fun b => (f b, g b))
  have HCL := Lib.hid hclo
  have hmm := @run_makeMap Try.prog
  obtain ⟨E, hE⟩ : ∃ E, E = byKey fun b => (f b, g b) := ⟨_, rfl⟩
  rw [← hE] at HK HE ⊢
  clear hZ hK hclo hE
  go_enter Try.func19, Try.ntmps19
  go_wp2_with fail
  obtain ⟨R, hR⟩ : ∃ R, R = w.heap.size := ⟨_, rfl⟩
  obtain ⟨A, hA⟩ : ∃ A, A = w.heap.size + 1 := ⟨_, rfl⟩
  obtain ⟨M, hM⟩ : ∃ M, M = w.heap.size + 1 + 1 := ⟨_, rfl⟩
  have hb0 : Below w.heap.size w (((w.alloc (.cells Z 24)).alloc (.cells Z 24)).alloc (.map #[] 0)) := (((Below.refl _ w).alloc (Nat.le_refl _) _).alloc (by simp) _).alloc (by simp; omega) _
  have hr0 : Ar (((w.alloc (.cells Z 24)).alloc (.cells Z 24)).alloc (.map #[] 0)) R Z 24 := by rw [hR]; exact ((Ar.new w Z _).alloc _).alloc _
  have ha0 : Ar (((w.alloc (.cells Z 24)).alloc (.cells Z 24)).alloc (.map #[] 0)) A Z 24 := by rw [hA, ← World.size_alloc w (.cells Z 24)]; exact (Ar.new (w.alloc (.cells Z 24)) Z _).alloc _
  have hm0 : (((w.alloc (.cells Z 24)).alloc (.cells Z 24)).alloc (.map #[] 0)).ownsMap Try.prog 45 (plainElem Try.prog 5) M 0 (.map [] : DataW Unit) := by
    have := World.ownsMap_made (H := Unit) ((w.alloc (.cells Z 24)).alloc (.cells Z 24)) Try.prog 45 (plainElem Try.prog 5)
    simp only [World.size_alloc] at this
    rw [hM]; exact this
  rw [← hM, ← hA, ← hR]
  have HAR := Lib.hid (show A ≠ R ∧ M ≠ R ∧ M ≠ A ∧ w.heap.size ≤ R ∧ w.heap.size ≤ A ∧ w.heap.size ≤ M by omega)
  generalize (((w.alloc (.cells Z 24)).alloc (.cells Z 24)).alloc (.map #[] 0)) = w0 at *
  clear hR hA hM hz hmm
  go_loopw [11] (fun i wr => ∃ k : Nat, k ≤ 256 ∧ i = .int .i64 k ∧ ∃ Y D, Ar wr R Z 24 ∧ Ar wr A Y 24 ∧ Hid (IsA Y (nmTo E k)) ∧ wr.ownsMap Try.prog 45 (plainElem Try.prog 5) M k (D : DataW Unit) ∧ Hid (Seen D KL E k) ∧ Below w.heap.size w wr) (fun i _ => 256 - (intOf i).toNat)
  case atStart =>
    exact ⟨0, by omega, rfl, Z, .map [], hr0, ha0, Lib.hid (by rw [nmTo_zero]; exact HZ.out), hm0, Lib.hid (Seen.none _ _), hb0⟩
  case round =>
    obtain ⟨k, hk, rfl, Y, D, hR, hA, HY, hM, HS, hb⟩ := hrel
    by_cases hlt : k < 256
    · have hkey := HK.out.key k hlt
      have hwr : IntKind.u8.wrap (k : Int) = (k : Int) := wrap_u8 hlt
      have hsz := HS.out.size
      have hrk := rk_le (E := E) k
      have t0 : decide ((k : Int) < 256) = true := by simp; omega
      have t1 : ¬ (256 : Int) ≤ (k : Int) := by omega
      have HCK := Lib.hid (HCL.out wr hb k hlt)
      have HB := Lib.hid hb; have HR := Lib.hid hR; have HA := Lib.hid hA; have HM := Lib.hid hM
      have HN := Lib.hid (nmTo_set E HY.out)
      by_cases hn : fst E k = k
      · obtain ⟨h1, h2⟩ := HS.out.new HK.out HE.out (hM.tidy lawP) hlt hn
        have HQ := Lib.hid (nm_first hn)
        have HS2 := Lib.hid h2
        clear h2 hn
        generalize rk E k = n at *
        have hwn : IntKind.u8.wrap (n : Int) = (n : Int) := wrap_u8 (by omega)
        have HWF := Lib.hid (wf_u8 (show n < 256 by omega))
        have HLT := Lib.hid hlt
        clear hlt hrk hk hb0 hr0 ha0 hm0 hb hR hA hM
        go_wp2_with fail
        refine HCK.out.mono ?_
        rintro e w1 ⟨rfl, hb1⟩
        have HM1 := Lib.hid (owns_map_heap HM.out (hb1.block M (owns_map_lt HM.out)))
        have HA1 := Lib.hid (HA.out.below hb1)
        have HR1 := Lib.hid (HR.out.below hb1)
        have HB1 := Lib.hid (HB.out.trans (hb1.mono HB.out.size))
        clear hb1
        go_wp2_with (first | (at_lookup; refine wpList_lookup_own_ok_int _ rfl _ _ 58 rfl 45 5 .u8 lawP Try.underlying58 Try.underlying5 (zeroB _) M k D rfl (HM1.out.alloc _) _ _ rfl hkey ?_; intro c hat hwc; clear hat hwc; rw [h1]) | (at_len; refine wpList_len_own _ rfl _ 58 rfl 45 5 Try.underlying58 _ M k D rfl (HM1.out.alloc _) ?_; rw [hsz]) | (at_mapUpdate; refine wpList_mapUpdate_own _ rfl _ _ _ 58 rfl 45 5 lawP Try.underlying58 _ M k D rfl (HM1.out.alloc _) (by have := HLT.out; unfold maxLen; omega) _ _ _ rfl rfl hkey _ [] (plainElem_int Try.underlying5 HWF.out) ?_; intro w4 hD4 hg4; have hA4 : Ar w4 A Y 24 := (hg4.block A (HA1.out.alloc _).lt (by intro e; cases e; exact HAR.out.2.2.1 rfl)).trans (HA1.out.alloc _); have hfz4 := hA4.frozen k; obtain ⟨u4, hck4⟩ : ∃ u, w4.cell? ⟨A, k, none⟩ = some u := ⟨_, hA4.cell HY.out HLT.out⟩; have HB4 := Lib.hid hD4; have HG4 := Lib.hid hg4; clear hD4 hg4))
        have hg4 := HG4.out
        have hal := HB1.out.alloc HB1.out.size (.cells #[.int .u8 (f k : Int), .int .u8 (g k : Int)] 45)
        refine ⟨⟨k + 1, by have := HLT.out; omega, by simp, _, _, ?_, hA4.set k _, Lib.hid (by rw [← HQ.out]; exact HN.out), HB4.out.setCell (by exact HAR.out.2.2.1) _, HS2, ?_⟩, by have := HLT.out; simp [intOf]; omega⟩
        · exact Ar.other (show Ar w4 R Z 24 from (hg4.block R (HR1.out.alloc _).lt (by intro e; cases e; exact HAR.out.2.1 rfl)).trans (HR1.out.alloc _)) (fun e => HAR.out.1 e) _
        · exact (hal.trans ⟨hg4.os, hg4.tape, hg4.output, hg4.size, fun i hi => hg4.block i (Nat.lt_of_lt_of_le hi hal.size) (by intro e; cases e; have := HAR.out.2.2.2.2.2; omega)⟩).setCell (p := ⟨A, k, none⟩) HAR.out.2.2.2.2.1 _
      · obtain ⟨h1, h3, h2⟩ := HS.out.old HK.out HE.out hlt hn
        have HS2 := Lib.hid h2
        have HAT := Lib.hid (h3 (.lit (.int .u8 0)))
        have HLT := Lib.hid hlt
        clear h2 h3 hn hlt hrk hk hb0 hr0 ha0 hm0 hb hR hA hM
        go_wp2_with fail
        refine HCK.out.mono ?_
        rintro e w1 ⟨rfl, hb1⟩
        have HM1 := Lib.hid (owns_map_heap HM.out (hb1.block M (owns_map_lt HM.out)))
        have HA1 := Lib.hid (HA.out.below hb1)
        have HR1 := Lib.hid (HR.out.below hb1)
        have HB1 := Lib.hid (HB.out.trans (hb1.mono HB.out.size))
        have hA2 := HA1.out.alloc (.cells #[.int .u8 (f k : Int), .int .u8 (g k : Int)] 45)
        have hfz2 := hA2.frozen k
        obtain ⟨u2, hck2⟩ : ∃ u, (w1.alloc (.cells #[.int .u8 (f k : Int), .int .u8 (g k : Int)] 45)).cell? ⟨A, k, none⟩ = some u := ⟨_, hA2.cell HY.out HLT.out⟩
        have HA2 := Lib.hid hA2
        clear hb1 hA2
        go_wp2_with (at_lookup; refine wpList_lookup_own_ok_int _ rfl _ _ 58 rfl 45 5 .u8 lawP Try.underlying58 Try.underlying5 (zeroB _) M k D rfl (HM1.out.alloc _) _ _ rfl hkey ?_; intro c hat hwc; have HC2 := Lib.hid (hat.symm.trans HAT.out); clear hat hwc; rw [h1])
        have hc := HC2.out
        simp only [DataW.lit.injEq, Lit.int.injEq, true_and] at hc
        have hal := HB1.out.alloc HB1.out.size (.cells #[.int .u8 (f k : Int), .int .u8 (g k : Int)] 45)
        refine ⟨⟨k + 1, by have := HLT.out; omega, by simp, _, _, ?_, HA2.out.set k _, Lib.hid (by rw [hc]; exact HN.out), ((HM1.out.alloc _).mono (Nat.le_succ k)).setCell (by exact HAR.out.2.2.1) _, HS2, ?_⟩, by have := HLT.out; simp [intOf]; omega⟩
        · exact (HR1.out.alloc _).other (fun e => HAR.out.1 e) _
        · exact hal.setCell (p := ⟨A, k, none⟩) HAR.out.2.2.2.2.1 _
    · obtain rfl : k = 256 := by omega
      have hsz := HS.out.size
      have HKK := Lib.hid hk; clear hk hlt
      obtain ⟨n, hn⟩ : ∃ n, n = rk E 256 := ⟨_, rfl⟩
      rw [← hn] at hsz
      have HNN := Lib.hid hn; clear hn
      have HN := Lib.hid (nmTo_all _ HY.out)
      go_wp2_with (first | (at_len; refine wpList_len_own _ rfl _ 58 rfl 45 5 Try.underlying58 _ M 256 D rfl hM ?_; rw [hsz]) | (refine wpList_load_arr rfl 24 (.tmp 4) rfl rfl hA HY.out.size Try.underlying24 infoA ?_) | (refine wpList_store_arr rfl 24 (.tmp 2) (.tmp 36) rfl rfl rfl hR HZ.out.size HN.out infoA ?_))
      have hld := (hR.row Y).loadVar (P := Try.prog) HY.out.size Try.underlying24 infoA
      refine bodyPost_ret (v := .tuple #[.agg Y, .int .i64 n]) ?_ rfl ⟨Y, by rw [HNN.out], HN.out, below_row hb HAR.out.2.2.2.1 Y⟩
      rw [results_cell_tmp rfl]
      simp [asAddr, Result.andThen, hld]

theorem Join_any {C D : Array Value} {f g : Nat → Nat} (hC : IsA C f) (hD : IsA D g) (hf : ∀ b, b < 256 → f b < 256) (hg : ∀ b, b < 256 → g b < 256) (w : World) :
    Calls Try.prog 8 #[.agg C, .agg D] w fun e w' => ∃ Y, e = .returned (.tuple #[.agg Y, .int .i64 (rk (byKey fun b => (f b, g b)) 256 : Nat)]) ∧ IsA Y (nm (byKey fun b => (f b, g b))) ∧ Below w.heap.size w w' := by
  obtain ⟨Z, hZ, hz⟩ := zeroA
  have HZ := Lib.hid hZ
  have HC := Lib.hid hC
  have HD := Lib.hid hD
  have HK := Lib.hid (keysP hf hg)
  have hm := hmf
  clear hZ hC hD hf hg
  go_enter Try.func8, Try.ntmps8
  go_wp2_with fail
  refine (numberedP (f := f) (g := g) ⟨w.heap.size, 0, none⟩ ⟨w.heap.size + 1, 0, none⟩ HK.out fun W hb b hb' => Join1 (((Ar.new w C _).alloc _).alloc _ |>.below (hb.mono (by simp))) HC.out ?_ HD.out hb').mono ?_
  · have := (((Ar.new (w.alloc (.cells C 24)) D 24).alloc (.cells Z 24))).below hb
    rw [World.size_alloc] at this; exact this
  rintro e w1 ⟨Y, rfl, hY, hb⟩
  have hr : Ar w1 (w.heap.size + 1 + 1) Z 24 := by
    have := (Ar.new ((w.alloc (.cells C 24)).alloc (.cells D 24)) Z 24).below hb
    simp only [World.size_alloc] at this; exact this
  have hb1 : Below w.heap.size w w1 := ((((Below.refl _ w).alloc (Nat.le_refl _) _).alloc (by simp) _).alloc (by simp; omega) _).trans (hb.mono (by simp; omega))
  have HY := Lib.hid hY; have HB := Lib.hid hb1
  clear hY hb hb1
  go_wp2_with (refine wpList_store_arr rfl 24 (.tmp 4) (.tmp 8) rfl rfl rfl hr HZ.out.size HY.out infoA ?_)
  have hld := (hr.row Y).loadVar (P := Try.prog) HY.out.size Try.underlying24 infoA
  refine bodyPost_ret (v := .tuple #[.agg Y, .int .i64 (rk (byKey fun b => (f b, g b)) 256 : Nat)]) ?_ rfl ⟨Y, rfl, HY.out, below_row HB.out (by omega) Y⟩
  rw [results_cell_tmp rfl]
  simp [asAddr, Result.andThen, hld]
end Go.Proofs.Ytciggkebbhineaa.PartW
