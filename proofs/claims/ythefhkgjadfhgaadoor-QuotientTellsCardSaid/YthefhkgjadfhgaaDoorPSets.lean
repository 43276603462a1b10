/- Walk of layer 19: Sets. -/
import Derived.Test.YthefhkgjadfhgaaDoorSetsD
import Derived.Test.YthefhkgjadfhgaaDoorRegions
import Derived.Laws.OwnMore
namespace Go.Proofs.YthefhkgjadfhgaaDoor.PartW
set_option linter.unusedVariables false
set_option linter.unusedSimpArgs false
open Go.Proofs.YthefhkgjadfhgaaDoor.RegionU (Up wpT_taken wpT_one wpT_done wp_region_T)
open Go.Proofs.YthefhkgjadfhgaaDoor.Base (BSl)
open Go.RowKit Go.Maps Go.Proofs.YthefhkgjadfhgaaDoor.PartM Go.Proofs.YthefhkgjadfhgaaDoor.SetM Go.Proofs.YthefhkgjadfhgaaDoor.SetW

/-- A slice of these sets. -/
def IsSets (fs : List (Nat → Bool)) (v : Value) (W : World) : Prop := ∃ b, v = .slice (some ⟨b, 0, none⟩) fs.length fs.length ∧ SetsAt W b fs
theorem isSets_up (fs : List (Nat → Bool)) (v : Value) : Up (IsSets fs v) := fun W W' ⟨b, h1, h2⟩ hr => ⟨b, h1, h2.below hr⟩
theorem _root_.Go.Proofs.YthefhkgjadfhgaaDoor.SetW.SetsAt.new2 (w : World) (f g : Nat → Bool) (t : TypeId) : SetsAt (w.alloc (.cells #[.int .u64 (wd f 0), .int .u64 (wd f 1), .int .u64 (wd f 2), .int .u64 (wd f 3), .int .u64 (wd g 0), .int .u64 (wd g 1), .int .u64 (wd g 2), .int .u64 (wd g 3)] t)) w.heap.size [f, g] := fun k hk => by
  rcases k with _ | _ | k
  · refine ⟨?_, ?_, ?_, ?_⟩ <;> (rw [World.cell?_alloc_new]; rfl)
  · refine ⟨?_, ?_, ?_, ?_⟩ <;> (rw [World.cell?_alloc_new]; rfl)
  · simp at hk; omega
/-- A slice of one byte. -/
def IsByte (n : Nat) (v : Value) (W : World) : Prop := ∃ b, v = .slice (some ⟨b, 0, none⟩) 1 1 ∧ W.cell? ⟨b, 0, none⟩ = some (.int .u8 (n : Int))
theorem isByte_up (n : Nat) (v : Value) : Up (IsByte n v) := fun W W' ⟨b, h1, h2⟩ hr => ⟨b, h1, (hr.cell (World.block_lt_of_cell? _ _ h2)).trans h2⟩
theorem IsByte.new (w : World) (n : Nat) (t : TypeId) : IsByte n (.slice (some ⟨w.heap.size, 0, none⟩) 1 1) (w.alloc (.cells #[.int .u8 (n : Int)] t)) := ⟨_, rfl, by rw [World.cell?_alloc_new]; rfl⟩
theorem bsl_byte {W : World} {b n : Nat} (hn : n < 256) (h : W.cell? ⟨b, 0, none⟩ = some (.int .u8 (n : Int))) : BSl W (.slice (some ⟨b, 0, none⟩) 1 1) ⟨#[UInt8.ofNat n]⟩ :=
  .inr ⟨b, 0, 1, rfl, Nat.le_refl _, by decide, fun i hi => by
    have : i = 0 := by have : (⟨#[UInt8.ofNat n]⟩ : ByteArray).size = 1 := rfl; omega
    subst this
    have e : ((⟨#[UInt8.ofNat n]⟩ : ByteArray)[0].toNat : Int) = (n : Int) := by
      show (((UInt8.ofNat n).toNat : Nat) : Int) = n
      rw [UInt8.toNat_ofNat']; omega
    rw [e]; exact h⟩
/-- The set of one byte. -/
theorem OfByte_any {n : Nat} (hn : n < 256) (W : World) (b : Nat) (h : W.cell? ⟨b, 0, none⟩ = some (.int .u8 (n : Int))) :
    Calls Tryd.prog 66 #[.slice (some ⟨b, 0, none⟩) 1 1] W fun e w' => e = .returned (SV (withF emptyF n)) ∧ Below W.heap.size W w' := by
  have h1 := Of_any _ _ W (bsl_byte hn h)
  have e : ofF ((⟨#[UInt8.ofNat n]⟩ : ByteArray).data.toList) = withF emptyF n := by
    funext i
    unfold ofF withF emptyF
    show List.any [UInt8.ofNat n] _ = _
    have e2 : (UInt8.ofNat n).toNat = n := by rw [UInt8.toNat_ofNat']; omega
    simp [e2]
  rw [e] at h1
  exact h1
theorem made_at (z : Array Value) (k i : Nat) (h : i < k) : (madeCells z k)[i]? = some (z[i % z.size]!) := by simp [madeCells, h]
theorem made_sets (E : Nat → Nat → Bool) (n : Nat) : (madeCells (Value.agg #[.int .u64 0, .int .u64 0, .int .u64 0, .int .u64 0]).cells (n * 4)).toList = setCells (clsL E 0 n) := by
  have hl := setCells_length (clsL E 0 n)
  rw [clsL_length] at hl
  apply List.ext_getElem?
  intro i
  by_cases hi : i < n * 4
  · obtain ⟨q, r, hr, rfl⟩ : ∃ q r, r < 4 ∧ i = q * 4 + r := ⟨i / 4, i % 4, by omega, by omega⟩
    have hq : q < (clsL E 0 n).length := by rw [clsL_length]; omega
    rw [setCells_at _ q r hq hr, clsL_at, cls_none, Array.getElem?_toList, made_at _ _ _ hi]
    show some (#[Value.int IntKind.u64 0, .int .u64 0, .int .u64 0, .int .u64 0][(q * 4 + r) % 4]!) = _
    rw [show (q * 4 + r) % 4 = r by omega, wd_empty]
    rcases r with _ | _ | _ | _ | r
    · rfl
    · rfl
    · rfl
    · rfl
    · omega
  · rw [List.getElem?_eq_none (by rw [Array.length_toList, size_madeCells]; omega), List.getElem?_eq_none (by omega)]
/-- One byte more. -/
theorem clsL_step {E : Nat → Nat → Bool} {b n : Nat} (h : nm E b < n) : clsL E (b + 1) n = (clsL E b n).set (nm E b) (withF (cls E b (nm E b)) b) := by
  apply List.ext_getElem?
  intro i
  by_cases hi : i < n
  · rw [List.getElem?_eq_getElem (by rw [clsL_length]; exact hi), clsL_at]
    by_cases e : nm E b = i
    · subst e
      rw [List.getElem?_set_self (by rw [clsL_length]; exact hi), cls_with b _ rfl]
    · rw [List.getElem?_set_ne e, List.getElem?_eq_getElem (by rw [clsL_length]; exact hi), clsL_at, cls_other b i e]
  · rw [List.getElem?_eq_none (by rw [clsL_length]; omega), List.getElem?_eq_none (by rw [List.length_set, clsL_length]; omega)]
theorem union_one (g : Nat → Bool) (b : Nat) : unionF g (withF emptyF b) = withF g b := by
  funext i
  unfold unionF withF emptyF
  simp
theorem _root_.Go.Below.made {w w' : World} (h : w.grownBy w' none) : Below w.heap.size w w' := ⟨h.os, h.tape, h.output, h.size, fun i hi => h.block i hi (by intro e; cases e)⟩

set_option maxRecDepth 100000 in
set_option maxHeartbeats 2000000 in
theorem PSets_any {C : Array Value} {f : Nat → Nat} (hC : IsA C f) (hf : ∀ b, b < 256 → f b < 256) (w : World) :
    Calls Tryd.prog 49 #[.agg C] w fun e w' => ∃ v', e = .returned v' ∧ w'.ownsRow w.heap.size 69 4 v' (rk (byKey f) 256) (setCells (clsL (byKey f) 256 (rk (byKey f) 256))) ∧ Below w.heap.size w w' := by
  obtain ⟨i0, hi, hz0, hz1, hz2⟩ := info_parts infoSet
  obtain ⟨Z, hZ, hz⟩ := zeroA
  have HZ := Lib.hid hZ; have HC := Lib.hid hC
  have hb0 : Below w.heap.size w (w.alloc (.cells C 22)) := (Below.refl _ w).alloc (Nat.le_refl _) _
  have HB0 := Lib.hid hb0
  have HNO := Lib.hid (Norm_any hC hf (w.alloc (.cells C 22)))
  have HR0 := Lib.hid (Ar.new w C 22)
  obtain ⟨E, hE⟩ : ∃ E, E = byKey f := ⟨_, rfl⟩
  have HEV := Lib.hid (byKey_eqv f)
  rw [← hE] at HNO HEV ⊢
  obtain ⟨n, hn⟩ : ∃ n, n = rk E 256 := ⟨_, rfl⟩
  rw [← hn] at HNO ⊢
  have HN := Lib.hid (show n ≤ 256 by rw [hn]; exact rk_le 256)
  have HLT := Lib.hid (fun b (hb : b < 256) => show nm E b < n by rw [hn]; exact nm_lt HEV.out hb)
  clear hZ hC hf hb0 hE hn
  go_enter Tryd.func49, Tryd.ntmps49
  go_wp2_with (refine wpList_load_arr rfl 22 (.tmp 1) rfl rfl HR0.out HC.out.size Tryd.underlying22 infoA ?_)
  refine HNO.out.mono ?_
  rintro e w1 ⟨Y, rfl, hY, hb1⟩
  have HY := Lib.hid hY
  have HB1 := Lib.hid (HB0.out.trans (hb1.mono HB0.out.size))
  have hb2 : Below w.heap.size w (w1.alloc (.cells Y 22)) := HB1.out.alloc HB1.out.size _
  have hay := Ar.new w1 Y 22
  obtain ⟨wm, hmk, hown, hgm⟩ := run_make_full (P := Tryd.prog) (w1.alloc (.cells Y 22)) w.heap.size 65 69 i0 (.agg #[.int .u64 0, .int .u64 0, .int .u64 0, .int .u64 0]) 4 Tryd.underlying65 hi hz0 hz1 .i64 .i64 n (by rw [hz2]; have := HN.out; omega) (by unfold maxLen; have := HN.out; omega) hb2.size
  rw [made_sets E] at hown
  have hb3 := hb2.trans ((Below.made hgm).mono hb2.size)
  have hay3 := hay.below (Below.made hgm)
  have HAY := Lib.hid hay3; have HB3 := Lib.hid hb3; have HOW := Lib.hid hown
  clear hY hb1 hb2 hay hay3 hgm hown hb3
  go_wp2_with (first | (refine wpList_store_arr rfl 22 (.tmp 3) (.tmp 11) rfl rfl rfl (Ar.new w1 Z 22) HZ.out.size HY.out infoA ?_; rw [World.setRow_alloc_new]))
  obtain ⟨A, hA⟩ : ∃ A, A = w1.heap.size := ⟨_, rfl⟩
  have hsz : (w1.alloc (.cells Y 22)).heap.size = A + 1 := by rw [World.size_alloc, hA]
  rw [hsz] at HOW
  rw [← hA] at HAY
  try rw [hsz]
  try rw [← hA]
  have HA := Lib.hid (show w.heap.size ≤ A by rw [hA]; exact HB1.out.size)
  clear hA hsz
  obtain ⟨S, hS⟩ : ∃ S, S = A + 1 := ⟨_, rfl⟩
  rw [← hS] at HOW ⊢
  have HSA := Lib.hid (show A ≠ S ∧ w.heap.size ≤ S from ⟨by omega, by have := HA.out; omega⟩)
  clear hS
  go_loopw [15] (fun i wr => ∃ b : Nat, b ≤ 256 ∧ i = .int .i64 b ∧ wr.ownsRow w.heap.size 69 4 (.slice (some ⟨S, 0, none⟩) n n) n (setCells (clsL E b n)) ∧ Ar wr A Y 22 ∧ Below w.heap.size w wr) (fun i _ => 256 - (intOf i).toNat)
  case atStart => exact ⟨0, by omega, rfl, HOW.out, HAY.out, HB3.out⟩
  case round =>
    obtain ⟨b, hb, rfl, hO, hA, hB⟩ := hrel
    clear HOW HAY HB3 HB1 HB0 HR0 HNO
    by_cases hlt : b < 256
    · have hm := HLT.out b hlt
      have hk := hA.cell HY.out hlt
      have hat := owns_at hO (k := nm E b) (by rw [clsL_length]; exact hm)
      rw [clsL_at] at hat
      have HST := Lib.hid (clsL_step hm)
      obtain ⟨m, hm'⟩ : ∃ m, m = nm E b := ⟨_, rfl⟩
      rw [← hm'] at hm hk HST
      simp only [← hm'] at hat
      obtain ⟨g, hg⟩ : ∃ g, g = cls E b m := ⟨_, rfl⟩
      rw [← hg] at hat HST
      have HUN := Lib.hid (fun W b' h => Union2_any g (withF emptyF b) W b' h)
      rw [union_one] at HUN
      have HOF := Lib.hid (fun W b' h => OfByte_any hlt W b' h)
      have hwr : IntKind.u8.wrap (b : Int) = (b : Int) := wrap_u8 hlt
      have hws := wrap_succ (k := b) (by omega)
      have t0 : decide ((b : Int) < 256) = true := by simp; omega
      have t1 : ¬ (256 : Int) ≤ (b : Int) := by omega
      have t2 : ¬ (n : Int) ≤ (m : Int) := by omega
      have hfz := HSA.out
      have HO := Lib.hid hO; have HAA := Lib.hid hA; have HB := Lib.hid hB; have HAT := Lib.hid hat; have HL := Lib.hid hlt; have HM := Lib.hid hm
      clear hO hA hB hat hlt hm hg hm' hb hfz
      go_wp2_with fail
      refine wp_region_T 11 (by kernel_rfl) (by kernel_rfl) (RC.up wr S (m * 4) g) ⟨show At4 wr.drew S (m * 4) g from HAT.out, (Below.refl _ wr).drew⟩ ?_
      refine wpT_taken (i := 0) rfl (by kernel_rfl) (by kernel_rfl) (by kernel_rfl) (by kernel_rfl) (by kernel_rfl) (RC.up wr S (m * 4) g) ?_
      apply Exists.intro
      refine ⟨Or.inl ⟨rfl, fun W hW => ?hy⟩, ?_⟩
      case hy =>
        go_simp
        exact RegionU.does_value rfl
      simp only [Act.put, List.setIfInBounds_toArray, List.set]
      refine wpT_taken (i := 1) rfl (by kernel_rfl) (by kernel_rfl) (by kernel_rfl) (by kernel_rfl) (by kernel_rfl) (RC.up wr S (m * 4) g) ?_
      apply Exists.intro
      refine ⟨Or.inl ⟨rfl, fun W hW => ?hy⟩, ?_⟩
      case hy =>
        go_simp
        exact RegionU.does_value rfl
      simp only [Act.put, List.setIfInBounds_toArray, List.set]
      refine wpT_taken (i := 2) rfl (by kernel_rfl) (by kernel_rfl) (by kernel_rfl) (by kernel_rfl) (by kernel_rfl) (RC.up wr S (m * 4) g) ?_
      apply Exists.intro
      refine ⟨Or.inl ⟨rfl, fun W hW => ?hy⟩, ?_⟩
      case hy =>
        go_simp
        exact RegionU.does_value rfl
      simp only [Act.put, List.setIfInBounds_toArray, List.set]
      refine wpT_taken (i := 3) rfl (by kernel_rfl) (by kernel_rfl) (by kernel_rfl) (by kernel_rfl) (by kernel_rfl) (RC.up wr S (m * 4) g) ?_
      apply Exists.intro
      refine ⟨Or.inl ⟨rfl, fun W hW => ?hy⟩, ?_⟩
      case hy =>
        obtain ⟨⟨c0, c1, c2, c3⟩, hB⟩ := hW
        go_simp
        exact RegionU.does_value rfl
      simp only [Act.put, List.setIfInBounds_toArray, List.set]
      refine wpT_taken (i := 4) rfl (by kernel_rfl) (by kernel_rfl) (by kernel_rfl) (by kernel_rfl) (by kernel_rfl) (RC.up wr S (m * 4) g) ?_
      apply Exists.intro
      refine ⟨Or.inl ⟨rfl, fun W hW => ?hy⟩, ?_⟩
      case hy =>
        go_simp
        exact RegionU.does_value rfl
      simp only [Act.put, List.setIfInBounds_toArray, List.set]
      refine wpT_taken (i := 5) rfl (by kernel_rfl) (by kernel_rfl) (by kernel_rfl) (by kernel_rfl) (by kernel_rfl) (RC.up wr S (m * 4) g) ?_
      apply Exists.intro
      refine ⟨Or.inl ⟨rfl, fun W hW => ?hy⟩, ?_⟩
      case hy =>
        go_simp
        exact RegionU.does_value rfl
      simp only [Act.put, List.setIfInBounds_toArray, List.set]
      refine wpT_one (i := 6) (by kernel_rfl) (by kernel_rfl) rfl rfl (IsByte b) (isByte_up b) (fun W hW => ?hy) ?_
      case hy =>
        try rw [hwr]
        go_simp
        exact RegionU.does_made (IsByte.new W b _) ((Below.refl _ _).alloc (Nat.le_refl _) _)
      intro u
      simp only [Act.put, List.setIfInBounds_toArray, List.set]
      refine wpT_taken (i := 7) rfl (by kernel_rfl) (by kernel_rfl) (by kernel_rfl) (by kernel_rfl) (by kernel_rfl) ((RC.up wr S (m * 4) g).and (isByte_up b _)) ?_
      apply Exists.intro
      refine ⟨Or.inl ⟨rfl, fun W hW => ?hy⟩, ?_⟩
      case hy =>
        obtain ⟨⟨⟨c0, c1, c2, c3⟩, hB⟩, b2, rfl, hv⟩ := hW
        go_simp
        exact RegionU.does_call (HOF.out W b2 hv)
      simp only [Act.put, List.setIfInBounds_toArray, List.set]
      refine wpT_one (i := 8) (by kernel_rfl) (by kernel_rfl) rfl rfl (IsSets [g, withF emptyF b]) (isSets_up _) (fun W hW => ?hy) ?_
      case hy =>
        go_simp
        exact RegionU.does_made ⟨_, rfl, SetsAt.new2 _ _ _ _⟩ ((Below.refl _ _).alloc (Nat.le_refl _) _)
      intro u
      simp only [Act.put, List.setIfInBounds_toArray, List.set]
      refine wpT_taken (i := 9) rfl (by kernel_rfl) (by kernel_rfl) (by kernel_rfl) (by kernel_rfl) (by kernel_rfl) (((RC.up wr S (m * 4) g).and (isByte_up b _)).and (isSets_up _ _)) ?_
      apply Exists.intro
      refine ⟨Or.inl ⟨rfl, fun W hW => ?hy⟩, ?_⟩
      case hy =>
        obtain ⟨⟨⟨⟨c0, c1, c2, c3⟩, hB⟩, b2, hu2, hv⟩, b3, rfl, hs3⟩ := hW
        go_simp
        exact RegionU.does_call (HUN.out W b3 hs3)
      simp only [Act.put, List.setIfInBounds_toArray, List.set]
      refine wpT_taken (i := 10) rfl (by kernel_rfl) (by kernel_rfl) (by kernel_rfl) (by kernel_rfl) (by kernel_rfl) (((RC.up wr S (m * 4) g).and (isByte_up b _)).and (isSets_up _ _)) ?_
      apply Exists.intro
      refine ⟨Or.inl ⟨rfl, fun W hW => ?hy⟩, ?_⟩
      case hy =>
        go_simp
        exact RegionU.does_value rfl
      simp only [Act.put, List.setIfInBounds_toArray, List.set]
      refine wpT_done (by kernel_rfl) ?_
      intro W hW
      obtain ⟨⟨⟨hat2, hB2⟩, b2, hu2, hv⟩, b3, hu3, hs3⟩ := hW
      have hO2 := owns_below HO.out hB2
      have hA2 := HAA.out.below hB2
      have HB2 := Lib.hid (HB.out.trans (hB2.mono HB.out.size))
      obtain ⟨c0, c1, c2, c3⟩ := hat2
      have z0 := hO2.frozenAt (m * 4)
      have z1 := hO2.frozenAt (m * 4 + 1)
      have z2 := hO2.frozenAt (m * 4 + 2)
      have z3 := hO2.frozenAt (m * 4 + 3)
      have HO2 := Lib.hid hO2; have HA2 := Lib.hid hA2
      clear hO2 hA2 hB2 hs3 hv hu2 hu3
      go_wp2_with fail
      try rw [hws]
      refine ⟨⟨b + 1, by have := HL.out; omega, rfl, ?_, ?_, below_put4At HB2.out HSA.out.2 _⟩, by have := HL.out; simp [intOf]; omega⟩
      · rw [HST.out]
        exact owns_put4 HO2.out (by rw [clsL_length]; exact HM.out) _
      · exact (heap_put4At HSA.out.1 _).trans HA2.out
    · obtain rfl : b = 256 := by omega
      have HO := Lib.hid hO; have HB := Lib.hid hB
      clear hlt hb hO hB hA
      go_wp2_with fail
      go_ret
      exact ⟨_, rfl, HO.out, HB.out⟩
end Go.Proofs.YthefhkgjadfhgaaDoor.PartW
