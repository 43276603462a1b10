/- Walk of layer 2's document: Least, where the least one is known. -/
import Derived.Test.YtciggkebbhineaaClasses
import Derived.RegionTactic
import Derived.BigRegion
import Derived.ChangeAlike
import Derived.Deep.RegionHeld3
import Derived.Test.YtciggkebbhineaaRegionU
namespace Go.Proofs.Ytciggkebbhineaa.PartW
set_option linter.unusedVariables false
set_option linter.unusedSimpArgs false
open Go.Proofs.Ytciggkebbhineaa.RegionU (wpU_taken wpU_one wpU_done wp_region_U)
open Go.RowKit Go.Maps Go.Proofs.Ytciggkebbhineaa.PartM Go.Proofs.Ytciggkebbhineaa.SetM Go.Proofs.Ytciggkebbhineaa.SetW

/-- A set's words lie in block B from i on. -/
def At4 (W : World) (B i : Nat) (g : Nat → Bool) : Prop := W.cell? ⟨B, i, none⟩ = some (.int .u64 (wd g 0)) ∧ W.cell? ⟨B, i + 1, none⟩ = some (.int .u64 (wd g 1)) ∧ W.cell? ⟨B, i + 2, none⟩ = some (.int .u64 (wd g 2)) ∧ W.cell? ⟨B, i + 3, none⟩ = some (.int .u64 (wd g 3))
theorem At4.below {W W' : World} {B i : Nat} {g : Nat → Bool} (h : At4 W B i g) (hb : Below W.heap.size W W') : At4 W' B i g := by
  obtain ⟨h0, h1, h2, h3⟩ := h
  exact ⟨(hb.cell (World.block_lt_of_cell? _ _ h0)).trans h0, (hb.cell (World.block_lt_of_cell? _ _ h1)).trans h1, (hb.cell (World.block_lt_of_cell? _ _ h2)).trans h2, (hb.cell (World.block_lt_of_cell? _ _ h3)).trans h3⟩
/-- What a region over one set of a list knows. -/
def RC (w : World) (B i : Nat) (g : Nat → Bool) (W : World) : Prop := At4 W B i g ∧ Below w.heap.size w W
theorem RC.up (w : World) (B i : Nat) (g : Nat → Bool) : RegionU.Up (RC w B i g) := fun W W' ⟨h1, h2⟩ hr => ⟨h1.below hr, h2.trans (hr.mono h2.size)⟩
theorem wrap_len {k L : Nat} (h : k < L) (hm : L ≤ maxLen) : wrap64 ((k : Int) + 1) = (k : Int) + 1 := by unfold maxLen at hm; unfold wrap64; omega
theorem wrap_succ {k : Nat} (h : k < 4611686018427387904) : wrap64 ((k : Int) + 1) = (k : Int) + 1 := by unfold wrap64; omega
set_option maxRecDepth 100000 in
theorem refLeast_at (f : Nat → Bool) (d : Nat) (hd : d < 256) (h0 : ∀ i, i < d → f i = false) (h1 : f d = true) (w : World) :
    Calls Try.prog 28 #[SV f] w fun e w' => e = .returned (.int .i64 d) ∧ Below w.heap.size w w' := by
  obtain ⟨B, hB⟩ : ∃ B, B = w.heap.size := ⟨_, rfl⟩
  have HB := Lib.hid hB; clear hB
  have H0 := Lib.hid h0; have H1 := Lib.hid h1; have HD := Lib.hid hd
  clear h0 h1 hd
  go_enter Try.func28, Try.ntmps28
  go_wp2_with fail
  rw [← HB.out]
  go_loopw [3] (fun i wr => ∃ k : Nat, k ≤ d ∧ i = .int .i64 k ∧ HoldsS wr B f ∧ Below w.heap.size w wr) (fun i _ => 256 - (intOf i).toNat)
  case atStart =>
    refine ⟨0, Nat.zero_le _, rfl, ?_, (Below.refl _ _).alloc (Nat.le_refl _) _⟩
    rw [HB.out]; exact HoldsS.new _ _ _
  case round =>
    obtain ⟨k, hk, rfl, hF, hb⟩ := hrel
    have HK := Lib.hid hk
    have HKD := Lib.hid (show k < 256 by have := HD.out; omega)
    have t0 : decide ((k : Int) < 256) = true := by have := HKD.out; simp; omega
    have c0 := hF.c0; have c1 := hF.c1; have c2 := hF.c2; have c3 := hF.c3
    have HF := Lib.hid hF; have HBB := Lib.hid hb
    clear hk hF hb
    go_wp2_with fail
    refine (refHas_any _ _ HKD.out _).mono ?_
    rintro e w1 ⟨rfl, hb1⟩
    have hF1 := HF.out.below hb1
    have hb2 := HBB.out.trans (hb1.mono HBB.out.size)
    clear hb1 c0 c1 c2 c3
    have HF1 := Lib.hid hF1; have HB2 := Lib.hid hb2
    clear hF1 hb2
    by_cases e : k = d
    · subst e
      rw [H1.out]
      go_wp2_with fail
      go_ret
      exact ⟨rfl, HB2.out⟩
    · have HE := Lib.hid e
      have hw := wrap_succ (k := k) (by have := HKD.out; omega)
      rw [H0.out k (by have := HK.out; omega)]
      clear e
      go_wp2_with fail
      rw [hw]
      refine ⟨⟨k + 1, by have := HK.out; have := HE.out; omega, rfl, HF1.out, HB2.out⟩, by have := HKD.out; simp [intOf]; omega⟩

set_option maxRecDepth 100000 in
theorem alike_any {w : World} {v : Value} {fs : List (Nat → Bool)} (h : SSl w v fs) {a b : Nat} (ha : a < 256) (hb : b < 256) :
    Calls Try.prog 27 #[v, .int .i64 a, .int .i64 b] w fun e w' => e = .returned (.bool (alike fs a b)) ∧ Below w.heap.size w w' := by
  obtain ⟨ad, cap, rfl, h1, h2, hs⟩ := h.shape
  obtain ⟨L, hL⟩ : ∃ L, L = fs.length := ⟨_, rfl⟩
  rw [← hL]
  have HL := Lib.hid hL; have HS := Lib.hid hs
  have HM := Lib.hid (show L ≤ maxLen by omega)
  have HA := Lib.hid ha; have HB := Lib.hid hb
  clear hL hs h h1 h2 ha hb
  go_enter Try.func27, Try.ntmps27
  go_wp2_with fail
  go_loopw [7] (fun i wr => ∃ k : Nat, k ≤ L ∧ i = .int .i64 k ∧ Hid (alike (fs.take k) a b = true) ∧ Below w.heap.size w wr) (fun i _ => L - (intOf i).toNat)
  case atStart => exact ⟨0, by omega, rfl, Lib.hid rfl, Below.refl _ _⟩
  case round =>
    obtain ⟨k, hk, rfl, HT, hb⟩ := hrel
    by_cases hlt : k < L
    · have hkl : k < fs.length := by rw [← HL.out]; exact hlt
      obtain ⟨B, o, rfl, hso⟩ : ∃ B o, ad = some ⟨B, o, none⟩ ∧ SetsO wr B o fs := by
        rcases HS.out with rfl | ⟨B, o, e, hso⟩
        · simp at hkl
        · exact ⟨B, o, e, fun k hk j hj => by have hc := hso k hk j hj; rw [hb.cell (World.block_lt_of_cell? _ _ hc)]; exact hc⟩
      have hsd : SetsO wr.drew B o fs := hso
      obtain ⟨c0, c1, c2, c3⟩ := hsd.at hkl
      have HG := Lib.hid (show alike (fs.take (k + 1)) a b = (fs[k] a == fs[k] b) by
        rw [List.take_succ_eq_append_getElem hkl, alike_app, HT.out]; simp [alike])
      obtain ⟨g, hg⟩ : ∃ g, g = fs[k] := ⟨_, rfl⟩
      rw [← hg] at c0 c1 c2 c3 HG
      have t0 : decide ((k : Int) < (L : Int)) = true := by simp; omega
      have t1 : ¬ ((L : Int) ≤ (k : Int)) := by omega
      have t2 : (0 : Int) ≤ (k : Int) := by omega
      have t3 : (k : Int) < (L : Int) := by omega
      have HLT := Lib.hid hlt; have HBB := Lib.hid hb
      have HBk := Lib.hid (World.block_lt_of_cell? _ _ c0)
      have HR1 := Lib.hid (fun W => refHas_any g a HA.out W); have HR2 := Lib.hid (fun W => refHas_any g b HB.out W)
      have hall : fs.all (fun f => f a == f b) = alike fs a b := rfl
      have HNO := Lib.hid (show (g a == g b) = false → alike fs a b = false by
        intro h0
        rw [hg] at h0
        unfold alike
        rw [List.all_eq_false]
        exact ⟨fs[k], List.getElem_mem _, by rw [h0]; simp⟩)
      clear hlt hk hso hkl hg hb hall hsd
      go_wp2_with fail
      have hCd : RC w B (o + k * 4) g wr.drew := ⟨⟨c0, c1, c2, c3⟩, HBB.out.drew⟩
      have HU := Lib.hid (RC.up w B (o + k * 4) g)
      clear c0 c1 c2 c3
      refine wp_region_U (C := RC w B (o + k * 4) g) (by kernel_rfl) HU.out hCd ?_
      refine wpU_taken (i := 0) rfl (by kernel_rfl) (by kernel_rfl) (by kernel_rfl) HU.out ?_
      apply Exists.intro
      refine ⟨Or.inl ⟨rfl, fun W hW => ?hy⟩, ?_⟩
      case hy =>
        obtain ⟨hF, hB⟩ := hW
        go_simp
        exact RegionU.does_value rfl
      simp only [Act.put, List.setIfInBounds_toArray, List.set]
      refine wpU_taken (i := 1) rfl (by kernel_rfl) (by kernel_rfl) (by kernel_rfl) HU.out ?_
      apply Exists.intro
      refine ⟨Or.inl ⟨rfl, fun W hW => ?hy⟩, ?_⟩
      case hy =>
        obtain ⟨hF, hB⟩ := hW
        go_simp
        exact RegionU.does_value rfl
      simp only [Act.put, List.setIfInBounds_toArray, List.set]
      refine wpU_taken (i := 2) rfl (by kernel_rfl) (by kernel_rfl) (by kernel_rfl) HU.out ?_
      apply Exists.intro
      refine ⟨Or.inl ⟨rfl, fun W hW => ?hy⟩, ?_⟩
      case hy =>
        obtain ⟨hF, hB⟩ := hW
        go_simp
        exact RegionU.does_value rfl
      simp only [Act.put, List.setIfInBounds_toArray, List.set]
      refine wpU_taken (i := 3) rfl (by kernel_rfl) (by kernel_rfl) (by kernel_rfl) HU.out ?_
      apply Exists.intro
      refine ⟨Or.inl ⟨rfl, fun W hW => ?hy⟩, ?_⟩
      case hy =>
        obtain ⟨hF, hB⟩ := hW
        obtain ⟨c0, c1, c2, c3⟩ := hF
        go_simp
        exact RegionU.does_value rfl
      simp only [Act.put, List.setIfInBounds_toArray, List.set]
      refine wpU_taken (i := 4) rfl (by kernel_rfl) (by kernel_rfl) (by kernel_rfl) HU.out ?_
      apply Exists.intro
      refine ⟨Or.inl ⟨rfl, fun W hW => ?hy⟩, ?_⟩
      case hy =>
        obtain ⟨hF, hB⟩ := hW
        go_simp
        exact RegionU.does_value rfl
      simp only [Act.put, List.setIfInBounds_toArray, List.set]
      refine wpU_taken (i := 5) rfl (by kernel_rfl) (by kernel_rfl) (by kernel_rfl) HU.out ?_
      apply Exists.intro
      refine ⟨Or.inl ⟨rfl, fun W hW => ?hy⟩, ?_⟩
      case hy =>
        obtain ⟨hF, hB⟩ := hW
        go_simp
        exact RegionU.does_call (HR1.out _)
      simp only [Act.put, List.setIfInBounds_toArray, List.set]
      refine wpU_taken (i := 6) rfl (by kernel_rfl) (by kernel_rfl) (by kernel_rfl) HU.out ?_
      apply Exists.intro
      refine ⟨Or.inl ⟨rfl, fun W hW => ?hy⟩, ?_⟩
      case hy =>
        obtain ⟨hF, hB⟩ := hW
        go_simp
        exact RegionU.does_value rfl
      simp only [Act.put, List.setIfInBounds_toArray, List.set]
      refine wpU_taken (i := 7) rfl (by kernel_rfl) (by kernel_rfl) (by kernel_rfl) HU.out ?_
      apply Exists.intro
      refine ⟨Or.inl ⟨rfl, fun W hW => ?hy⟩, ?_⟩
      case hy =>
        obtain ⟨hF, hB⟩ := hW
        go_simp
        exact RegionU.does_value rfl
      simp only [Act.put, List.setIfInBounds_toArray, List.set]
      refine wpU_taken (i := 8) rfl (by kernel_rfl) (by kernel_rfl) (by kernel_rfl) HU.out ?_
      apply Exists.intro
      refine ⟨Or.inl ⟨rfl, fun W hW => ?hy⟩, ?_⟩
      case hy =>
        obtain ⟨hF, hB⟩ := hW
        go_simp
        exact RegionU.does_value rfl
      simp only [Act.put, List.setIfInBounds_toArray, List.set]
      refine wpU_taken (i := 9) rfl (by kernel_rfl) (by kernel_rfl) (by kernel_rfl) HU.out ?_
      apply Exists.intro
      refine ⟨Or.inl ⟨rfl, fun W hW => ?hy⟩, ?_⟩
      case hy =>
        obtain ⟨hF, hB⟩ := hW
        obtain ⟨c0, c1, c2, c3⟩ := hF
        go_simp
        exact RegionU.does_value rfl
      simp only [Act.put, List.setIfInBounds_toArray, List.set]
      refine wpU_taken (i := 10) rfl (by kernel_rfl) (by kernel_rfl) (by kernel_rfl) HU.out ?_
      apply Exists.intro
      refine ⟨Or.inl ⟨rfl, fun W hW => ?hy⟩, ?_⟩
      case hy =>
        obtain ⟨hF, hB⟩ := hW
        go_simp
        exact RegionU.does_value rfl
      simp only [Act.put, List.setIfInBounds_toArray, List.set]
      refine wpU_taken (i := 11) rfl (by kernel_rfl) (by kernel_rfl) (by kernel_rfl) HU.out ?_
      apply Exists.intro
      refine ⟨Or.inl ⟨rfl, fun W hW => ?hy⟩, ?_⟩
      case hy =>
        obtain ⟨hF, hB⟩ := hW
        go_simp
        exact RegionU.does_call (HR2.out _)
      simp only [Act.put, List.setIfInBounds_toArray, List.set]
      refine wpU_taken (i := 12) rfl (by kernel_rfl) (by kernel_rfl) (by kernel_rfl) HU.out ?_
      apply Exists.intro
      refine ⟨Or.inl ⟨rfl, fun W hW => ?hy⟩, ?_⟩
      case hy =>
        obtain ⟨hF, hB⟩ := hW
        go_simp
        exact RegionU.does_value rfl
      simp only [Act.put, List.setIfInBounds_toArray, List.set]
      refine wpU_done (by kernel_rfl) ?_
      intro W3 hW3
      have hw := wrap_len HLT.out HM.out
      cases hgg : (g a == g b)
      · have HF := Lib.hid (HNO.out hgg)
        clear hgg
        go_wp2_with fail
        go_ret
        exact ⟨by rw [HF.out]; rfl, hW3.2⟩
      · have HF := Lib.hid (HG.out.trans hgg)
        clear hgg
        go_wp2_with fail
        rw [hw]
        exact ⟨⟨k + 1, HLT.out, rfl, HF, hW3.2⟩, by have := HLT.out; simp [intOf]; omega⟩
    · have hkL : k = L := by omega
      have t0 : decide ((k : Int) < (L : Int)) = false := by simp; omega
      have t1 : (L : Int) ≤ (k : Int) := by omega
      have t2 : decide (k < L) = false := by simp; omega
      have HF := Lib.hid (show alike fs a b = true by
        have := HT.out
        rw [List.take_of_length_le (by rw [← HL.out]; omega)] at this; exact this)
      have HBB := Lib.hid hb
      clear hlt hk hb hkL
      go_wp2_with fail
      go_ret
      exact ⟨by rw [HF.out]; rfl, HBB.out⟩
end Go.Proofs.Ytciggkebbhineaa.PartW
