/- Walk of SetsLaws. -/
import Derived.Test.YtgmoaglanjfdmaaDoorJoined
import Derived.Test.YtgmoaglanjfdmaaDoorListed
import Derived.Test.YtgmoaglanjfdmaaDoorLawsMath
import Derived.StillTailTactics
namespace Go.Proofs.YtgmoaglanjfdmaaDoor.SetW
set_option linter.unusedVariables false
open Go.RowKit Go.Proofs.YtgmoaglanjfdmaaDoor.SetM
open Go.Proofs.YtgmoaglanjfdmaaDoor.RegionU (Up wpU_taken wpU_one wpU_two wpU_done wp_region_U)

theorem owns_put4 {W : World} {S : Nat} {e : TypeId} {size : Nat} {v : Value} {n : Nat} {xs : List Value} (h : W.ownsRow (S + 1) e size v n xs) (g : Nat → Bool) : (put4 W S g).ownsRow (S + 1) e size v n xs :=
  ownsRow_setCell_below (ownsRow_setCell_below (ownsRow_setCell_below (ownsRow_setCell_below h (a := ⟨S, 0, none⟩) (Nat.lt_succ_self _) _) (a := ⟨S, 1, none⟩) (Nat.lt_succ_self _) _) (a := ⟨S, 2, none⟩) (Nat.lt_succ_self _) _) (a := ⟨S, 3, none⟩) (Nat.lt_succ_self _) _
theorem HoldsS.congr {W : World} {B : Nat} {f g : Nat → Bool} (h : HoldsS W B f) (e : SV f = SV g) : HoldsS W B g := by
  simp only [SV, Value.agg.injEq, Array.mk.injEq, List.cons.injEq, Value.int.injEq, true_and, and_true] at e
  obtain ⟨e0, e1, e2, e3⟩ := e
  exact ⟨by rw [← e0]; exact h.c0, by rw [← e1]; exact h.c1, by rw [← e2]; exact h.c2, by rw [← e3]; exact h.c3, h.z0, h.z1, h.z2, h.z3⟩
/-- What the last region knows of memory. -/
def Two2 (w : World) (A S : Nat) (f : Nat → Bool) (W : World) : Prop := (HoldsS W A f ∧ HoldsS W S f) ∧ Env W ∧ Below w.heap.size w W
theorem two2_up (w : World) (A S : Nat) (f : Nat → Bool) : Up (Two2 w A S f) := fun W W' ⟨⟨h1, h2⟩, h3, h4⟩ hr => ⟨⟨h1.below hr, h2.below hr⟩, h3.below hr, h4.trans (hr.mono h4.size)⟩
theorem does_bytesP {w W : World} {f : Nat → Bool} (hE : Env W) (hn : w.heap.size ≤ W.heap.size) : RegionU.does Tryd.prog W (IsBytes w.heap.size f) (.ok (.enter 21 #[SV f]) W) :=
  ⟨rfl, (Bytes_any f W hE.cells).mono fun e W' ⟨u, he, ho, hb⟩ => ⟨u, he, owns_mono ho hn, hb⟩⟩
theorem of_bytes (f : Nat → Bool) (W : World) (u : Value) (b : Nat) (h : IsBytes b f u W) : Calls Tryd.prog 7 #[u] W fun e w' => e = .returned (SV f) ∧ Below W.heap.size W w' := by
  have h1 := Of_any u (textOf (elems f)) W (bsl_of_owns h (fun x hx => upTo_lt (f := f) (k := 256) hx))
  rw [text_set] at h1
  exact h1

set_option maxRecDepth 100000 in
set_option maxHeartbeats 8000000 in
theorem SetsLaws_any (f g : Nat → Bool) (w : World) (he : Env w) :
    Calls Tryd.prog 6 #[SV f, SV g] w fun e w' => e = .returned (.bool true) ∧ Below w.heap.size w w' := by
  have HE := Lib.hid he
  clear he
  have hq := eqSet
  have HUN := Lib.hid (fun W b h => Union2_any f g W b h)
  have hn1 := fun W => Not_any (unionF f g) W
  rw [SV_congr (f := notF (unionF f g)) (g := meetF (notF f) (notF g)) (fun i _ => show (!(f i || g i)) = (!f i && !g i) by cases f i <;> cases g i <;> rfl)] at hn1
  have HN1 := Lib.hid hn1
  have HNF := Lib.hid (fun W => Not_any f W)
  have HNG := Lib.hid (fun W => Not_any g W)
  have HM1 := Lib.hid (fun W => Meet_any (notF f) (notF g) W)
  have HLE := Lib.hid (fun W => Less_any f g W)
  have hm2 : ∀ W, Calls Tryd.prog 15 #[SV f, SV (notF g)] W fun e w' => e = .returned (SV (lessF f g)) ∧ Below W.heap.size W w' := fun W => Meet_any f (notF g) W
  have HM2 := Lib.hid hm2
  have hnn := fun W => Not_any (notF f) W
  rw [SV_congr (f := notF (notF f)) (g := f) (fun i _ => show (!(!f i)) = f i by cases f i <;> rfl)] at hnn
  have HNN := Lib.hid hnn
  have HMT := Lib.hid (fun W => Meet_any f g W)
  have k1 := count_laws f g 256
  have b1 := upTo_length (unionF f g) 256
  have b2 := upTo_length (meetF f g) 256
  have b3 := upTo_length f 256
  have b4 := upTo_length g 256
  have hc1 : ∀ W, Calls Tryd.prog 25 #[SV (unionF f g)] W fun e w' => e = .returned (.int .i64 (upTo (unionF f g) 256).length) ∧ Below W.heap.size W w' := fun W => Count_any (unionF f g) W
  have hc2 : ∀ W, Calls Tryd.prog 25 #[SV (meetF f g)] W fun e w' => e = .returned (.int .i64 (upTo (meetF f g) 256).length) ∧ Below W.heap.size W w' := fun W => Count_any (meetF f g) W
  have hc3 : ∀ W, Calls Tryd.prog 25 #[SV f] W fun e w' => e = .returned (.int .i64 (upTo f 256).length) ∧ Below W.heap.size W w' := fun W => Count_any f W
  have hc4 : ∀ W, Calls Tryd.prog 25 #[SV g] W fun e w' => e = .returned (.int .i64 (upTo g 256).length) ∧ Below W.heap.size W w' := fun W => Count_any g W
  generalize (upTo (unionF f g) 256).length = n1 at *
  generalize (upTo (meetF f g) 256).length = n2 at *
  generalize (upTo f 256).length = n3 at *
  generalize (upTo g 256).length = n4 at *
  have HC1 := Lib.hid hc1; have HC2 := Lib.hid hc2; have HC3 := Lib.hid hc3; have HC4 := Lib.hid hc4
  have w1 : IntKind.i64.wrap ((n1 : Int) + (n2 : Int)) = ((n1 + n2 : Nat) : Int) := by rw [IntKind.wrap_i64]; omega
  have w2 : IntKind.i64.wrap ((n3 : Int) + (n4 : Int)) = ((n1 + n2 : Nat) : Int) := by rw [IntKind.wrap_i64]; omega
  generalize n1 + n2 = t at *
  clear hn1 hm2 hnn k1 b1 b2 b3 b4 hc1 hc2 hc3 hc4
  have HSP := Lib.hid (fun W h => Spans_any f W h)
  have HBY := Lib.hid (fun W h => Bytes_any f W h)
  have HKN := Lib.hid (fun W h => knows_any W h)
  obtain ⟨A, hA⟩ : ∃ A, A = w.heap.size := ⟨_, rfl⟩
  have HA := Lib.hid hA; clear hA
  go_enter Tryd.func6, Tryd.ntmps6
  go_wp2_with fail
  have hb0 : Below w.heap.size w ((w.alloc (.cells #[.int .u64 (wd f 0), .int .u64 (wd f 1), .int .u64 (wd f 2), .int .u64 (wd f 3)] 25)).alloc (.cells #[.int .u64 (wd g 0), .int .u64 (wd g 1), .int .u64 (wd g 2), .int .u64 (wd g 3)] 25)) := ((Below.refl _ _).alloc (Nat.le_refl _) _).alloc (by simp) _
  have hF := (HoldsS.new w f 25).alloc (.cells #[.int .u64 (wd g 0), .int .u64 (wd g 1), .int .u64 (wd g 2), .int .u64 (wd g 3)] 25)
  have hG := HoldsS.new (w.alloc (.cells #[.int .u64 (wd f 0), .int .u64 (wd f 1), .int .u64 (wd f 2), .int .u64 (wd f 3)] 25)) g 25
  simp only [World.size_alloc] at hG
  generalize ((w.alloc (.cells #[.int .u64 (wd f 0), .int .u64 (wd f 1), .int .u64 (wd f 2), .int .u64 (wd f 3)] 25)).alloc (.cells #[.int .u64 (wd g 0), .int .u64 (wd g 1), .int .u64 (wd g 2), .int .u64 (wd g 3)] 25)) = W0 at *
  rw [← HA.out] at hF hG ⊢
  have hCd : Two w A f g W0.drew := ⟨⟨hF.drew, hG.drew⟩, (HE.out.below hb0).below (Below.refl _ _).drew, hb0.drew⟩
  have HU := Lib.hid (two_up w A f g)
  clear hb0 hF hG
  refine wp_region_U (C := Two w A f g) (by kernel_rfl) HU.out hCd ?_
  refine wpU_taken (i := 0) rfl (by kernel_rfl) (by kernel_rfl) (by kernel_rfl) HU.out ?_
  apply Exists.intro
  refine ⟨Or.inl ⟨rfl, fun W hW => ?hy⟩, ?_⟩
  case hy =>
    obtain ⟨⟨hF, hG⟩, hE, hB⟩ := hW
    have c0 := hF.c0; have c1 := hF.c1; have c2 := hF.c2; have c3 := hF.c3; have e0 := hG.c0; have e1 := hG.c1; have e2 := hG.c2; have e3 := hG.c3
    go_simp
    exact RegionU.does_value rfl
  simp only [Act.put, List.setIfInBounds_toArray, List.set]
  refine wpU_taken (i := 1) rfl (by kernel_rfl) (by kernel_rfl) (by kernel_rfl) HU.out ?_
  apply Exists.intro
  refine ⟨Or.inl ⟨rfl, fun W hW => ?hy⟩, ?_⟩
  case hy =>
    obtain ⟨⟨hF, hG⟩, hE, hB⟩ := hW
    have c0 := hF.c0; have c1 := hF.c1; have c2 := hF.c2; have c3 := hF.c3; have e0 := hG.c0; have e1 := hG.c1; have e2 := hG.c2; have e3 := hG.c3
    go_simp
    exact RegionU.does_value rfl
  simp only [Act.put, List.setIfInBounds_toArray, List.set]
  refine wpU_taken (i := 5) rfl (by kernel_rfl) (by kernel_rfl) (by kernel_rfl) HU.out ?_
  apply Exists.intro
  refine ⟨Or.inl ⟨rfl, fun W hW => ?hy⟩, ?_⟩
  case hy =>
    obtain ⟨⟨hF, hG⟩, hE, hB⟩ := hW
    have c0 := hF.c0; have c1 := hF.c1; have c2 := hF.c2; have c3 := hF.c3; have e0 := hG.c0; have e1 := hG.c1; have e2 := hG.c2; have e3 := hG.c3
    go_simp
    exact RegionU.does_value rfl
  simp only [Act.put, List.setIfInBounds_toArray, List.set]
  refine wpU_taken (i := 7) rfl (by kernel_rfl) (by kernel_rfl) (by kernel_rfl) HU.out ?_
  apply Exists.intro
  refine ⟨Or.inl ⟨rfl, fun W hW => ?hy⟩, ?_⟩
  case hy =>
    obtain ⟨⟨hF, hG⟩, hE, hB⟩ := hW
    have c0 := hF.c0; have c1 := hF.c1; have c2 := hF.c2; have c3 := hF.c3; have e0 := hG.c0; have e1 := hG.c1; have e2 := hG.c2; have e3 := hG.c3
    go_simp
    exact RegionU.does_value rfl
  simp only [Act.put, List.setIfInBounds_toArray, List.set]
  refine wpU_one (i := 2) (by kernel_rfl) rfl rfl (IsSets [f, g]) (isSets_up _) (fun W hW => ?hy) ?_
  case hy =>
    obtain ⟨⟨hF, hG⟩, hE, hB⟩ := hW
    go_simp
    exact RegionU.does_made ⟨_, rfl, SetsAt.new2 _ _ _ _⟩ ((Below.refl _ _).alloc (Nat.le_refl _) _)
  intro u
  simp only [Act.put, List.setIfInBounds_toArray, List.set]
  refine wpU_taken (i := 3) rfl (by kernel_rfl) (by kernel_rfl) (by kernel_rfl) (HU.out.and (isSets_up _ _)) ?_
  apply Exists.intro
  refine ⟨Or.inl ⟨rfl, fun W hW => ?hy⟩, ?_⟩
  case hy =>
    obtain ⟨⟨⟨hF, hG⟩, hE, hB⟩, b, hu, hs⟩ := hW
    go_simp
    exact RegionU.does_call (HUN.out W b hs)
  simp only [Act.put, List.setIfInBounds_toArray, List.set]
  refine wpU_taken (i := 4) rfl (by kernel_rfl) (by kernel_rfl) (by kernel_rfl) (HU.out.and (isSets_up _ _)) ?_
  apply Exists.intro
  refine ⟨Or.inl ⟨rfl, fun W hW => ?hy⟩, ?_⟩
  case hy =>
    obtain ⟨⟨⟨hF, hG⟩, hE, hB⟩, b, hu, hs⟩ := hW
    go_simp
    exact RegionU.does_call (HN1.out W)
  simp only [Act.put, List.setIfInBounds_toArray, List.set]
  refine wpU_taken (i := 6) rfl (by kernel_rfl) (by kernel_rfl) (by kernel_rfl) (HU.out.and (isSets_up _ _)) ?_
  apply Exists.intro
  refine ⟨Or.inl ⟨rfl, fun W hW => ?hy⟩, ?_⟩
  case hy =>
    obtain ⟨⟨⟨hF, hG⟩, hE, hB⟩, b, hu, hs⟩ := hW
    go_simp
    exact RegionU.does_call (HNF.out W)
  simp only [Act.put, List.setIfInBounds_toArray, List.set]
  refine wpU_taken (i := 8) rfl (by kernel_rfl) (by kernel_rfl) (by kernel_rfl) (HU.out.and (isSets_up _ _)) ?_
  apply Exists.intro
  refine ⟨Or.inl ⟨rfl, fun W hW => ?hy⟩, ?_⟩
  case hy =>
    obtain ⟨⟨⟨hF, hG⟩, hE, hB⟩, b, hu, hs⟩ := hW
    go_simp
    exact RegionU.does_call (HNG.out W)
  simp only [Act.put, List.setIfInBounds_toArray, List.set]
  refine wpU_taken (i := 9) rfl (by kernel_rfl) (by kernel_rfl) (by kernel_rfl) (HU.out.and (isSets_up _ _)) ?_
  apply Exists.intro
  refine ⟨Or.inl ⟨rfl, fun W hW => ?hy⟩, ?_⟩
  case hy =>
    obtain ⟨⟨⟨hF, hG⟩, hE, hB⟩, b, hu, hs⟩ := hW
    go_simp
    exact RegionU.does_call (HM1.out W)
  simp only [Act.put, List.setIfInBounds_toArray, List.set]
  refine wpU_taken (i := 10) rfl (by kernel_rfl) (by kernel_rfl) (by kernel_rfl) (HU.out.and (isSets_up _ _)) ?_
  apply Exists.intro
  refine ⟨Or.inl ⟨rfl, fun W hW => ?hy⟩, ?_⟩
  case hy =>
    obtain ⟨⟨⟨hF, hG⟩, hE, hB⟩, b, hu, hs⟩ := hW
    go_simp
    try simp only [beq_self_eq_true, bne_self_eq_false, Bool.not_true, Bool.not_false]
    exact RegionU.does_value rfl
  simp only [Act.put, List.setIfInBounds_toArray, List.set]
  refine wpU_taken (i := 11) rfl (by kernel_rfl) (by kernel_rfl) (by kernel_rfl) (HU.out.and (isSets_up _ _)) ?_
  apply Exists.intro
  refine ⟨Or.inl ⟨rfl, fun W hW => ?hy⟩, ?_⟩
  case hy =>
    obtain ⟨⟨⟨hF, hG⟩, hE, hB⟩, b, hu, hs⟩ := hW
    go_simp
    exact RegionU.does_value rfl
  simp only [Act.put, List.setIfInBounds_toArray, List.set]
  refine wpU_taken (i := 12) rfl (by kernel_rfl) (by kernel_rfl) (by kernel_rfl) (HU.out.and (isSets_up _ _)) ?_
  apply Exists.intro
  refine ⟨Or.inl ⟨rfl, fun W hW => ?hy⟩, ?_⟩
  case hy =>
    obtain ⟨⟨⟨hF, hG⟩, hE, hB⟩, b, hu, hs⟩ := hW
    have c0 := hF.c0; have c1 := hF.c1; have c2 := hF.c2; have c3 := hF.c3; have e0 := hG.c0; have e1 := hG.c1; have e2 := hG.c2; have e3 := hG.c3
    go_simp
    exact RegionU.does_value rfl
  simp only [Act.put, List.setIfInBounds_toArray, List.set]
  refine wpU_taken (i := 13) rfl (by kernel_rfl) (by kernel_rfl) (by kernel_rfl) (HU.out.and (isSets_up _ _)) ?_
  apply Exists.intro
  refine ⟨Or.inl ⟨rfl, fun W hW => ?hy⟩, ?_⟩
  case hy =>
    obtain ⟨⟨⟨hF, hG⟩, hE, hB⟩, b, hu, hs⟩ := hW
    have c0 := hF.c0; have c1 := hF.c1; have c2 := hF.c2; have c3 := hF.c3; have e0 := hG.c0; have e1 := hG.c1; have e2 := hG.c2; have e3 := hG.c3
    go_simp
    exact RegionU.does_value rfl
  simp only [Act.put, List.setIfInBounds_toArray, List.set]
  refine wpU_taken (i := 14) rfl (by kernel_rfl) (by kernel_rfl) (by kernel_rfl) (HU.out.and (isSets_up _ _)) ?_
  apply Exists.intro
  refine ⟨Or.inl ⟨rfl, fun W hW => ?hy⟩, ?_⟩
  case hy =>
    obtain ⟨⟨⟨hF, hG⟩, hE, hB⟩, b, hu, hs⟩ := hW
    go_simp
    exact RegionU.does_call (HLE.out W)
  simp only [Act.put, List.setIfInBounds_toArray, List.set]
  refine wpU_taken (i := 15) rfl (by kernel_rfl) (by kernel_rfl) (by kernel_rfl) (HU.out.and (isSets_up _ _)) ?_
  apply Exists.intro
  refine ⟨Or.inl ⟨rfl, fun W hW => ?hy⟩, ?_⟩
  case hy =>
    obtain ⟨⟨⟨hF, hG⟩, hE, hB⟩, b, hu, hs⟩ := hW
    have c0 := hF.c0; have c1 := hF.c1; have c2 := hF.c2; have c3 := hF.c3; have e0 := hG.c0; have e1 := hG.c1; have e2 := hG.c2; have e3 := hG.c3
    go_simp
    exact RegionU.does_value rfl
  simp only [Act.put, List.setIfInBounds_toArray, List.set]
  refine wpU_taken (i := 16) rfl (by kernel_rfl) (by kernel_rfl) (by kernel_rfl) (HU.out.and (isSets_up _ _)) ?_
  apply Exists.intro
  refine ⟨Or.inl ⟨rfl, fun W hW => ?hy⟩, ?_⟩
  case hy =>
    obtain ⟨⟨⟨hF, hG⟩, hE, hB⟩, b, hu, hs⟩ := hW
    have c0 := hF.c0; have c1 := hF.c1; have c2 := hF.c2; have c3 := hF.c3; have e0 := hG.c0; have e1 := hG.c1; have e2 := hG.c2; have e3 := hG.c3
    go_simp
    exact RegionU.does_value rfl
  simp only [Act.put, List.setIfInBounds_toArray, List.set]
  refine wpU_taken (i := 17) rfl (by kernel_rfl) (by kernel_rfl) (by kernel_rfl) (HU.out.and (isSets_up _ _)) ?_
  apply Exists.intro
  refine ⟨Or.inl ⟨rfl, fun W hW => ?hy⟩, ?_⟩
  case hy =>
    obtain ⟨⟨⟨hF, hG⟩, hE, hB⟩, b, hu, hs⟩ := hW
    go_simp
    exact RegionU.does_call (HNG.out W)
  simp only [Act.put, List.setIfInBounds_toArray, List.set]
  refine wpU_taken (i := 18) rfl (by kernel_rfl) (by kernel_rfl) (by kernel_rfl) (HU.out.and (isSets_up _ _)) ?_
  apply Exists.intro
  refine ⟨Or.inl ⟨rfl, fun W hW => ?hy⟩, ?_⟩
  case hy =>
    obtain ⟨⟨⟨hF, hG⟩, hE, hB⟩, b, hu, hs⟩ := hW
    go_simp
    exact RegionU.does_call (HM2.out W)
  simp only [Act.put, List.setIfInBounds_toArray, List.set]
  refine wpU_taken (i := 19) rfl (by kernel_rfl) (by kernel_rfl) (by kernel_rfl) (HU.out.and (isSets_up _ _)) ?_
  apply Exists.intro
  refine ⟨Or.inl ⟨rfl, fun W hW => ?hy⟩, ?_⟩
  case hy =>
    obtain ⟨⟨⟨hF, hG⟩, hE, hB⟩, b, hu, hs⟩ := hW
    go_simp
    try simp only [beq_self_eq_true, bne_self_eq_false, Bool.not_true, Bool.not_false]
    exact RegionU.does_value rfl
  simp only [Act.put, List.setIfInBounds_toArray, List.set]
  refine wpU_taken (i := 20) rfl (by kernel_rfl) (by kernel_rfl) (by kernel_rfl) (HU.out.and (isSets_up _ _)) ?_
  apply Exists.intro
  refine ⟨Or.inl ⟨rfl, fun W hW => ?hy⟩, ?_⟩
  case hy =>
    obtain ⟨⟨⟨hF, hG⟩, hE, hB⟩, b, hu, hs⟩ := hW
    go_simp
    exact RegionU.does_value rfl
  simp only [Act.put, List.setIfInBounds_toArray, List.set]
  refine wpU_taken (i := 21) rfl (by kernel_rfl) (by kernel_rfl) (by kernel_rfl) (HU.out.and (isSets_up _ _)) ?_
  apply Exists.intro
  refine ⟨Or.inl ⟨rfl, fun W hW => ?hy⟩, ?_⟩
  case hy =>
    obtain ⟨⟨⟨hF, hG⟩, hE, hB⟩, b, hu, hs⟩ := hW
    go_simp
    exact RegionU.does_value rfl
  simp only [Act.put, List.setIfInBounds_toArray, List.set]
  refine wpU_taken (i := 22) rfl (by kernel_rfl) (by kernel_rfl) (by kernel_rfl) (HU.out.and (isSets_up _ _)) ?_
  apply Exists.intro
  refine ⟨Or.inl ⟨rfl, fun W hW => ?hy⟩, ?_⟩
  case hy =>
    obtain ⟨⟨⟨hF, hG⟩, hE, hB⟩, b, hu, hs⟩ := hW
    have c0 := hF.c0; have c1 := hF.c1; have c2 := hF.c2; have c3 := hF.c3; have e0 := hG.c0; have e1 := hG.c1; have e2 := hG.c2; have e3 := hG.c3
    go_simp
    exact RegionU.does_value rfl
  simp only [Act.put, List.setIfInBounds_toArray, List.set]
  refine wpU_taken (i := 23) rfl (by kernel_rfl) (by kernel_rfl) (by kernel_rfl) (HU.out.and (isSets_up _ _)) ?_
  apply Exists.intro
  refine ⟨Or.inl ⟨rfl, fun W hW => ?hy⟩, ?_⟩
  case hy =>
    obtain ⟨⟨⟨hF, hG⟩, hE, hB⟩, b, hu, hs⟩ := hW
    go_simp
    exact RegionU.does_call (HNF.out W)
  simp only [Act.put, List.setIfInBounds_toArray, List.set]
  refine wpU_taken (i := 24) rfl (by kernel_rfl) (by kernel_rfl) (by kernel_rfl) (HU.out.and (isSets_up _ _)) ?_
  apply Exists.intro
  refine ⟨Or.inl ⟨rfl, fun W hW => ?hy⟩, ?_⟩
  case hy =>
    obtain ⟨⟨⟨hF, hG⟩, hE, hB⟩, b, hu, hs⟩ := hW
    go_simp
    exact RegionU.does_call (HNN.out W)
  simp only [Act.put, List.setIfInBounds_toArray, List.set]
  refine wpU_taken (i := 25) rfl (by kernel_rfl) (by kernel_rfl) (by kernel_rfl) (HU.out.and (isSets_up _ _)) ?_
  apply Exists.intro
  refine ⟨Or.inl ⟨rfl, fun W hW => ?hy⟩, ?_⟩
  case hy =>
    obtain ⟨⟨⟨hF, hG⟩, hE, hB⟩, b, hu, hs⟩ := hW
    have c0 := hF.c0; have c1 := hF.c1; have c2 := hF.c2; have c3 := hF.c3; have e0 := hG.c0; have e1 := hG.c1; have e2 := hG.c2; have e3 := hG.c3
    go_simp
    exact RegionU.does_value rfl
  simp only [Act.put, List.setIfInBounds_toArray, List.set]
  refine wpU_taken (i := 26) rfl (by kernel_rfl) (by kernel_rfl) (by kernel_rfl) (HU.out.and (isSets_up _ _)) ?_
  apply Exists.intro
  refine ⟨Or.inl ⟨rfl, fun W hW => ?hy⟩, ?_⟩
  case hy =>
    obtain ⟨⟨⟨hF, hG⟩, hE, hB⟩, b, hu, hs⟩ := hW
    go_simp
    try simp only [beq_self_eq_true, bne_self_eq_false, Bool.not_true, Bool.not_false]
    exact RegionU.does_value rfl
  simp only [Act.put, List.setIfInBounds_toArray, List.set]
  refine wpU_taken (i := 27) rfl (by kernel_rfl) (by kernel_rfl) (by kernel_rfl) (HU.out.and (isSets_up _ _)) ?_
  apply Exists.intro
  refine ⟨Or.inl ⟨rfl, fun W hW => ?hy⟩, ?_⟩
  case hy =>
    obtain ⟨⟨⟨hF, hG⟩, hE, hB⟩, b, hu, hs⟩ := hW
    go_simp
    exact RegionU.does_value rfl
  simp only [Act.put, List.setIfInBounds_toArray, List.set]
  refine wpU_done (by kernel_rfl) ?_
  intro W hW
  obtain ⟨⟨⟨hF, hG⟩, hE, hB⟩, _⟩ := hW
  have hCd : Two w A f g W.drew := ⟨⟨hF.drew, hG.drew⟩, hE.below (Below.refl _ _).drew, hB.drew⟩
  clear hF hG hE hB
  go_wp2_with fail
  refine wp_region_U (C := Two w A f g) (by kernel_rfl) HU.out hCd ?_
  refine wpU_taken (i := 0) rfl (by kernel_rfl) (by kernel_rfl) (by kernel_rfl) HU.out ?_
  apply Exists.intro
  refine ⟨Or.inl ⟨rfl, fun W hW => ?hy⟩, ?_⟩
  case hy =>
    obtain ⟨⟨hF, hG⟩, hE, hB⟩ := hW
    have c0 := hF.c0; have c1 := hF.c1; have c2 := hF.c2; have c3 := hF.c3; have e0 := hG.c0; have e1 := hG.c1; have e2 := hG.c2; have e3 := hG.c3
    go_simp
    exact RegionU.does_value rfl
  simp only [Act.put, List.setIfInBounds_toArray, List.set]
  refine wpU_taken (i := 1) rfl (by kernel_rfl) (by kernel_rfl) (by kernel_rfl) HU.out ?_
  apply Exists.intro
  refine ⟨Or.inl ⟨rfl, fun W hW => ?hy⟩, ?_⟩
  case hy =>
    obtain ⟨⟨hF, hG⟩, hE, hB⟩ := hW
    have c0 := hF.c0; have c1 := hF.c1; have c2 := hF.c2; have c3 := hF.c3; have e0 := hG.c0; have e1 := hG.c1; have e2 := hG.c2; have e3 := hG.c3
    go_simp
    exact RegionU.does_value rfl
  simp only [Act.put, List.setIfInBounds_toArray, List.set]
  refine wpU_taken (i := 5) rfl (by kernel_rfl) (by kernel_rfl) (by kernel_rfl) HU.out ?_
  apply Exists.intro
  refine ⟨Or.inl ⟨rfl, fun W hW => ?hy⟩, ?_⟩
  case hy =>
    obtain ⟨⟨hF, hG⟩, hE, hB⟩ := hW
    have c0 := hF.c0; have c1 := hF.c1; have c2 := hF.c2; have c3 := hF.c3; have e0 := hG.c0; have e1 := hG.c1; have e2 := hG.c2; have e3 := hG.c3
    go_simp
    exact RegionU.does_value rfl
  simp only [Act.put, List.setIfInBounds_toArray, List.set]
  refine wpU_taken (i := 6) rfl (by kernel_rfl) (by kernel_rfl) (by kernel_rfl) HU.out ?_
  apply Exists.intro
  refine ⟨Or.inl ⟨rfl, fun W hW => ?hy⟩, ?_⟩
  case hy =>
    obtain ⟨⟨hF, hG⟩, hE, hB⟩ := hW
    have c0 := hF.c0; have c1 := hF.c1; have c2 := hF.c2; have c3 := hF.c3; have e0 := hG.c0; have e1 := hG.c1; have e2 := hG.c2; have e3 := hG.c3
    go_simp
    exact RegionU.does_value rfl
  simp only [Act.put, List.setIfInBounds_toArray, List.set]
  refine wpU_taken (i := 10) rfl (by kernel_rfl) (by kernel_rfl) (by kernel_rfl) HU.out ?_
  apply Exists.intro
  refine ⟨Or.inl ⟨rfl, fun W hW => ?hy⟩, ?_⟩
  case hy =>
    obtain ⟨⟨hF, hG⟩, hE, hB⟩ := hW
    have c0 := hF.c0; have c1 := hF.c1; have c2 := hF.c2; have c3 := hF.c3; have e0 := hG.c0; have e1 := hG.c1; have e2 := hG.c2; have e3 := hG.c3
    go_simp
    exact RegionU.does_value rfl
  simp only [Act.put, List.setIfInBounds_toArray, List.set]
  refine wpU_taken (i := 12) rfl (by kernel_rfl) (by kernel_rfl) (by kernel_rfl) HU.out ?_
  apply Exists.intro
  refine ⟨Or.inl ⟨rfl, fun W hW => ?hy⟩, ?_⟩
  case hy =>
    obtain ⟨⟨hF, hG⟩, hE, hB⟩ := hW
    have c0 := hF.c0; have c1 := hF.c1; have c2 := hF.c2; have c3 := hF.c3; have e0 := hG.c0; have e1 := hG.c1; have e2 := hG.c2; have e3 := hG.c3
    go_simp
    exact RegionU.does_value rfl
  simp only [Act.put, List.setIfInBounds_toArray, List.set]
  refine wpU_one (i := 2) (by kernel_rfl) rfl rfl (IsSets [f, g]) (isSets_up _) (fun W hW => ?hy) ?_
  case hy =>
    obtain ⟨⟨hF, hG⟩, hE, hB⟩ := hW
    go_simp
    exact RegionU.does_made ⟨_, rfl, SetsAt.new2 _ _ _ _⟩ ((Below.refl _ _).alloc (Nat.le_refl _) _)
  intro u
  simp only [Act.put, List.setIfInBounds_toArray, List.set]
  refine wpU_taken (i := 3) rfl (by kernel_rfl) (by kernel_rfl) (by kernel_rfl) (HU.out.and (isSets_up _ _)) ?_
  apply Exists.intro
  refine ⟨Or.inl ⟨rfl, fun W hW => ?hy⟩, ?_⟩
  case hy =>
    obtain ⟨⟨⟨hF, hG⟩, hE, hB⟩, b, hu, hs⟩ := hW
    go_simp
    exact RegionU.does_call (HUN.out W b hs)
  simp only [Act.put, List.setIfInBounds_toArray, List.set]
  refine wpU_taken (i := 4) rfl (by kernel_rfl) (by kernel_rfl) (by kernel_rfl) (HU.out.and (isSets_up _ _)) ?_
  apply Exists.intro
  refine ⟨Or.inl ⟨rfl, fun W hW => ?hy⟩, ?_⟩
  case hy =>
    obtain ⟨⟨⟨hF, hG⟩, hE, hB⟩, b, hu, hs⟩ := hW
    go_simp
    exact RegionU.does_call (HC1.out W)
  simp only [Act.put, List.setIfInBounds_toArray, List.set]
  refine wpU_taken (i := 7) rfl (by kernel_rfl) (by kernel_rfl) (by kernel_rfl) (HU.out.and (isSets_up _ _)) ?_
  apply Exists.intro
  refine ⟨Or.inl ⟨rfl, fun W hW => ?hy⟩, ?_⟩
  case hy =>
    obtain ⟨⟨⟨hF, hG⟩, hE, hB⟩, b, hu, hs⟩ := hW
    go_simp
    exact RegionU.does_call (HMT.out W)
  simp only [Act.put, List.setIfInBounds_toArray, List.set]
  refine wpU_taken (i := 8) rfl (by kernel_rfl) (by kernel_rfl) (by kernel_rfl) (HU.out.and (isSets_up _ _)) ?_
  apply Exists.intro
  refine ⟨Or.inl ⟨rfl, fun W hW => ?hy⟩, ?_⟩
  case hy =>
    obtain ⟨⟨⟨hF, hG⟩, hE, hB⟩, b, hu, hs⟩ := hW
    go_simp
    exact RegionU.does_call (HC2.out W)
  simp only [Act.put, List.setIfInBounds_toArray, List.set]
  refine wpU_taken (i := 9) rfl (by kernel_rfl) (by kernel_rfl) (by kernel_rfl) (HU.out.and (isSets_up _ _)) ?_
  apply Exists.intro
  refine ⟨Or.inl ⟨rfl, fun W hW => ?hy⟩, ?_⟩
  case hy =>
    obtain ⟨⟨⟨hF, hG⟩, hE, hB⟩, b, hu, hs⟩ := hW
    go_simp
    exact RegionU.does_value rfl
  simp only [Act.put, List.setIfInBounds_toArray, List.set]
  refine wpU_taken (i := 11) rfl (by kernel_rfl) (by kernel_rfl) (by kernel_rfl) (HU.out.and (isSets_up _ _)) ?_
  apply Exists.intro
  refine ⟨Or.inl ⟨rfl, fun W hW => ?hy⟩, ?_⟩
  case hy =>
    obtain ⟨⟨⟨hF, hG⟩, hE, hB⟩, b, hu, hs⟩ := hW
    go_simp
    exact RegionU.does_call (HC3.out W)
  simp only [Act.put, List.setIfInBounds_toArray, List.set]
  refine wpU_taken (i := 13) rfl (by kernel_rfl) (by kernel_rfl) (by kernel_rfl) (HU.out.and (isSets_up _ _)) ?_
  apply Exists.intro
  refine ⟨Or.inl ⟨rfl, fun W hW => ?hy⟩, ?_⟩
  case hy =>
    obtain ⟨⟨⟨hF, hG⟩, hE, hB⟩, b, hu, hs⟩ := hW
    go_simp
    exact RegionU.does_call (HC4.out W)
  simp only [Act.put, List.setIfInBounds_toArray, List.set]
  refine wpU_taken (i := 14) rfl (by kernel_rfl) (by kernel_rfl) (by kernel_rfl) (HU.out.and (isSets_up _ _)) ?_
  apply Exists.intro
  refine ⟨Or.inl ⟨rfl, fun W hW => ?hy⟩, ?_⟩
  case hy =>
    obtain ⟨⟨⟨hF, hG⟩, hE, hB⟩, b, hu, hs⟩ := hW
    go_simp
    exact RegionU.does_value rfl
  simp only [Act.put, List.setIfInBounds_toArray, List.set]
  refine wpU_taken (i := 15) rfl (by kernel_rfl) (by kernel_rfl) (by kernel_rfl) (HU.out.and (isSets_up _ _)) ?_
  apply Exists.intro
  refine ⟨Or.inl ⟨rfl, fun W hW => ?hy⟩, ?_⟩
  case hy =>
    obtain ⟨⟨⟨hF, hG⟩, hE, hB⟩, b, hu, hs⟩ := hW
    go_simp
    try simp only [beq_self_eq_true, bne_self_eq_false, Bool.not_true, Bool.not_false]
    exact RegionU.does_value rfl
  simp only [Act.put, List.setIfInBounds_toArray, List.set]
  refine wpU_done (by kernel_rfl) ?_
  intro W hW
  obtain ⟨⟨⟨hF, hG⟩, hE, hB⟩, _⟩ := hW
  have c0 := hF.c0; have c1 := hF.c1; have c2 := hF.c2; have c3 := hF.c3
  have hlA := hF.lt
  have HF := Lib.hid hF; have HE9 := Lib.hid hE; have HB := Lib.hid hB
  clear hF hG hE hB HU hCd w1 w2
  obtain ⟨S, hS⟩ : ∃ S, S = W.heap.size := ⟨_, rfl⟩
  have HS := Lib.hid hS
  go_wp2_with fail
  have hZ := HoldsS.zero W 25
  have hFz := HF.out.alloc (.cells #[.int .u64 0, .int .u64 0, .int .u64 0, .int .u64 0] 25)
  have hEz := HE9.out.alloc (.cells #[.int .u64 0, .int .u64 0, .int .u64 0, .int .u64 0] 25)
  have hBz := HB.out.alloc HB.out.size (.cells #[.int .u64 0, .int .u64 0, .int .u64 0, .int .u64 0] 25)
  have hsz : (W.alloc (.cells #[.int .u64 0, .int .u64 0, .int .u64 0, .int .u64 0] 25)).heap.size = S + 1 := by rw [World.size_alloc, HS.out]
  have hwS : w.heap.size ≤ S := by rw [HS.out]; exact HB.out.size
  rw [← hS] at hZ hlA ⊢
  generalize W.alloc (.cells #[.int .u64 0, .int .u64 0, .int .u64 0, .int .u64 0] 25) = Wz at *
  clear c0 c1 c2 c3 hS HF HE9 HB HS
  refine (HSP.out _ hEz.cells).mono ?_
  rintro e w3 ⟨v, rfl, ov, hb3⟩
  have hF3 := hFz.below hb3
  have hZ3 := hZ.below hb3
  have hE3 := hEz.below hb3
  have hB3 := hBz.trans (hb3.mono hBz.size)
  rw [hsz] at ov
  have hSA : S ≠ A := by omega
  clear hFz hZ hEz hBz hb3 hsz HSP
  obtain ⟨av, cv, rfl⟩ := slice_form ov
  have hmem : Hid (∀ p ∈ spF f 256, p.1 < 256 ∧ p.2 < 256) := Lib.hid (fun p hp => by have := spF_mem hp; omega)
  have HCV := Lib.hid (cover_all f)
  have hsm := spF_small (f := f)
  generalize hL : spF f 256 = L at *
  generalize hn : L.length = n at *
  have HN := Lib.hid hn
  clear hL hn
  have HF3 := Lib.hid hF3; have HZ3 := Lib.hid hZ3; have HE3 := Lib.hid hE3; have HB3 := Lib.hid hB3; have HO3 := Lib.hid ov
  clear hF3 hZ3 hE3 hB3 ov
  go_wp2_with fail
  go_loopw [7] (fun i wr => ∃ k : Nat, k ≤ n ∧ i = .int .i64 k ∧ HoldsS wr S (coverF (L.take k)) ∧ HoldsS wr A f ∧ Env wr ∧ wr.ownsRow (S + 1) 44 2 (.slice av n cv) n (pairCells L) ∧ Below w.heap.size w wr) (fun i _ => n - (intOf i).toNat)
  case atStart => exact ⟨0, Nat.zero_le _, rfl, by rw [List.take_zero, cover_nil]; exact HZ3.out, HF3.out, HE3.out, HO3.out, HB3.out⟩
  case round =>
    obtain ⟨k, hk, rfl, hS, hF, hE, ol, hB⟩ := hrel
    by_cases hlt : k < n
    · have hkL : k < L.length := by rw [HN.out]; exact hlt
      have HT := Lib.hid (cover_take L k hkL)
      obtain ⟨hp1, hp2⟩ := hmem.out (L[k]'hkL) (List.getElem_mem _)
      have olk := ol
      rw [← HN.out] at olk
      obtain ⟨g1, c1, e1⟩ := pair_form olk (by omega)
      rw [e1] at olk
      simp only [Value.slice.injEq] at e1
      obtain ⟨rfl, _, rfl⟩ := e1
      obtain ⟨x1, x2⟩ := pairs_at olk k hkL
      generalize L[k]'hkL = p at *
      have HP := Lib.hid (fun W => Span_any p.1 p.2 hp1 hp2 W)
      have HU2 := Lib.hid (fun W b h => Union2_any (coverF (L.take k)) (spanF p.1 (p.2 + 1)) W b h)
      have hki : (k : Int) < (n : Int) := by omega
      have hk0 : (0 : Int) ≤ (k : Int) := by omega
      clear olk
      have d0 := hS.drew.c0; have d1 := hS.drew.c1; have d2 := hS.drew.c2; have d3 := hS.drew.c3
      have y1 : wr.drew.cell? ⟨g1, k * 2, none⟩ = some (u8 p.1) := x1
      have y2 : wr.drew.cell? ⟨g1, k * 2 + 1, none⟩ = some (u8 p.2) := x2
      clear x1 x2
      go_wp2_with fail
      have hSd := hS.drew; have hFd := hF.drew; have hEd := hE.below (Below.refl _ _).drew; have hBd := hB.drew; have hOd := owns_below ol (Below.refl _ _).drew
      go_region_with (first
        | (go_at_call 9; refine (HP.out _).mono ?_; rintro e w4 ⟨rfl, hb4⟩; have hS4 := hSd.below hb4; have hF4 := hFd.below hb4; have hE4 := hEd.below hb4; have hB4 := hBd.trans (hb4.mono hBd.size); have hO4 := owns_below hOd hb4; have d0 := hS4.c0; have d1 := hS4.c1; have d2 := hS4.c2; have d3 := hS4.c3)
        | (go_at_call 13; refine (HU2.out _ _ (SetsAt.new2 _ _ _ _)).mono ?_; rintro e w5 ⟨rfl, hb5⟩; have hS5 := (hS4.alloc _).below hb5; have hF5 := (hF4.alloc _).below hb5; have hE5 := (hE4.alloc _).below hb5; have hB5 := (hB4.alloc hB4.size _).trans (hb5.mono (by have := hB4.size; simp; omega)); have hO5 := owns_below (hO4.alloc _) hb5; have d0 := hS5.c0; have d1 := hS5.c1; have d2 := hS5.c2; have d3 := hS5.c3; have z0 := hS5.z0; have z1 := hS5.z1; have z2 := hS5.z2; have z3 := hS5.z3))
      all_goals
        go_wp2_with fail
        refine ⟨⟨k + 1, by omega, by go_num, by rw [HT.out]; exact hS5.store _, hF5.other hSA _, HE.out.below (below_put4 hB5 hwS _), owns_put4 hO5 _, below_put4 hB5 hwS _⟩, by simp [intOf]; omega⟩
    · have hk1 : k = n := by omega
      have hS2 : HoldsS wr S f := by
        rw [hk1, List.take_of_length_le (by rw [HN.out]; exact Nat.le_refl _)] at hS
        exact hS.congr HCV.out
      have hCd : Two2 w A S f wr.drew := ⟨⟨hF.drew, hS2.drew⟩, hE.below (Below.refl _ _).drew, hB.drew⟩
      have HU := Lib.hid (two2_up w A S f)
      have HOF := Lib.hid (fun W u h => of_bytes f W u w.heap.size h)
      have HBW := Lib.hid (fun (W : World) (hE : Env W) (hn : w.heap.size ≤ W.heap.size) => does_bytesP (f := f) (w := w) hE hn)
      clear hS hS2 hF hE ol hB hk1
      go_wp2_with fail
      refine wp_region_U (C := Two2 w A S f) (by kernel_rfl) HU.out hCd ?_
      refine wpU_taken (i := 0) rfl (by kernel_rfl) (by kernel_rfl) (by kernel_rfl) HU.out ?_
      apply Exists.intro
      refine ⟨Or.inl ⟨rfl, fun W hW => ?hy⟩, ?_⟩
      case hy =>
        obtain ⟨⟨hF, hG⟩, hE, hB⟩ := hW
        have c0 := hF.c0; have c1 := hF.c1; have c2 := hF.c2; have c3 := hF.c3; have e0 := hG.c0; have e1 := hG.c1; have e2 := hG.c2; have e3 := hG.c3
        go_simp
        exact RegionU.does_value rfl
      simp only [Act.put, List.setIfInBounds_toArray, List.set]
      refine wpU_taken (i := 1) rfl (by kernel_rfl) (by kernel_rfl) (by kernel_rfl) HU.out ?_
      apply Exists.intro
      refine ⟨Or.inl ⟨rfl, fun W hW => ?hy⟩, ?_⟩
      case hy =>
        obtain ⟨⟨hF, hG⟩, hE, hB⟩ := hW
        have c0 := hF.c0; have c1 := hF.c1; have c2 := hF.c2; have c3 := hF.c3; have e0 := hG.c0; have e1 := hG.c1; have e2 := hG.c2; have e3 := hG.c3
        go_simp
        exact RegionU.does_value rfl
      simp only [Act.put, List.setIfInBounds_toArray, List.set]
      refine wpU_taken (i := 2) rfl (by kernel_rfl) (by kernel_rfl) (by kernel_rfl) HU.out ?_
      apply Exists.intro
      refine ⟨Or.inl ⟨rfl, fun W hW => ?hy⟩, ?_⟩
      case hy =>
        obtain ⟨⟨hF, hG⟩, hE, hB⟩ := hW
        go_simp
        try simp only [beq_self_eq_true, bne_self_eq_false, Bool.not_true, Bool.not_false]
        exact RegionU.does_value rfl
      simp only [Act.put, List.setIfInBounds_toArray, List.set]
      refine wpU_taken (i := 3) rfl (by kernel_rfl) (by kernel_rfl) (by kernel_rfl) HU.out ?_
      apply Exists.intro
      refine ⟨Or.inl ⟨rfl, fun W hW => ?hy⟩, ?_⟩
      case hy =>
        obtain ⟨⟨hF, hG⟩, hE, hB⟩ := hW
        go_simp
        exact RegionU.does_value rfl
      simp only [Act.put, List.setIfInBounds_toArray, List.set]
      refine wpU_taken (i := 4) rfl (by kernel_rfl) (by kernel_rfl) (by kernel_rfl) HU.out ?_
      apply Exists.intro
      refine ⟨Or.inl ⟨rfl, fun W hW => ?hy⟩, ?_⟩
      case hy =>
        obtain ⟨⟨hF, hG⟩, hE, hB⟩ := hW
        have c0 := hF.c0; have c1 := hF.c1; have c2 := hF.c2; have c3 := hF.c3; have e0 := hG.c0; have e1 := hG.c1; have e2 := hG.c2; have e3 := hG.c3
        go_simp
        exact RegionU.does_value rfl
      simp only [Act.put, List.setIfInBounds_toArray, List.set]
      refine wpU_taken (i := 7) rfl (by kernel_rfl) (by kernel_rfl) (by kernel_rfl) HU.out ?_
      apply Exists.intro
      refine ⟨Or.inl ⟨rfl, fun W hW => ?hy⟩, ?_⟩
      case hy =>
        obtain ⟨⟨hF, hG⟩, hE, hB⟩ := hW
        have c0 := hF.c0; have c1 := hF.c1; have c2 := hF.c2; have c3 := hF.c3; have e0 := hG.c0; have e1 := hG.c1; have e2 := hG.c2; have e3 := hG.c3
        go_simp
        exact RegionU.does_value rfl
      simp only [Act.put, List.setIfInBounds_toArray, List.set]
      refine wpU_one (i := 5) (by kernel_rfl) rfl rfl (IsBytes w.heap.size f) (isBytes_up _ _) (fun W hW => ?hy) ?_
      case hy =>
        obtain ⟨⟨hF, hG⟩, hE, hB⟩ := hW
        go_simp
        exact HBW.out _ hE hB.size
      intro u
      simp only [Act.put, List.setIfInBounds_toArray, List.set]
      refine wpU_taken (i := 6) rfl (by kernel_rfl) (by kernel_rfl) (by kernel_rfl) (HU.out.and (isBytes_up _ _ _)) ?_
      apply Exists.intro
      refine ⟨Or.inl ⟨rfl, fun W hW => ?hy⟩, ?_⟩
      case hy =>
        obtain ⟨⟨⟨hF, hG⟩, hE, hB⟩, hu⟩ := hW
        go_simp
        exact RegionU.does_call (HOF.out W _ hu)
      simp only [Act.put, List.setIfInBounds_toArray, List.set]
      refine wpU_taken (i := 8) rfl (by kernel_rfl) (by kernel_rfl) (by kernel_rfl) (HU.out.and (isBytes_up _ _ _)) ?_
      apply Exists.intro
      refine ⟨Or.inl ⟨rfl, fun W hW => ?hy⟩, ?_⟩
      case hy =>
        obtain ⟨⟨⟨hF, hG⟩, hE, hB⟩, hu⟩ := hW
        go_simp
        try simp only [beq_self_eq_true, bne_self_eq_false, Bool.not_true, Bool.not_false]
        exact RegionU.does_value rfl
      simp only [Act.put, List.setIfInBounds_toArray, List.set]
      refine wpU_taken (i := 9) rfl (by kernel_rfl) (by kernel_rfl) (by kernel_rfl) (HU.out.and (isBytes_up _ _ _)) ?_
      apply Exists.intro
      refine ⟨Or.inl ⟨rfl, fun W hW => ?hy⟩, ?_⟩
      case hy =>
        obtain ⟨⟨⟨hF, hG⟩, hE, hB⟩, hu⟩ := hW
        go_simp
        exact RegionU.does_value rfl
      simp only [Act.put, List.setIfInBounds_toArray, List.set]
      refine wpU_taken (i := 10) rfl (by kernel_rfl) (by kernel_rfl) (by kernel_rfl) (HU.out.and (isBytes_up _ _ _)) ?_
      apply Exists.intro
      refine ⟨Or.inl ⟨rfl, fun W hW => ?hy⟩, ?_⟩
      case hy =>
        obtain ⟨⟨⟨hF, hG⟩, hE, hB⟩, hu⟩ := hW
        go_simp
        exact RegionU.does_value rfl
      simp only [Act.put, List.setIfInBounds_toArray, List.set]
      refine wpU_taken (i := 11) rfl (by kernel_rfl) (by kernel_rfl) (by kernel_rfl) (HU.out.and (isBytes_up _ _ _)) ?_
      apply Exists.intro
      refine ⟨Or.inl ⟨rfl, fun W hW => ?hy⟩, ?_⟩
      case hy =>
        obtain ⟨⟨⟨hF, hG⟩, hE, hB⟩, hu⟩ := hW
        go_simp
        exact RegionU.does_call (HKN.out W hE)
      simp only [Act.put, List.setIfInBounds_toArray, List.set]
      refine wpU_taken (i := 12) rfl (by kernel_rfl) (by kernel_rfl) (by kernel_rfl) (HU.out.and (isBytes_up _ _ _)) ?_
      apply Exists.intro
      refine ⟨Or.inl ⟨rfl, fun W hW => ?hy⟩, ?_⟩
      case hy =>
        obtain ⟨⟨⟨hF, hG⟩, hE, hB⟩, hu⟩ := hW
        go_simp
        exact RegionU.does_value rfl
      simp only [Act.put, List.setIfInBounds_toArray, List.set]
      refine wpU_taken (i := 13) rfl (by kernel_rfl) (by kernel_rfl) (by kernel_rfl) (HU.out.and (isBytes_up _ _ _)) ?_
      apply Exists.intro
      refine ⟨Or.inl ⟨rfl, fun W hW => ?hy⟩, ?_⟩
      case hy =>
        obtain ⟨⟨⟨hF, hG⟩, hE, hB⟩, hu⟩ := hW
        go_simp
        exact RegionU.does_value rfl
      simp only [Act.put, List.setIfInBounds_toArray, List.set]
      refine wpU_done (by kernel_rfl) ?_
      intro W hW
      obtain ⟨⟨_, _, hB⟩, _⟩ := hW
      go_wp2_with fail
      go_ret
      exact ⟨rfl, hB⟩
end Go.Proofs.YtgmoaglanjfdmaaDoor.SetW
