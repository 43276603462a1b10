/- Walk of what must come: the chapter's example. -/
import Derived.Test.YtgmoaglanjfdmaaDoorSpansWalk
import Derived.Test.YtgmoaglanjfdmaaDoorSetWalk7
namespace Go.Proofs.YtgmoaglanjfdmaaDoor.SetW
set_option linter.unusedVariables false
open Go.RowKit Go.Proofs.YtgmoaglanjfdmaaDoor.SetM
open Go.Proofs.YtgmoaglanjfdmaaDoor.Base (BSl)

def f0 : Nat → Bool := unionF (spanF 97 100) (ofF [120])
theorem f0_spans : spF f0 256 = [(97, 99), (120, 120)] := by decide +kernel
theorem f0_count : (elems f0).length = 4 := by decide +kernel
theorem empty_least : leastI emptyF = -1 := leastI_none (fun _ _ => rfl)
theorem bsl_one (W : World) (b : Nat) (c : UInt8) (h : W.cell? ⟨b, 0, none⟩ = some (.int .u8 (c.toNat : Int))) : BSl W (.slice (some ⟨b, 0, none⟩) 1 1) ⟨#[c]⟩ :=
  .inr ⟨b, 0, 1, rfl, Nat.le_refl _, by decide, fun i hi => by
    have : i = 0 := by have : (⟨#[c]⟩ : ByteArray).size = 1 := rfl; omega
    subst this
    exact h⟩
theorem Env.alloc {w : World} (h : Env w) (o : Obj) : Env (w.alloc o) := h.below ((Below.refl _ _).alloc (Nat.le_refl _) _)

theorem SetsAt.new2 (w : World) (f g : Nat → Bool) (t : TypeId) : SetsAt (w.alloc (.cells #[.int .u64 (wd f 0), .int .u64 (wd f 1), .int .u64 (wd f 2), .int .u64 (wd f 3), .int .u64 (wd g 0), .int .u64 (wd g 1), .int .u64 (wd g 2), .int .u64 (wd g 3)] t)) w.heap.size [f, g] := fun k hk => by
  rcases k with _ | _ | k
  · refine ⟨?_, ?_, ?_, ?_⟩ <;> (rw [World.cell?_alloc_new]; rfl)
  · refine ⟨?_, ?_, ?_, ?_⟩ <;> (rw [World.cell?_alloc_new]; rfl)
  · simp at hk; omega
theorem SetsAt.new3 (w : World) (f g h : Nat → Bool) (t : TypeId) : SetsAt (w.alloc (.cells #[.int .u64 (wd f 0), .int .u64 (wd f 1), .int .u64 (wd f 2), .int .u64 (wd f 3), .int .u64 (wd g 0), .int .u64 (wd g 1), .int .u64 (wd g 2), .int .u64 (wd g 3), .int .u64 (wd h 0), .int .u64 (wd h 1), .int .u64 (wd h 2), .int .u64 (wd h 3)] t)) w.heap.size [f, g, h] := fun k hk => by
  rcases k with _ | _ | _ | k
  · refine ⟨?_, ?_, ?_, ?_⟩ <;> (rw [World.cell?_alloc_new]; rfl)
  · refine ⟨?_, ?_, ?_, ?_⟩ <;> (rw [World.cell?_alloc_new]; rfl)
  · refine ⟨?_, ?_, ?_, ?_⟩ <;> (rw [World.cell?_alloc_new]; rfl)
  · simp at hk; omega

theorem knows_any (w : World) (he : Env w) : Calls Tryd.prog 12 #[] w fun e w' => e = .returned (.bool true) ∧ Below w.heap.size w w' := by
  have r1 : ∀ W, Calls Tryd.prog 9 #[.int .u8 97, .int .u8 99] W fun e w' => e = .returned (SV (spanF 97 100)) ∧ Below W.heap.size W w' := fun W => Span_any 97 99 (by decide) (by decide) W
  have r2 := fun W b h => Of_any (.slice (some ⟨b, 0, none⟩) 1 1) ⟨#[120]⟩ W (bsl_one W b 120 h)
  have r3 : ∀ W b, SetsAt W b [spanF 97 100, ofF [120]] → Calls Tryd.prog 13 #[.slice (some ⟨b, 0, none⟩) 2 2] W fun e w' => e = .returned (SV f0) ∧ Below W.heap.size W w' := fun W b h => Union2_any (spanF 97 100) (ofF [120]) W b h
  have r4 := fun W h => Spans_any f0 W h
  have r5 : ∀ W, Calls Tryd.prog 25 #[SV f0] W fun e w' => e = .returned (.int .i64 4) ∧ Below W.heap.size W w' := fun W => by
    have h := Count_any f0 W
    rw [f0_count] at h
    exact h
  have r6 : ∀ W, Env W → Calls Tryd.prog 26 #[.agg #[.int .u64 0, .int .u64 0, .int .u64 0, .int .u64 0]] W fun e w' => e = .returned (.int .i64 (-1)) ∧ Below W.heap.size W w' := fun W h => by
    have h := Least_any emptyF W h
    simp only [SV, wd_empty, empty_least] at h
    exact h
  rw [f0_spans] at r4
  have R1 := Lib.hid r1; have R2 := Lib.hid r2; have R3 := Lib.hid r3; have R4 := Lib.hid r4; have R5 := Lib.hid r5; have R6 := Lib.hid r6
  have HE := Lib.hid he
  clear r1 r2 r3 r4 r5 r6 he
  have hq := eqPair
  have hb2l := build2
  go_enter Tryd.func12, Tryd.ntmps12
  go_wp2_with fail
  refine (R1.out _).mono ?_
  rintro e w1 ⟨rfl, hb1⟩
  go_wp2_with fail
  refine (R2.out _ _ (by rw [World.cell?_alloc_new]; rfl)).mono ?_
  rintro e w2 ⟨rfl, hb2⟩
  go_wp2_with fail
  refine (R3.out _ _ (SetsAt.new2 _ _ _ _)).mono ?_
  rintro e w3 ⟨rfl, hb3⟩
  have B1 := hb1
  have B2 := (B1.alloc B1.size (.cells #[.int .u8 120] 5)).trans (hb2.mono (by have := B1.size; simp; omega))
  have B3 := (B2.alloc B2.size (.cells #[.int .u64 (wd (spanF 97 100) 0), .int .u64 (wd (spanF 97 100) 1), .int .u64 (wd (spanF 97 100) 2), .int .u64 (wd (spanF 97 100) 3), .int .u64 (wd (ofF [120]) 0), .int .u64 (wd (ofF [120]) 1), .int .u64 (wd (ofF [120]) 2), .int .u64 (wd (ofF [120]) 3)] 25)).trans (hb3.mono (by have := B2.size; simp; omega))
  clear hb1 hb2 hb3 B1 B2
  have E3 := HE.out.below B3
  have HB3 := Lib.hid B3; have HE3 := Lib.hid E3
  clear B3 E3 HE R1 R2 R3
  go_wp2_with fail
  have F3 := HoldsS.new w3 f0 25
  have E4 := HE3.out.alloc (.cells #[.int .u64 (wd f0 0), .int .u64 (wd f0 1), .int .u64 (wd f0 2), .int .u64 (wd f0 3)] 25)
  refine (R4.out _ E4.cells).mono ?_
  rintro e w4 ⟨v, rfl, hown, hb4⟩
  have F4 := F3.below hb4
  have E5 := E4.below hb4
  have B4 := (HB3.out.alloc HB3.out.size (.cells #[.int .u64 (wd f0 0), .int .u64 (wd f0 1), .int .u64 (wd f0 2), .int .u64 (wd f0 3)] 25)).trans (hb4.mono (by have := HB3.out.size; simp; omega))
  clear F3 E4 hb4 HB3 HE3
  obtain ⟨g, cap, rfl⟩ := ownsRow_succ hown
  have d0 := hown.cellAt 0 (by decide); have d1 := hown.cellAt 1 (by decide); have d2 := hown.cellAt 2 (by decide); have d3 := hown.cellAt 3 (by decide)
  simp only [pairCells, List.flatMap_cons, List.flatMap_nil, List.append_nil, List.cons_append, List.nil_append, List.getElem?_cons_zero, List.getElem?_cons_succ] at d0 d1 d2 d3
  have HB4 := Lib.hid B4; have HE5 := Lib.hid E5
  have c0 := F4.c0; have c1 := F4.c1; have c2 := F4.c2; have c3 := F4.c3
  clear F4 E5 B4 hown
  go_wp2_with fail
  refine (R5.out _).mono ?_
  rintro e w5 ⟨rfl, hb5⟩
  have HE6 := Lib.hid (HE5.out.below hb5)
  have HB5 := Lib.hid (HB4.out.trans (hb5.mono HB4.out.size))
  clear hb5 c0 c1 c2 c3 d0 d1 d2 d3
  go_wp2_with fail
  refine (R6.out _ HE6.out).mono ?_
  rintro e w6 ⟨rfl, hb6⟩
  go_wp2_with fail
  go_ret
  exact ⟨rfl, HB5.out.trans (hb6.mono HB5.out.size)⟩
end Go.Proofs.YtgmoaglanjfdmaaDoor.SetW
