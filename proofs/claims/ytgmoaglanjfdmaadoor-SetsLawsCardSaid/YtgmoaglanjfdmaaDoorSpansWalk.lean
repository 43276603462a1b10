/- Walks of layer 2: Spans. -/
import Derived.Test.YtgmoaglanjfdmaaDoorBytesWalk
namespace Go.Proofs.YtgmoaglanjfdmaaDoor.SetW
set_option linter.unusedVariables false
open Go.RowKit Go.Shelf Go.Proofs.YtgmoaglanjfdmaaDoor.SetM
attribute [local go_sem] Oper.semAt_some

theorem set_last (l : List (Nat × Nat)) (a b c : Value) : (pairCells l ++ [a, b]).set (l.length * 2 + 1) c = pairCells l ++ [a, c] := by
  have h := pairCells_length l
  rw [List.set_append, if_neg (by omega), show l.length * 2 + 1 - (pairCells l).length = 1 by omega]; rfl
theorem wrap_pred (x : Nat) : IntKind.u8.wrap ((x : Int) - 1) = (((x + 255) % 256 : Nat) : Int) := by rw [IntKind.wrap_u8]; omega

set_option maxRecDepth 100000 in
set_option maxHeartbeats 4000000 in
theorem Spans_in (n : Nat) (hn : 3 ≤ n) (f : Nat → Bool) (w : World) (he : EnvC w) :
    CallsIn Fence.wide n Tryd.prog 22 #[SV f] w fun e W' => ∃ v, e = .returned v ∧ W'.ownsRow w.heap.size 44 2 v (spF f 256).length (pairCells (spF f 256)) ∧ Below w.heap.size w W' := by
  have h1 : 1 ≤ n := by omega
  obtain ⟨i0, hi, hz0, hz1, hz2⟩ := info_parts infoPair
  have hb2l := build2
  refine callsIn_of_wp_marks Tryd.func22 rfl trivial ?_ rfl
  simp only [Tryd.ntmps22, List.size_toArray, List.length_cons, List.length_nil, Nat.reduceAdd, Nat.reduceSub, Array.replicate_succ, Array.replicate_zero, List.push_toArray, List.append_toArray, List.nil_append, List.cons_append]
  have HE := Lib.hid he
  clear he
  gi_wp2_with (refine ⟨trivial, ?_⟩; gi_at_call 29; refine (callsIn_wide.2 (each_any f _)).mono ?_; rintro e w2 ⟨rfl, rfl⟩)
  obtain ⟨A, hA⟩ : ∃ A, A = w.heap.size := ⟨_, rfl⟩
  have bL := (Boxed.new (w.alloc (.cells #[.int .u64 (wd f 0), .int .u64 (wd f 1), .int .u64 (wd f 2), .int .u64 (wd f 3)] 25)) 41 (.slice none 0 0)).alloc (.cells #[.int .u64 (wd f 0), .int .u64 (wd f 1), .int .u64 (wd f 2), .int .u64 (wd f 3)] 25)
  have hE := HoldsS.new ((w.alloc (.cells #[.int .u64 (wd f 0), .int .u64 (wd f 1), .int .u64 (wd f 2), .int .u64 (wd f 3)] 25)).alloc (.cells #[.slice none 0 0] 41)) f 25
  have hB2 : Below w.heap.size w (((w.alloc (.cells #[.int .u64 (wd f 0), .int .u64 (wd f 1), .int .u64 (wd f 2), .int .u64 (wd f 3)] 25)).alloc (.cells #[.slice none 0 0] 41)).alloc (.cells #[.int .u64 (wd f 0), .int .u64 (wd f 1), .int .u64 (wd f 2), .int .u64 (wd f 3)] 25)) := (((Below.refl _ _).alloc (Nat.le_refl _) _).alloc (by simp) _).alloc (by simp; omega) _
  simp only [World.size_alloc] at bL hE
  generalize ((w.alloc (.cells #[.int .u64 (wd f 0), .int .u64 (wd f 1), .int .u64 (wd f 2), .int .u64 (wd f 3)] 25)).alloc (.cells #[.slice none 0 0] 41)).alloc (.cells #[.int .u64 (wd f 0), .int .u64 (wd f 1), .int .u64 (wd f 2), .int .u64 (wd f 3)] 25) = W0 at *
  have hg0 : 0 < w.heap.size := World.block_lt_of_cell? _ _ (HE.out 0 (by decide))
  have heW0 := HE.out.below hg0 hB2
  have hn0 : w.heap.size ≤ W0.heap.size := hB2.size
  refine wpIn_rangeFunc_ownG rfl h1 (gf := 32) (lb := #[.pointer (some ⟨w.heap.size + 1 + 1, 0, none⟩)]) rfl trivial (enters_of Tryd.func32 (by kernel_rfl) rfl)
    (each_stops (n - 1) (by omega) (w.heap.size + 1 + 1) w.heap.size hg0 f W0 hE heW0 hn0) belowK_t (belowK_b hn0) (Below.refl _ _) (fun _ => rfl)
    (fun (pre : List Nat) W => (∃ v, Boxed W (w.heap.size + 1) 41 v ∧ W.ownsRow w.heap.size 44 2 v (foldSp pre).length (pairCells (foldSp pre)) ∧ True) ∧ Below w.heap.size w W)
    (fun _ _ _ => False)
    (OwnFrom.and (Own.from (holdsRow_own w.heap.size (w.heap.size + 1) 41 44 2 (fun (pre : List Nat) => (foldSp pre).length) (fun (pre : List Nat) => pairCells (foldSp pre)) (fun _ _ => True)) _) (ownFrom_below (Nat.le_refl _) hn0))
    (fun _ _ _ _ _ hs _ _ => hs)
    ⟨⟨_, bL, World.ownsRow_nil _ _ _ _, trivial⟩, hB2⟩
    (fun x => { tmps := #[SV f, .pointer (some ⟨w.heap.size, 0, none⟩), .slice none 0 0, .pointer (some ⟨w.heap.size + 1, 0, none⟩), u8 x, undef, SV f, .func (.func 32) #[] #[.pointer (some ⟨w.heap.size + 1 + 1, 0, none⟩)], u8 x, undef, undef, undef, undef, undef, undef, undef, undef, undef, undef, undef, undef, undef, undef, undef, undef, undef, undef, undef, undef, undef, undef, undef, undef, undef, undef, undef, undef], defers := [] }) ?assign ?body ?done ?stop
  case assign =>
    intro l x W K hK
    gi_wp2
    exact hK
  case body =>
    rintro l pre x W ⟨⟨v, hv, hrow, _⟩, hB⟩ hlt
    have hc := hv.cell
    have hlen := foldSp_length pre
    have HX := Lib.hid (foldSp_snoc pre x)
    rcases List.eq_nil_or_concat (foldSp pre) with hL | ⟨l', p, hL⟩
    · have HX2 := Lib.hid (show foldSp (pre ++ [x]) = [(x, x)] by rw [HX.out, hL]; rfl)
      rw [hL] at hrow
      have hrow2 := hrow
      rcases hrow2.2 with ⟨rfl, _⟩ | ⟨g, cap, cur, rfl, _⟩
      all_goals
        clear hrow2 HX
        have HL := Lib.hid hL; clear hL
        simp only [List.length_nil] at hrow hc hv
        gi_wp2_with (gi_at_builtin; refine wpListIn_append_own _ rfl _ _ 41 rfl w.heap.size 44 i0 (.agg #[.int .u8 0, .int .u8 0]) 2 2 Tryd.underlying41 hi hz0 hz1 hz2 rfl (by decide) _ _ _ rfl (hrow.alloc _) ⟨W.heap.size, 0, none⟩ 1 1 [.int .u8 (x : Int), .int .u8 (x : Int)] rfl rfl (cell_two_new _ _ _ _) (by simp [Value.oneCell']) (by unfold maxLen; omega) (by omega) (by have := hB.size; simp; omega) ?_; intro v' w1 hown' hgrow _; obtain ⟨g', cap', rfl⟩ := ownsRow_succ hown'; obtain ⟨hv1, hv2, hr2, hk2, hb2⟩ := hv.appended (by decide) hrow hB.size (by omega) hown' hgrow; have hc1 := hv1.cell; have hf1 := hv1.frozen)
        exact ⟨hk2.from _, hb2, ⟨_, hv2, by rw [HX2.out]; exact hr2, trivial⟩, hB.trans hb2⟩
    · rw [List.concat_eq_append] at hL
      rw [hL] at hrow hlen
      rw [List.length_append, List.length_cons, List.length_nil, Nat.zero_add] at hrow hlen
      obtain ⟨g, cap, rfl⟩ := ownsRow_succ hrow
      generalize hm : l'.length = m at *
      have hcell : W.cell? ⟨g, m * 2 + 1, none⟩ = some (u8 p.2) := by
        rw [hrow.cellAt (m * 2 + 1) (by omega), pairCells_snoc, List.getElem?_append_right (by rw [pairCells_length, hm]; omega), pairCells_length, hm, show m * 2 + 1 - m * 2 = 1 by omega]; rfl
      have hfz : W.frozen? ⟨g, m * 2 + 1, none⟩ = false := hrow.frozenAt _
      have hwp := wrap_pred x
      by_cases he : p.2 = (x + 255) % 256
      · have HX2 := Lib.hid (show foldSp (pre ++ [x]) = l' ++ [(p.1, x)] by rw [HX.out, hL]; exact stepSp_more _ _ _ he)
        have t0 : ((p.2 : Int) == ((x : Int) + 255) % 256) = true := by rw [he]; simp
        have HL := Lib.hid hL; clear hL HX he
        obtain ⟨st1, st2⟩ := hrow.stored (m * 2 + 1) (u8 x)
        have hgl := (World.ownsRow.lt hrow g rfl).1
        have hbw : Below w.heap.size W (W.setCell ⟨g, m * 2 + 1, none⟩ (u8 x)) := (Below.refl _ _).setCell (p := ⟨g, m * 2 + 1, none⟩) hgl _
        have hvw := hv.kept st2 (hv.not_row (by decide) hrow)
        have hset : (pairCells (l' ++ [p])).set (m * 2 + 1) (u8 x) = pairCells (l' ++ [(p.1, x)]) := by
          rw [pairCells_snoc, pairCells_snoc, ← hm]; exact set_last _ _ _ _
        rw [hset] at st1
        have HST := Lib.hid st1; have HM2 := Lib.hid hm
        clear st1 st2 hset hm
        gi_wp2
        exact ⟨(KeepsOthers.setCell _ _ _).from _, hbw, ⟨_, hvw, by rw [HX2.out, List.length_append, HM2.out]; exact HST.out, trivial⟩, hB.trans hbw⟩
      · have HX2 := Lib.hid (show foldSp (pre ++ [x]) = l' ++ [p] ++ [(x, x)] by rw [HX.out, hL]; exact stepSp_new _ _ _ he)
        have t0 : ((p.2 : Int) == ((x : Int) + 255) % 256) = false := by simp; omega
        have HL := Lib.hid hL; clear hL HX he
        have HM2 := Lib.hid hm
        clear hm
        gi_wp2_with (gi_at_builtin; refine wpListIn_append_own _ rfl _ _ 41 rfl w.heap.size 44 i0 (.agg #[.int .u8 0, .int .u8 0]) 2 2 Tryd.underlying41 hi hz0 hz1 hz2 rfl (by decide) _ _ _ rfl (hrow.alloc _) ⟨W.heap.size, 0, none⟩ 1 1 [.int .u8 (x : Int), .int .u8 (x : Int)] rfl rfl (cell_two_new _ _ _ _) (by simp [Value.oneCell']) (by unfold maxLen; omega) (by omega) (by have := hB.size; simp; omega) ?_; intro v' w1 hown' hgrow _; obtain ⟨g', cap', rfl⟩ := ownsRow_succ hown'; obtain ⟨hv1, hv2, hr2, hk2, hb2⟩ := hv.appended (by decide) hrow hB.size (by omega) hown' hgrow; have hc1 := hv1.cell; have hf1 := hv1.frozen)
        exact ⟨hk2.from _, hb2, ⟨_, hv2, by rw [HX2.out, List.length_append, List.length_append, HM2.out, pairCells_snoc]; exact hr2, trivial⟩, hB.trans hb2⟩
  case done =>
    rintro D ys W hD rfl ⟨⟨v, hv, hrow, _⟩, hB⟩ hK
    have hc := hv.cell
    gi_wp2
    refine ⟨by simp, .inl ⟨_, _, rfl, run_takeDeferred hK, ?_⟩⟩
    refine ⟨_, results_tmp rfl _ _ _, v, rfl, ?_, hB.trans (belowK_b (w := w) (Nat.le_refl _) W D _ _ (by omega) hK rfl rfl)⟩
    rw [fold_spans] at hrow
    exact ownsRow_putObj hrow _ hK rfl
  case stop =>
    rintro D c pre W _ _ h _
    exact h.elim

theorem Spans_any (f : Nat → Bool) (w : World) (he : EnvC w) :
    Calls Tryd.prog 22 #[SV f] w fun e W' => ∃ v, e = .returned v ∧ W'.ownsRow w.heap.size 44 2 v (spF f 256).length (pairCells (spF f 256)) ∧ Below w.heap.size w W' :=
  callsIn_wide.1 (Spans_in 3 (by decide) f w he)
end Go.Proofs.YtgmoaglanjfdmaaDoor.SetW
