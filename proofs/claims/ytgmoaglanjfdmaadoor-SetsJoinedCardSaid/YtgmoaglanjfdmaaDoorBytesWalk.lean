/- Walks of layer 2: Bytes. -/
import Derived.RangeFuncNested
import Derived.RangeFuncBound
import Derived.RangeFuncCalls
import Derived.Test.YtgmoaglanjfdmaaDoorEach
import Derived.Test.YtgmoaglanjfdmaaDoorSetWalk10
namespace Go.Proofs.YtgmoaglanjfdmaaDoor.SetW
set_option linter.unusedVariables false
open Go.RowKit Go.Shelf Go.Proofs.YtgmoaglanjfdmaaDoor.SetM
attribute [local go_sem] Oper.semAt_some

theorem each_stops (n : Nat) (hn : 1 ≤ n) (Bs n₀ : Nat) (hg : 0 < n₀) (f : Nat → Bool) (w : World) (hF : HoldsS w Bs f) (he : EnvC w) (hn₀ : n₀ ≤ w.heap.size) :
    SeqStopsK Fence.wide n Tryd.prog 32 #[.pointer (some ⟨Bs, 0, none⟩)] (fun x : Nat => #[Value.int .u8 (x : Int)]) (Below n₀) (fun ys => ys = elems f) (fun _ => True) 256 w := fun l J Jx W hW _ _ hY h0 =>
  each1_in n hn l Bs n₀ hg f J Jx hY W (hF.below hW) (he.below hg (hW.mono hn₀)) h0

set_option maxRecDepth 100000 in
set_option maxHeartbeats 2000000 in
theorem Bytes_in (n : Nat) (hn : 3 ≤ n) (f : Nat → Bool) (w : World) (he : EnvC w) :
    CallsIn Fence.wide n Tryd.prog 21 #[SV f] w fun e W' => ∃ v, e = .returned v ∧ W'.ownsRow w.heap.size 5 1 v (elems f).length ((elems f).map u8) ∧ Below w.heap.size w W' := by
  have h1 : 1 ≤ n := by omega
  obtain ⟨i0, hi, hz0, hz1, hz2⟩ := info_parts infoByte
  have hcn := Count_any f
  have hle := upTo_length f 256
  refine callsIn_of_wp_marks Tryd.func21 rfl trivial ?_ rfl
  simp only [Tryd.ntmps21, List.size_toArray, List.length_cons, List.length_nil, Nat.reduceAdd, Nat.reduceSub, Array.replicate_succ, Array.replicate_zero, List.push_toArray, List.append_toArray, List.nil_append, List.cons_append]
  have HCN := Lib.hid hcn
  have HE := Lib.hid he
  clear hcn he
  have hF0 := HoldsS.new w f 25
  have hB0 : Below w.heap.size w (w.alloc (.cells #[.int .u64 (wd f 0), .int .u64 (wd f 1), .int .u64 (wd f 2), .int .u64 (wd f 3)] 25)) := (Below.refl _ _).alloc (Nat.le_refl _) _
  have HF0 := Lib.hid hF0; have HB0 := Lib.hid hB0
  clear hF0 hB0
  gi_wp2_with (refine ⟨trivial, ?_⟩; gi_at_call 25; refine (callsIn_wide.2 (HCN.out _)).mono ?_; rintro e w1 ⟨rfl, hb1⟩)
  have hF1 := HF0.out.below hb1
  have hB1 := HB0.out.trans (hb1.mono HB0.out.size)
  have HLE := Lib.hid (show (elems f).length ≤ 256 from hle)
  obtain ⟨wm, hmk, hownm, hgm⟩ := run_make_own (P := Tryd.prog) w1 w.heap.size 22 5 i0 (.int .u8 0) 1 Tryd.underlying22 hi hz0 hz1 .i64 .i64 (elems f).length (by rw [hz2]; have := HLE.out; omega) (by unfold maxLen; have := HLE.out; omega) hB1.size
  have hBm : Below w.heap.size w wm := hB1.grown hgm hB1.size (fun k e => by cases e)
  have hgb : Below w1.heap.size w1 wm := (Below.refl _ _).grown hgm (Nat.le_refl _) (fun k e => by cases e)
  have hFm := hF1.below hgb
  have hlm := hFm.lt
  have HM := Lib.hid hownm; have HFM := Lib.hid hFm; have HBM := Lib.hid hBm
  generalize hlen : (elems f).length = len at *
  have HLEN := Lib.hid hlen
  have c0 := hFm.c0; have c1 := hFm.c1; have c2 := hFm.c2; have c3 := hFm.c3
  clear hb1 hF1 hB1 hownm hgm hBm hgb hFm HF0 HB0 hlen HCN
  rw [hmk]
  clear hmk
  simp only [Result.andThen_ok]
  gi_wp2_with (refine ⟨trivial, ?_⟩; gi_at_call 29; refine (callsIn_wide.2 (each_any f _)).mono ?_; rintro e w2 ⟨rfl, rfl⟩)
  have bL := Boxed.new wm 22 (.slice (some ⟨w1.heap.size, 0, none⟩) 0 len)
  have hE := HoldsS.new (wm.alloc (.cells #[.slice (some ⟨w1.heap.size, 0, none⟩) 0 len] 22)) f 25
  rw [World.size_alloc] at hE
  have bL2 := bL.alloc (.cells #[.int .u64 (wd f 0), .int .u64 (wd f 1), .int .u64 (wd f 2), .int .u64 (wd f 3)] 25)
  have hR2 := (HM.out.alloc (.cells #[.slice (some ⟨w1.heap.size, 0, none⟩) 0 len] 22)).alloc (.cells #[.int .u64 (wd f 0), .int .u64 (wd f 1), .int .u64 (wd f 2), .int .u64 (wd f 3)] 25)
  have hB2 := (HBM.out.alloc HBM.out.size (.cells #[.slice (some ⟨w1.heap.size, 0, none⟩) 0 len] 22)).alloc (by have := HBM.out.size; simp; omega) (.cells #[.int .u64 (wd f 0), .int .u64 (wd f 1), .int .u64 (wd f 2), .int .u64 (wd f 3)] 25)
  have hs2 : ((wm.alloc (.cells #[.slice (some ⟨w1.heap.size, 0, none⟩) 0 len] 22)).alloc (.cells #[.int .u64 (wd f 0), .int .u64 (wd f 1), .int .u64 (wd f 2), .int .u64 (wd f 3)] 25)).heap.size = wm.heap.size + 1 + 1 := by simp
  generalize (wm.alloc (.cells #[.slice (some ⟨w1.heap.size, 0, none⟩) 0 len] 22)).alloc (.cells #[.int .u64 (wd f 0), .int .u64 (wd f 1), .int .u64 (wd f 2), .int .u64 (wd f 3)] 25) = W0 at *
  have hle2 := HLE.out
  have hg0 : 0 < w.heap.size := World.block_lt_of_cell? _ _ (HE.out 0 (by decide))
  have heW0 := HE.out.below hg0 hB2
  have hn0 : w.heap.size ≤ W0.heap.size := hB2.size
  obtain ⟨B3, hB3⟩ : ∃ B3, B3 = wm.heap.size := ⟨_, rfl⟩
  rw [← hB3] at bL2 hs2 hE hlm ⊢
  have hB3w : w.heap.size ≤ B3 := by omega
  have H3 := Lib.hid hB3
  have HS2 := Lib.hid hs2
  clear hB3 hs2 c0 c1 c2 c3 bL
  refine wpIn_rangeFunc_ownG rfl h1 (gf := 32) (lb := #[.pointer (some ⟨B3 + 1, 0, none⟩)]) rfl trivial (enters_of Tryd.func32 (by kernel_rfl) rfl)
    (each_stops (n - 1) (by omega) (B3 + 1) w.heap.size hg0 f W0 hE heW0 hn0) belowK_t (belowK_b hn0) (Below.refl _ _) (fun _ => rfl)
    (fun (pre : List Nat) W => (∃ v, Boxed W B3 22 v ∧ W.ownsRow w.heap.size 5 1 v pre.length (pre.map u8) ∧ True) ∧ Below w.heap.size w W)
    (fun _ _ _ => False)
    (OwnFrom.and (Own.from (holdsRow_own w.heap.size B3 22 5 1 (fun (pre : List Nat) => pre.length) (fun pre => pre.map u8) (fun _ _ => True)) _) (ownFrom_below (Nat.le_refl _) hn0))
    (fun _ _ _ _ _ hs _ _ => hs)
    ⟨⟨_, bL2, hR2, trivial⟩, hB2⟩
    (fun x => { tmps := #[SV f, .pointer (some ⟨w.heap.size, 0, none⟩), .slice none 0 0, .pointer (some ⟨B3, 0, none⟩), u8 x, SV f, .int .i64 len, .slice (some ⟨w1.heap.size, 0, none⟩) 0 len, SV f, .func (.func 32) #[] #[.pointer (some ⟨B3 + 1, 0, none⟩)], u8 x, undef, undef, undef, undef, undef], defers := [] }) ?assign ?body ?done ?stop
  case assign =>
    intro l x W K hK
    gi_wp2
    exact hK
  case body =>
    rintro l pre x W ⟨⟨v, hv, hrow, _⟩, hB⟩ hlt
    have hc := hv.cell
    gi_wp2_with (gi_at_builtin; refine wpListIn_append_own _ rfl _ _ 22 rfl w.heap.size 5 i0 (.int .u8 0) 1 1 Tryd.underlying22 hi hz0 hz1 hz2 rfl (by decide) _ _ _ rfl (hrow.alloc _) ⟨W.heap.size, 0, none⟩ 1 1 [.int .u8 (x : Int)] rfl rfl (cell_one_new _ _ _) (by simp [Value.oneCell']) (by unfold maxLen; omega) (by omega) (by have := hB.size; simp; omega) ?_; intro v' w1 hown' hgrow _; obtain ⟨g', cap', rfl⟩ := ownsRow_succ hown'; obtain ⟨hv1, hv2, hr2, hk2, hb2⟩ := hv.appended (by decide) hrow hB.size hB3w hown' hgrow; have hc1 := hv1.cell; have hf1 := hv1.frozen)
    exact ⟨hk2.from _, hb2, ⟨_, hv2, by rw [List.length_append, List.map_append]; exact hr2, trivial⟩, hB.trans hb2⟩
  case done =>
    rintro D ys W hD rfl ⟨⟨v, hv, hrow, _⟩, hB⟩ hK
    have hc := hv.cell
    gi_wp2
    refine ⟨by simp, .inl ⟨_, _, rfl, run_takeDeferred hK, ?_⟩⟩
    exact ⟨_, results_tmp rfl _ _ _, v, rfl, ownsRow_putObj hrow _ hK rfl, hB.trans (belowK_b (w := w) (Nat.le_refl _) W D _ _ (by omega) hK rfl rfl)⟩
  case stop =>
    rintro D c pre W _ _ h _
    exact h.elim

theorem Bytes_any (f : Nat → Bool) (w : World) (he : EnvC w) :
    Calls Tryd.prog 21 #[SV f] w fun e W' => ∃ v, e = .returned v ∧ W'.ownsRow w.heap.size 5 1 v (elems f).length ((elems f).map u8) ∧ Below w.heap.size w W' :=
  callsIn_wide.1 (Bytes_in 3 (by decide) f w he)
end Go.Proofs.YtgmoaglanjfdmaaDoor.SetW
