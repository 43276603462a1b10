/- Walk of layer 14: Meets. -/
import Derived.Test.YtgmeomhddpmpbaaDoorCount
namespace Go.Proofs.YtgmeomhddpmpbaaDoor.BitsW
set_option linter.unusedVariables false
open Go.RowKit Go.Shelf Go.Proofs.YtgmeomhddpmpbaaDoor.SetM Go.Proofs.YtgmeomhddpmpbaaDoor.SetW Go.Proofs.YtgmeomhddpmpbaaDoor.RegionU
attribute [local go_sem] Oper.semAt_some

set_option maxHeartbeats 2000000 in
theorem Meets_in (n : Nat) (hn : 3 ≤ n) (p q k : Nat) (f : Nat → Bool) (v : Option Addr) (q2 r : Nat) (g : Nat → Bool) (w : World) (hB : Bt w p q k f) (hS : Src w v q2 r g) :
    CallsIn Fence.wide n Tryd.prog 21 #[.pointer (some ⟨p, 0, none⟩), .pointer v] w fun e W' => e = .returned (.bool (meetB k f g)) ∧ Below w.heap.size w W' := by
  have h1 : 1 ≤ n := by omega
  have HS := Lib.hid hS; have HBT := Lib.hid hB
  clear hS hB
  refine callsIn_of_wp_marks Tryd.func21 rfl trivial ?_ rfl
  simp only [Tryd.ntmps21, List.size_toArray, List.length_cons, List.length_nil, Nat.reduceAdd, Nat.reduceSub, Array.replicate_succ, Array.replicate_zero, List.push_toArray, List.append_toArray, List.nil_append, List.cons_append]
  gi_wp2_with (refine ⟨trivial, ?_⟩; gi_at_call 26; refine (callsIn_wide.2 (some_any v _)).mono ?_; rintro e w2 ⟨rfl, rfl⟩)
  have b1 := ((Boxed.new w 23 (.pointer (some ⟨p, 0, none⟩))).alloc (.cells #[.bool false] 4)).alloc (.cells #[.pointer v] 23)
  have b2 := (Boxed.new (w.alloc (.cells #[.pointer (some ⟨p, 0, none⟩)] 23)) 4 (.bool false)).alloc (.cells #[.pointer v] 23)
  have b3 := Boxed.new ((w.alloc (.cells #[.pointer (some ⟨p, 0, none⟩)] 23)).alloc (.cells #[.bool false] 4)) 23 (.pointer v)
  rw [World.size_alloc] at b2
  rw [World.size_alloc, World.size_alloc] at b3
  have hb0 : Below w.heap.size w (((w.alloc (.cells #[.pointer (some ⟨p, 0, none⟩)] 23)).alloc (.cells #[.bool false] 4)).alloc (.cells #[.pointer v] 23)) := (((Below.refl _ _).alloc (Nat.le_refl _) _).alloc (by simp) _).alloc (by simp; omega) _
  generalize ((w.alloc (.cells #[.pointer (some ⟨p, 0, none⟩)] 23)).alloc (.cells #[.bool false] 4)).alloc (.cells #[.pointer v] 23) = W0 at *
  obtain ⟨B, hB⟩ : ∃ B, B = w.heap.size := ⟨_, rfl⟩
  have HB := Lib.hid hB
  rw [← hB] at b1 b2 b3 ⊢
  have hseq := some_stops (n - 1) (by omega) (B + 1 + 1) v q2 r g W0 b3.cell (HS.out.below hb0)
  have hq0 : q2 < W0.heap.size := Nat.lt_of_lt_of_le HS.out.1 hb0.size
  have HB0 := Lib.hid hb0
  have hplt := HBT.out.lt
  clear hB hb0 b3
  have hIx : ∀ c, OwnFrom W0.heap.size (fun (pre : List Pl) W => (c = Code.exit 0 ∧ Boxed W (B + 1) 4 (.bool false) ∧ Below w.heap.size w W ∧ Hid (∃ pre0 x, pre = pre0 ++ [x] ∧ lenW k ≤ x.val ∧ meetL f g (vals pre0) = false)) ∨ (c = Code.ret ∧ Boxed W (B + 1) 4 (.bool true) ∧ Below w.heap.size w W ∧ Hid (meetL f g (vals pre) = true))) := by
    rintro c s X Y row (⟨h1, h2, h3, h4⟩ | ⟨h1, h2, h3, h4⟩) hg hrow
    · exact .inl ⟨h1, boxed_from (B + 1) 4 (fun _ : Unit => .bool false) () X Y row h2 hg hrow, ownFrom_below (Nat.le_refl _) HB0.out.size () X Y row h3 hg hrow, h4⟩
    · exact .inr ⟨h1, boxed_from (B + 1) 4 (fun _ : Unit => .bool true) () X Y row h2 hg hrow, ownFrom_below (Nat.le_refl _) HB0.out.size () X Y row h3 hg hrow, h4⟩
  have hI : OwnFrom W0.heap.size (fun (pre : List Pl) W => (Boxed W B 23 (.pointer (some ⟨p, 0, none⟩)) ∧ Boxed W (B + 1) 4 (.bool false)) ∧ Below w.heap.size w W ∧ Hid (meetL f g (vals pre) = false)) := by
    rintro s X Y row ⟨⟨h1, h2⟩, h3, h4⟩ hg hrow
    exact ⟨⟨boxed_from B 23 (fun _ : Unit => .pointer (some ⟨p, 0, none⟩)) () X Y row h1 hg hrow, boxed_from (B + 1) 4 (fun _ : Unit => .bool false) () X Y row h2 hg hrow⟩, ownFrom_below (Nat.le_refl _) HB0.out.size () X Y row h3 hg hrow, h4⟩
  refine wpIn_rangeFunc_ownG rfl h1 (gf := 31) (lb := #[.pointer (some ⟨B + 1 + 1, 0, none⟩)]) rfl trivial (enters_of Tryd.func31 (by kernel_rfl) rfl)
    hseq Kq.trans (kq_b hq0) (Below.refl _ _) (fun _ => rfl)
    _ _ hI hIx
    ⟨⟨b1, b2⟩, HB0.out, Lib.hid rfl⟩
    (fun x => { tmps := #[.pointer (some ⟨p, 0, none⟩), .pointer v, .pointer (some ⟨B, 0, none⟩), undef, .pointer (some ⟨B + 1, 0, none⟩), .int .i64 (x.val : Nat), .int .u64 (wd g x.val), .pointer (some ⟨p, 0, none⟩), .bool false, .pointer v, .func (.func 31) #[] #[.pointer (some ⟨B + 1 + 1, 0, none⟩)], .int .i64 (x.val : Nat), .int .u64 (wd g x.val), undef, undef, undef, undef, undef, undef, undef, undef, undef, undef, undef, undef, undef, undef, undef, undef, undef], defers := [] }) ?assign ?body ?done ?stop
  case assign =>
    intro l x W K hK
    unfold encs
    gi_wp2
    exact hK
  case body =>
    rintro l pre ⟨x, hx0⟩ W ⟨⟨hv1, hv2⟩, hb, hm⟩ hlt
    have HV := Lib.hid hv2; have HV1 := Lib.hid hv1; have HBW := Lib.hid hb; have HM := Lib.hid hm.out
    obtain ⟨cap, hSw⟩ := (HBT.out.but (But.of none hb) hplt.1 hplt.2 (by simp) (by simp)).sw
    have c0 := hv1.cell
    have c1 := hSw.c1
    have HSW := Lib.hid hSw
    have hle := lenW_le HBT.out.room
    have hqW : q2 < W.heap.size := by have := hb.size; have := HS.out.1; omega
    clear hv1 hv2 hb hm hSw
    by_cases hlt2 : x < lenW k
    · have x1 := HSW.out.word hlt2
      have f1 := HV.out.frozen
      have f2 := HV.out.cell
      cases hm : !(wd (meetF g f) x == 0)
      · have HMS := Lib.hid (meetL_snoc f g (vals pre) x)
        have t1 : (bits BinOp.and IntKind.u64 (wd g x) (wd f x) != 0) = false := by rw [meet_word]; simp at hm; simp [hm]
        have HMM := Lib.hid hm
        clear hm
        gi_wp2
        refine ⟨(KeepsOthers.refl _).from _, Kq.refl _ _, ⟨HV1.out, HV.out⟩, HBW.out, Lib.hid ?_⟩
        rw [vals_snoc, HMS.out, HM.out, HMM.out]; rfl
      · have HMS := Lib.hid (meetL_snoc f g (vals pre) x)
        have t1 : (bits BinOp.and IntKind.u64 (wd g x) (wd f x) != 0) = true := by rw [meet_word]; simp at hm; simp [hm]
        have HMM := Lib.hid hm
        clear hm
        gi_wp2
        refine ⟨((KeepsOthers.refl _).trans (KeepsOthers.setCell _ _ _)).from _, .inr ⟨rfl, HV.out.set _, HBW.out.setCell (p := ⟨B + 1, 0, none⟩) (show w.heap.size ≤ B + 1 by rw [HB.out]; omega) _, Lib.hid ?_⟩⟩
        rw [vals_snoc, HMS.out, HM.out, HMM.out]; rfl
    · gi_wp2
      exact ⟨(KeepsOthers.refl _).from _, .inl ⟨rfl, HV.out, HBW.out, Lib.hid ⟨pre, ⟨x, hx0⟩, rfl, Nat.le_of_not_lt hlt2, HM.out⟩⟩⟩
  case done =>
    rintro D ys W hD hys ⟨⟨hv1, hv2⟩, hb, hm⟩ hK
    have hc := hv2.cell
    have hf := hv2.frozen
    have HN := Lib.hid (meetL_no (n := k) (fun i h1 h2 => by rw [hys]; exact rows_of h1 (lenW_pos (HS.out.into i h1))) hm.out)
    have HV := Lib.hid hv2
    have hDB : D ≠ B + 1 := by have := hv2.lt; have := b2.lt; omega
    clear hys hv2
    gi_wp2
    have hK2 : (W.setCell ⟨B + 1, 0, none⟩ (.bool false)).heap[D]? = some (.deferred (some [])) := (Below.heap_setCell _ _ _ _ hDB).trans hK
    refine ⟨by simp, .inl ⟨_, _, rfl, run_takeDeferred hK2, ?_⟩⟩
    have h3 := ((HV.out.set (.bool false)).kept (grownBy_putObj' _ D (.deferred none)) (by simp; omega)).cell
    refine ⟨.bool false, by simp [results, Tryd.results21, go_sem, h3], by rw [HN.out], ?_⟩
    exact (hb.setCell (p := ⟨B + 1, 0, none⟩) (show w.heap.size ≤ B + 1 by rw [HB.out]; omega) _).trans (belowK_b (w := w) (Nat.le_refl _) _ D _ _ (Nat.le_trans HB0.out.size hD) hK2 rfl rfl)
  case stop =>
    rintro D c pre W hD hpre h hK
    rcases h with ⟨rfl, hv2, hb, hx⟩ | ⟨rfl, hv2, hb, hx⟩
    · have hc := hv2.cell
      have hf := hv2.frozen
      have HN := Lib.hid (show meetB k f g = false by
        obtain ⟨pre0, x, rfl, hle, hm⟩ := hx.out
        refine meetL_no (n := k) (fun i h1 h2 => ?_) hm
        rw [vals_snoc] at hpre
        exact rows_left hpre (Nat.lt_of_lt_of_le (lenW_pos h2) hle) (rows_of h1 (lenW_pos (HS.out.into i h1))))
      have HV := Lib.hid hv2
      have hDB : D ≠ B + 1 := by have := hv2.lt; have := b2.lt; omega
      clear hv2 hx hpre
      gi_wp2
      have hK2 : (W.setCell ⟨B + 1, 0, none⟩ (.bool false)).heap[D]? = some (.deferred (some [])) := (Below.heap_setCell _ _ _ _ hDB).trans hK
      refine ⟨by simp, .inl ⟨_, _, rfl, run_takeDeferred hK2, ?_⟩⟩
      have h3 := ((HV.out.set (.bool false)).kept (grownBy_putObj' _ D (.deferred none)) (by simp; omega)).cell
      refine ⟨.bool false, by simp [results, Tryd.results21, go_sem, h3], by rw [HN.out], ?_⟩
      exact (hb.setCell (p := ⟨B + 1, 0, none⟩) (show w.heap.size ≤ B + 1 by rw [HB.out]; omega) _).trans (belowK_b (w := w) (Nat.le_refl _) _ D _ _ (Nat.le_trans HB0.out.size hD) hK2 rfl rfl)
    · have hc := hv2.cell
      have HN := Lib.hid (meetL_yes HBT.out.into hx.out)
      have HV := Lib.hid hv2
      have hDB : D ≠ B + 1 := by have := hv2.lt; have := b2.lt; omega
      clear hv2 hx hpre
      gi_wp2
      refine ⟨by simp, .inl ⟨_, _, rfl, run_takeDeferred hK, ?_⟩⟩
      have h3 := (HV.out.kept (grownBy_putObj' _ D (.deferred none)) (by simp; omega)).cell
      refine ⟨.bool true, by simp [results, Tryd.results21, go_sem, h3], by rw [HN.out], ?_⟩
      exact hb.trans (belowK_b (w := w) (Nat.le_refl _) _ D _ _ (Nat.le_trans HB0.out.size hD) hK rfl rfl)
theorem Meets_any (p q k : Nat) (f : Nat → Bool) (v : Option Addr) (q2 r : Nat) (g : Nat → Bool) (w : World) (hB : Bt w p q k f) (hS : Src w v q2 r g) :
    Calls Tryd.prog 21 #[.pointer (some ⟨p, 0, none⟩), .pointer v] w fun e W' => e = .returned (.bool (meetB k f g)) ∧ Below w.heap.size w W' :=
  callsIn_wide.1 (Meets_in 3 (by decide) p q k f v q2 r g w hB hS)
end Go.Proofs.YtgmeomhddpmpbaaDoor.BitsW
