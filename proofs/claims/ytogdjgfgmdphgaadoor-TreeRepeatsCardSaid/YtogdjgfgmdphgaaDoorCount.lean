/- Walks: Size, by the sequence. -/
import Derived.Test.YtogdjgfgmdphgaaDoorFrom
namespace Go.Proofs.YtogdjgfgmdphgaaDoor.TreeW
set_option linter.unusedVariables false
open Go.RowKit Go.Shelf Go.Proofs.YtogdjgfgmdphgaaDoor.TreeM
attribute [local go_sem] Oper.semAt_some

theorem keeps_b {n₀ : Nat} {w : World} (hn : n₀ ≤ w.heap.size) (W : World) (l : Nat) (o o' : Obj) (hl : w.heap.size ≤ l) (h : W.heap[l]? = some o) (hc : o.isCells = false) (hw : o.isWalk = false) : Keeps n₀ W (W.putObj l o') := by
  refine ⟨belowK_b hn W l o o' hl h hc hw, by simp, fun k c t z _ hk => ?_⟩
  have hne : k ≠ l := fun e => by subst e; rw [h] at hk; cases hk; cases hc
  exact (World.putObj_heap_other hne).trans hk
theorem keeps_set {n₀ b : Nat} {W : World} {t : TypeId} {u : Value} (h : Boxed W b t u) (hn : n₀ ≤ b) (ht : t ≠ 28 ∧ t ≠ 29 ∧ t ≠ 56 ∧ t ≠ 22) (v : Value) : Keeps n₀ W (W.setCell ⟨b, 0, none⟩ v) := by
  refine ⟨(Below.refl _ _).setCell (p := ⟨b, 0, none⟩) hn v, by simp [World.setCell], fun k c t' z ht' hk => ?_⟩
  have hne : k ≠ b := fun e => by
    subst e
    rw [show W.heap[k]? = _ from h] at hk
    cases hk
    rcases ht' with e | e | e | e
    · exact ht.1 e
    · exact ht.2.1 e
    · exact ht.2.2.1 e
    · exact ht.2.2.2 e
  exact (Below.heap_setCell W ⟨b, 0, none⟩ v k hne).trans hk
theorem boxed_from {β : Type} {B : Nat} (b : Nat) (t : TypeId) (f : β → Value) : OwnFrom B (fun s W => Boxed W b t (f s)) := (boxed_own b t f).from B
theorem keepsFrom_alloc (B : Nat) (W : World) (o : Obj) : KeepsFrom B W (W.alloc o) := (KeepsOthers.alloc W o).from B
/-- Behind the assignment: the round's node lies in a box of its own. -/
def Fresh (P : Nat) (x : It) (W : World) : Prop := W.heap[P]? = some (.cells #[.int .i64 x.nd.K, .int .u64 x.nd.a, .int .u64 x.nd.b, .int .u64 x.nd.c, .int .u64 x.nd.d, .slice x.ad x.len x.cap, .int .i64 x.nd.L, .int .i64 x.nd.H] 28 (0, 0))
theorem Fresh.node {P : Nat} {x : It} {W : World} (h : Fresh P x W) : NodeAt W P 0 x.nd (.slice x.ad x.len x.cap) := by
  unfold Fresh at h
  constructor <;> simp [World.cell?, h]
theorem fresh_own {B : Nat} (P : Nat) (x : It) : OwnFrom B (fun (_ : Unit) W => Fresh P x W) := fun _ X Y row hs hg hr => (grownBy_keeps_cells hg (fun r e => (hr r e).2) hs rfl).trans hs
theorem wrap_step (k : Nat) : wrap64 (wrap64 (k : Int) + 1) = wrap64 ((k + 1 : Nat) : Int) := by
  unfold wrap64; omega
set_option maxRecDepth 100000 in
set_option maxHeartbeats 2000000 in
theorem Size_in (n : Nd) (kids : List Tr) (a : Option Addr) (cap : Nat) (w : World) (hL : Lies 0 w.heap.size w (.slice a kids.length cap) kids) :
    CallsIn Fence.wide 10 Tryd.prog 9 #[NV n (.slice a kids.length cap)] w fun e W' => e = .returned (.int .i64 (wrap64 ((sizeL kids + 1 : Nat) : Int))) ∧ Below w.heap.size w W' := by
  have HE := Lib.hid (fun W => each_any n a kids.length cap (.slice none 0 0) W (.inl rfl))
  have HL := Lib.hid hL; clear hL
  have h1 : 1 ≤ 10 := by decide
  refine callsIn_of_wp_marks Tryd.func9 rfl trivial ?_ rfl
  simp only [Tryd.ntmps9, List.size_toArray, List.length_cons, List.length_nil, Nat.reduceAdd, Nat.reduceSub, Array.replicate_succ, Array.replicate_zero, List.push_toArray, List.append_toArray, List.nil_append, List.cons_append]
  gi_wp2_with (refine ⟨trivial, ?_⟩; gi_at_call 32; refine (callsIn_wide.2 (HE.out _)).mono ?_; rintro e w2 ⟨rfl, rfl⟩)
  obtain ⟨B, hB⟩ : ∃ B, B = w.heap.size := ⟨_, rfl⟩
  have HB := Lib.hid hB; clear hB
  have b1 := (Below.refl w.heap.size w).alloc (Nat.le_refl _) (.cells #[.int .i64 n.K, .int .u64 n.a, .int .u64 n.b, .int .u64 n.c, .int .u64 n.d, .slice a kids.length cap, .int .i64 n.L, .int .i64 n.H] 28)
  have b2 := b1.alloc (by simp) (.cells #[.int .i64 0] 3)
  have b3 := b2.alloc (by simp; omega) (.cells #[.int .i64 n.K, .int .u64 n.a, .int .u64 n.b, .int .u64 n.c, .int .u64 n.d, .slice a kids.length cap, .int .i64 n.L, .int .i64 n.H] 28)
  have b4 := b3.alloc (by simp; omega) (.cells #[.slice none 0 0] 56)
  have n1 := (Boxed.new (w.alloc (.cells #[.int .i64 n.K, .int .u64 n.a, .int .u64 n.b, .int .u64 n.c, .int .u64 n.d, .slice a kids.length cap, .int .i64 n.L, .int .i64 n.H] 28)) 3 (.int .i64 0)).alloc (.cells #[.int .i64 n.K, .int .u64 n.a, .int .u64 n.b, .int .u64 n.c, .int .u64 n.d, .slice a kids.length cap, .int .i64 n.L, .int .i64 n.H] 28) |>.alloc (.cells #[.slice none 0 0] 56)
  have x1 := (NodeAt.new ((w.alloc (.cells #[.int .i64 n.K, .int .u64 n.a, .int .u64 n.b, .int .u64 n.c, .int .u64 n.d, .slice a kids.length cap, .int .i64 n.L, .int .i64 n.H] 28)).alloc (.cells #[.int .i64 0] 3)) n (.slice a kids.length cap) 28).below (by simp) ((Below.refl _ _).alloc (Nat.le_refl _) (.cells #[.slice none 0 0] 56))
  have l1 := Boxed.new (((w.alloc (.cells #[.int .i64 n.K, .int .u64 n.a, .int .u64 n.b, .int .u64 n.c, .int .u64 n.d, .slice a kids.length cap, .int .i64 n.L, .int .i64 n.H] 28)).alloc (.cells #[.int .i64 0] 3)).alloc (.cells #[.int .i64 n.K, .int .u64 n.a, .int .u64 n.b, .int .u64 n.c, .int .u64 n.d, .slice a kids.length cap, .int .i64 n.L, .int .i64 n.H] 28)) 56 (.slice none 0 0)
  have s1 : (w.alloc (.cells #[.int .i64 n.K, .int .u64 n.a, .int .u64 n.b, .int .u64 n.c, .int .u64 n.d, .slice a kids.length cap, .int .i64 n.L, .int .i64 n.H] 28)).heap.size = w.heap.size + 1 := by simp
  have s2 : ((w.alloc (.cells #[.int .i64 n.K, .int .u64 n.a, .int .u64 n.b, .int .u64 n.c, .int .u64 n.d, .slice a kids.length cap, .int .i64 n.L, .int .i64 n.H] 28)).alloc (.cells #[.int .i64 0] 3)).heap.size = w.heap.size + 1 + 1 := by simp
  have s3 : (((w.alloc (.cells #[.int .i64 n.K, .int .u64 n.a, .int .u64 n.b, .int .u64 n.c, .int .u64 n.d, .slice a kids.length cap, .int .i64 n.L, .int .i64 n.H] 28)).alloc (.cells #[.int .i64 0] 3)).alloc (.cells #[.int .i64 n.K, .int .u64 n.a, .int .u64 n.b, .int .u64 n.c, .int .u64 n.d, .slice a kids.length cap, .int .i64 n.L, .int .i64 n.H] 28)).heap.size = w.heap.size + 1 + 1 + 1 := by simp
  have s4 : ((((w.alloc (.cells #[.int .i64 n.K, .int .u64 n.a, .int .u64 n.b, .int .u64 n.c, .int .u64 n.d, .slice a kids.length cap, .int .i64 n.L, .int .i64 n.H] 28)).alloc (.cells #[.int .i64 0] 3)).alloc (.cells #[.int .i64 n.K, .int .u64 n.a, .int .u64 n.b, .int .u64 n.c, .int .u64 n.d, .slice a kids.length cap, .int .i64 n.L, .int .i64 n.H] 28)).alloc (.cells #[.slice none 0 0] 56)).heap.size = w.heap.size + 1 + 1 + 1 + 1 := by simp
  rw [s1] at n1
  rw [s2] at x1
  rw [s3] at l1
  have hL1 := HL.out.under b4
  clear s1 s2 s3 b1 b2 b3
  generalize ((((w.alloc (.cells #[.int .i64 n.K, .int .u64 n.a, .int .u64 n.b, .int .u64 n.c, .int .u64 n.d, .slice a kids.length cap, .int .i64 n.L, .int .i64 n.H] 28)).alloc (.cells #[.int .i64 0] 3)).alloc (.cells #[.int .i64 n.K, .int .u64 n.a, .int .u64 n.b, .int .u64 n.c, .int .u64 n.d, .slice a kids.length cap, .int .i64 n.L, .int .i64 n.H] 28)).alloc (.cells #[.slice none 0 0] 56)) = W0 at *
  have hn0 : w.heap.size ≤ W0.heap.size := b4.size
  have hseq := each_stops w.heap.size _ _ (sizeL kids + 1) (.slice none 0 0) nocut n kids a cap W0 hL1 hn0 x1 l1 (.inl ⟨rfl, rfl⟩) (by have := pre_len nocut (.mk n kids); rw [size_mk] at this; exact this)
  have hfin : ∀ ys : List It, ys.map It.plain = pre nocut (.mk n kids) → ys.length = sizeL kids + 1 := fun ys h => by
    have := congrArg List.length h
    rw [List.length_map, pre_size, size_mk] at this; exact this
  have HFIN := Lib.hid hfin; have HX := Lib.hid x1
  clear hfin x1 l1 hL1
  rw [← HB.out] at n1 s4 ⊢
  rw [← HB.out] at hseq
  have HS4 := Lib.hid s4; clear s4
  have hBw : w.heap.size ≤ B + 1 := by rw [HB.out]; omega
  refine wpIn_rangeFunc_ownG rfl h1 (gf := 42) (lb := #[.pointer (some ⟨B + 1 + 1 + 1, 0, none⟩), .pointer (some ⟨B + 1 + 1, 0, none⟩)]) rfl trivial (enters_of Tryd.func42 (by kernel_rfl) rfl)
    hseq Keeps.trans (keeps_b (by rw [HB.out]; exact hn0)) (Below.refl _ _) (fun _ => rfl)
    (fun (ys : List It) W => Boxed W (B + 1) 3 (.int .i64 (wrap64 (ys.length : Int))) ∧ Below w.heap.size w W)
    (fun _ _ _ => False)
    (OwnFrom.and (boxed_from (B + 1) 3 (fun ys : List It => .int .i64 (wrap64 (ys.length : Int)))) (ownFrom_below (Nat.le_refl _) hn0))
    (fun _ _ _ _ _ hs _ _ => hs)
    ⟨by rw [show wrap64 ((([] : List It).length : Nat) : Int) = 0 by simp [wrap64]]; exact n1, b4⟩
    (fun x => { tmps := #[NV n (.slice a kids.length cap), .pointer (some ⟨B, 0, none⟩), .int .i64 0, .pointer (some ⟨B + 1, 0, none⟩), NV n (.slice a kids.length cap), .func (.func 42) #[] #[.pointer (some ⟨B + 1 + 1 + 1, 0, none⟩), .pointer (some ⟨B + 1 + 1, 0, none⟩)], NV x.nd (.slice x.ad x.len x.cap), undef, undef, undef], defers := [] }) ?assign ?body ?done ?stop
  case assign =>
    intro l x W K hK
    unfold encs
    gi_wp2
    simp
    exact hK
  case body =>
    rintro l pr x W ⟨hv, hb⟩ hlt
    have hc := hv.cell
    have hf := hv.frozen
    have HV := Lib.hid hv; have HB2 := Lib.hid hb
    clear hv hb
    have HW := Lib.hid (wrap_step pr.length)
    gi_wp2
    rw [HW.out]
    refine ⟨(KeepsOthers.setCell _ _ _).from _, keeps_set HV.out (by omega) (by decide) _, ?_, HB2.out.setCell (p := ⟨B + 1, 0, none⟩) hBw _⟩
    rw [List.length_append]
    exact HV.out.set _
  case done =>
    rintro D ys W hD hys ⟨hv, hb⟩ hK
    have hc := hv.cell
    have HY := Lib.hid (HFIN.out ys hys)
    gi_wp2
    refine ⟨by simp, .inl ⟨_, _, rfl, run_takeDeferred hK, ?_⟩⟩
    exact ⟨_, results_tmp rfl _ _ _, by rw [HY.out]; rfl, hb.trans (belowK_b (w := w) (Nat.le_refl _) W D _ _ (by omega) hK rfl rfl)⟩
  case stop =>
    rintro D c pr W _ _ h _
    exact h.elim
theorem Size_any (n : Nd) (kids : List Tr) (a : Option Addr) (cap : Nat) (w : World) (hL : Lies 0 w.heap.size w (.slice a kids.length cap) kids) :
    Calls Tryd.prog 9 #[NV n (.slice a kids.length cap)] w fun e W' => e = .returned (.int .i64 (wrap64 ((sizeL kids + 1 : Nat) : Int))) ∧ Below w.heap.size w W' :=
  callsIn_wide.1 (Size_in n kids a cap w hL)
end Go.Proofs.YtogdjgfgmdphgaaDoor.TreeW
