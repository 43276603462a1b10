/- Walks: Leaves, by the sequence. -/
import Derived.Test.YtogdjgfgmdphgaaDoorRight
import Derived.Test.YtogdjgfgmdphgaaDoorLeaf
namespace Go.Proofs.YtogdjgfgmdphgaaDoor.TreeW
set_option linter.unusedVariables false
open Go.RowKit Go.Shelf Go.Proofs.YtogdjgfgmdphgaaDoor.TreeM
attribute [local go_sem] Oper.semAt_some
/-- The sets that have come up. -/
def lsOf (ys : List It) : List Q := (ys.map It.plain).flatMap leafOf
theorem lsOf_snoc (ys : List It) (x : It) : lsOf (ys ++ [x]) = lsOf ys ++ (if x.nd.K = 3 then [x.nd.q] else []) := by
  unfold lsOf; rw [List.map_append, List.flatMap_append]; simp [It.plain, leafOf]
theorem lsOf_len (ys : List It) : (lsOf ys).length ≤ ys.length := by
  induction ys with
  | nil => simp [lsOf]
  | cons x ys ih =>
    have e : lsOf (x :: ys) = leafOf x.plain ++ lsOf ys := by simp [lsOf]
    rw [e, List.length_append, List.length_cons]
    have : (leafOf x.plain).length ≤ 1 := by unfold leafOf; split <;> simp
    omega
/-- Between two rounds. -/
def LI (w : World) (B : Nat) (ys : List It) (W : World) : Prop := (∃ v, Boxed W (B + 1) 33 v ∧ W.ownsRow w.heap.size 25 4 v (lsOf ys).length ((lsOf ys).flatMap qc) ∧ True) ∧ Below w.heap.size w W
theorem LI_own {w : World} {B M : Nat} (hM : w.heap.size ≤ M) : OwnFrom M (LI w B) :=
  OwnFrom.and (Own.from (holdsRow_own w.heap.size (B + 1) 33 25 4 (fun ys : List It => (lsOf ys).length) (fun ys => (lsOf ys).flatMap qc) (fun _ _ => True)) _) (ownFrom_below (Nat.le_refl _) hM)
theorem keeps_appended {n₀ base b : Nat} {W w1 : World} {tmp : Obj} {v v' : Value} {n : Nat} {xs : List Value} (hrow : W.ownsRow base 25 4 v n xs) (hn : n₀ ≤ W.heap.size) (hg0 : n₀ ≤ base) (hg : (W.alloc tmp).grownBy w1 v.ownBlock) (hv1 : Boxed w1 b 33 v) (hb : n₀ ≤ b) :
    Keeps n₀ W (w1.setCell ⟨b, 0, none⟩ v') := by
  have hob : ∀ k, v.ownBlock = some k → n₀ ≤ k ∧ ∃ c z, W.heap[k]? = some (.cells c 25 z) := fun k hk => by
    rcases hrow.2 with ⟨rfl, _⟩ | ⟨g, cp, cur, rfl, hg, hh, _⟩
    · simp [Value.ownBlock] at hk
    · simp [Value.ownBlock] at hk; subst hk; exact ⟨by omega, cur, _, hh⟩
  have hk1 : Keeps n₀ W w1 := by
    have hsz : W.heap.size ≤ w1.heap.size := by have := hg.size; simp at this; omega
    refine ⟨((Below.refl n₀ W).alloc hn tmp).grown hg (by simp; omega) (fun k e => (hob k e).1), hsz, fun k c t z ht hk => ?_⟩
    have hlt := (Array.getElem?_eq_some_iff.1 hk).1
    have hne : some k ≠ v.ownBlock := fun e => by
      obtain ⟨_, c', z', h'⟩ := hob k e.symm
      rw [hk] at h'
      cases h'
      rcases ht with e | e | e | e <;> cases e
    exact (hg.block k (by simp; omega) hne).trans ((Below.heap_alloc W tmp k hlt).trans hk)
  exact hk1.trans (keeps_set hv1 hb (by decide) v')
theorem four_new (W : World) (x : Nd) (j : Nat) (u : Value) (h : [Value.int .u64 x.a, .int .u64 x.b, .int .u64 x.c, .int .u64 x.d][j]? = some u) : (W.alloc (.cells #[.int .u64 x.a, .int .u64 x.b, .int .u64 x.c, .int .u64 x.d] 25)).cell? ((⟨W.heap.size, 0, none⟩ : Addr).add j) = some u := by
  rw [addr_add', Nat.zero_add, World.cell?_alloc_new]; simpa using h
set_option maxRecDepth 100000 in
set_option maxHeartbeats 4000000 in
theorem Leaves_in (n : Nd) (kids : List Tr) (a : Option Addr) (cap : Nat) (w : World) (hbig : sizeL kids + 1 ≤ 1048576) (hL : Lies 0 w.heap.size w (.slice a kids.length cap) kids) :
    CallsIn Fence.wide 10 Tryd.prog 13 #[NV n (.slice a kids.length cap)] w (LeafPost (leaves (.mk n kids)) w) := by
  have HE := Lib.hid (fun b W => each_any n a kids.length cap (.slice (some ⟨b, 0, none⟩) 1 1) W (.inr ⟨b, rfl⟩))
  have HL := Lib.hid hL; clear hL
  obtain ⟨i0, hi, hz0, hz1, hz2⟩ := info_parts' infoSet
  have h1 : 1 ≤ 10 := by decide
  refine callsIn_of_wp_marks Tryd.func13 rfl trivial ?_ rfl
  simp only [Tryd.ntmps13, List.size_toArray, List.length_cons, List.length_nil, Nat.reduceAdd, Nat.reduceSub, Array.replicate_succ, Array.replicate_zero, List.push_toArray, List.append_toArray, List.nil_append, List.cons_append]
  gi_wp2_with (refine ⟨trivial, ?_⟩; gi_at_call 32; refine (callsIn_wide.2 (HE.out _ _)).mono ?_; rintro e w2 ⟨rfl, rfl⟩)
  obtain ⟨B, hB⟩ : ∃ B, B = w.heap.size := ⟨_, rfl⟩
  have HB := Lib.hid hB; clear hB
  have b1 := (Below.refl w.heap.size w).alloc (Nat.le_refl _) (.cells #[.int .i64 n.K, .int .u64 n.a, .int .u64 n.b, .int .u64 n.c, .int .u64 n.d, .slice a kids.length cap, .int .i64 n.L, .int .i64 n.H] 28)
  have b2 := b1.alloc (by simp) (.cells #[.slice none 0 0] 33)
  have b3 := b2.alloc (by simp; omega) (.cells #[.int .i64 3] 22)
  have b4 := b3.alloc (by simp; omega) (.cells #[.int .i64 n.K, .int .u64 n.a, .int .u64 n.b, .int .u64 n.c, .int .u64 n.d, .slice a kids.length cap, .int .i64 n.L, .int .i64 n.H] 28)
  have b5 := b4.alloc (by simp; omega) (.cells #[.slice (some ⟨w.heap.size + 1 + 1, 0, none⟩) 1 1] 56)
  have s1 : (w.alloc (.cells #[.int .i64 n.K, .int .u64 n.a, .int .u64 n.b, .int .u64 n.c, .int .u64 n.d, .slice a kids.length cap, .int .i64 n.L, .int .i64 n.H] 28)).heap.size = w.heap.size + 1 := by simp
  have s2 : ((w.alloc (.cells #[.int .i64 n.K, .int .u64 n.a, .int .u64 n.b, .int .u64 n.c, .int .u64 n.d, .slice a kids.length cap, .int .i64 n.L, .int .i64 n.H] 28)).alloc (.cells #[.slice none 0 0] 33)).heap.size = w.heap.size + 1 + 1 := by simp
  have s3 : (((w.alloc (.cells #[.int .i64 n.K, .int .u64 n.a, .int .u64 n.b, .int .u64 n.c, .int .u64 n.d, .slice a kids.length cap, .int .i64 n.L, .int .i64 n.H] 28)).alloc (.cells #[.slice none 0 0] 33)).alloc (.cells #[.int .i64 3] 22)).heap.size = w.heap.size + 1 + 1 + 1 := by simp
  have s4 : ((((w.alloc (.cells #[.int .i64 n.K, .int .u64 n.a, .int .u64 n.b, .int .u64 n.c, .int .u64 n.d, .slice a kids.length cap, .int .i64 n.L, .int .i64 n.H] 28)).alloc (.cells #[.slice none 0 0] 33)).alloc (.cells #[.int .i64 3] 22)).alloc (.cells #[.int .i64 n.K, .int .u64 n.a, .int .u64 n.b, .int .u64 n.c, .int .u64 n.d, .slice a kids.length cap, .int .i64 n.L, .int .i64 n.H] 28)).heap.size = w.heap.size + 1 + 1 + 1 + 1 := by simp
  have n1 := (((Boxed.new (w.alloc (.cells #[.int .i64 n.K, .int .u64 n.a, .int .u64 n.b, .int .u64 n.c, .int .u64 n.d, .slice a kids.length cap, .int .i64 n.L, .int .i64 n.H] 28)) 33 (.slice none 0 0)).alloc (.cells #[.int .i64 3] 22)).alloc (.cells #[.int .i64 n.K, .int .u64 n.a, .int .u64 n.b, .int .u64 n.c, .int .u64 n.d, .slice a kids.length cap, .int .i64 n.L, .int .i64 n.H] 28)).alloc (.cells #[.slice (some ⟨w.heap.size + 1 + 1, 0, none⟩) 1 1] 56)
  have k1 : (((((w.alloc (.cells #[.int .i64 n.K, .int .u64 n.a, .int .u64 n.b, .int .u64 n.c, .int .u64 n.d, .slice a kids.length cap, .int .i64 n.L, .int .i64 n.H] 28)).alloc (.cells #[.slice none 0 0] 33)).alloc (.cells #[.int .i64 3] 22)).alloc (.cells #[.int .i64 n.K, .int .u64 n.a, .int .u64 n.b, .int .u64 n.c, .int .u64 n.d, .slice a kids.length cap, .int .i64 n.L, .int .i64 n.H] 28)).alloc (.cells #[.slice (some ⟨w.heap.size + 1 + 1, 0, none⟩) 1 1] 56)).heap[w.heap.size + 1 + 1]? = some (.cells #[.int .i64 3] 22 (0, 0)) := by
    have h0 := World.alloc_heap_new ((w.alloc (.cells #[.int .i64 n.K, .int .u64 n.a, .int .u64 n.b, .int .u64 n.c, .int .u64 n.d, .slice a kids.length cap, .int .i64 n.L, .int .i64 n.H] 28)).alloc (.cells #[.slice none 0 0] 33)) (.cells #[.int .i64 3] 22)
    rw [s2] at h0
    exact (Below.heap_alloc _ _ _ (by simp)).trans ((Below.heap_alloc _ _ _ (by simp)).trans h0)
  have x1 := (NodeAt.new (((w.alloc (.cells #[.int .i64 n.K, .int .u64 n.a, .int .u64 n.b, .int .u64 n.c, .int .u64 n.d, .slice a kids.length cap, .int .i64 n.L, .int .i64 n.H] 28)).alloc (.cells #[.slice none 0 0] 33)).alloc (.cells #[.int .i64 3] 22)) n (.slice a kids.length cap) 28).below (by simp) ((Below.refl _ _).alloc (Nat.le_refl _) (.cells #[.slice (some ⟨w.heap.size + 1 + 1, 0, none⟩) 1 1] 56))
  have l1 := Boxed.new ((((w.alloc (.cells #[.int .i64 n.K, .int .u64 n.a, .int .u64 n.b, .int .u64 n.c, .int .u64 n.d, .slice a kids.length cap, .int .i64 n.L, .int .i64 n.H] 28)).alloc (.cells #[.slice none 0 0] 33)).alloc (.cells #[.int .i64 3] 22)).alloc (.cells #[.int .i64 n.K, .int .u64 n.a, .int .u64 n.b, .int .u64 n.c, .int .u64 n.d, .slice a kids.length cap, .int .i64 n.L, .int .i64 n.H] 28)) 56 (.slice (some ⟨w.heap.size + 1 + 1, 0, none⟩) 1 1)
  rw [s1] at n1
  rw [s3] at x1
  rw [s4] at l1
  have hL1 := HL.out.under b5
  clear s1 s2 s3 s4 b1 b2 b3 b4
  generalize (((((w.alloc (.cells #[.int .i64 n.K, .int .u64 n.a, .int .u64 n.b, .int .u64 n.c, .int .u64 n.d, .slice a kids.length cap, .int .i64 n.L, .int .i64 n.H] 28)).alloc (.cells #[.slice none 0 0] 33)).alloc (.cells #[.int .i64 3] 22)).alloc (.cells #[.int .i64 n.K, .int .u64 n.a, .int .u64 n.b, .int .u64 n.c, .int .u64 n.d, .slice a kids.length cap, .int .i64 n.L, .int .i64 n.H] 28)).alloc (.cells #[.slice (some ⟨w.heap.size + 1 + 1, 0, none⟩) 1 1] 56)) = W0 at *
  have hn0 : w.heap.size ≤ W0.heap.size := b5.size
  have hseq := each_stops w.heap.size _ _ (sizeL kids + 1) (.slice (some ⟨w.heap.size + 1 + 1, 0, none⟩) 1 1) cutSet n kids a cap W0 hL1 hn0 x1 l1 (.inr ⟨_, _, rfl, k1, rfl⟩) (by have := pre_len cutSet (.mk n kids); rw [size_mk] at this; exact this)
  have hfin : ∀ ys : List It, ys.map It.plain = pre cutSet (.mk n kids) → lsOf ys = leaves (.mk n kids) := fun ys h => by
    unfold lsOf; rw [h, leaves_pre]
  have HFIN := Lib.hid hfin
  clear hfin x1 l1 hL1 k1
  rw [← HB.out] at n1 ⊢
  rw [← HB.out] at hseq
  have hBw : w.heap.size ≤ B + 1 := by rw [HB.out]; omega
  have hI0 : LI w B [] W0 := ⟨⟨_, n1, ⟨rfl, .inl ⟨rfl, rfl⟩⟩, trivial⟩, b5⟩
  have HI0 := Lib.hid hI0; have HN1 := Lib.hid n1
  clear hI0 n1
  refine wpIn_rangeFunc_ownH rfl h1 (gf := 42) (lb := #[.pointer (some ⟨B + 1 + 1 + 1 + 1, 0, none⟩), .pointer (some ⟨B + 1 + 1 + 1, 0, none⟩)]) rfl trivial (enters_of Tryd.func42 (by kernel_rfl) rfl)
    hseq Keeps.trans (keeps_b (by rw [HB.out]; exact hn0)) (Below.refl _ _) (fun _ => rfl)
    (LI w B) (fun _ _ _ => False) (LI_own hn0) (fun _ _ _ _ _ hs _ _ => hs) HI0.out
    (fun x a' W => ∃ P, a' = { tmps := #[NV n (.slice a kids.length cap), .pointer (some ⟨B, 0, none⟩), .slice none 0 0, .pointer (some ⟨B + 1, 0, none⟩), .pointer (some ⟨P, 0, none⟩), NV n (.slice a kids.length cap), .slice (some ⟨B + 1 + 1, 0, none⟩) 1 1, .func (.func 42) #[] #[.pointer (some ⟨B + 1 + 1 + 1 + 1, 0, none⟩), .pointer (some ⟨B + 1 + 1 + 1, 0, none⟩)], NV x.nd (.slice x.ad x.len x.cap), undef, undef, undef, undef, undef, undef, undef, undef, undef], defers := [] } ∧ Fresh P x W ∧ B + 1 < P) ?own ?assign ?body ?done ?stop
  case own =>
    intro x a'
    rintro _ X Y row ⟨P, h1, h2, h3⟩ hg hr
    exact ⟨P, h1, fresh_own P x () X Y row h2 hg hr, h3⟩
  case assign =>
    intro l pr x W K hI hK
    have hlt : B + 1 < W.heap.size := by
      obtain ⟨⟨v, hv, _⟩, _⟩ := hI
      exact hv.lt
    have hI2 := (LI_own hn0).alloc (.cells #[.int .i64 x.nd.K, .int .u64 x.nd.a, .int .u64 x.nd.b, .int .u64 x.nd.c, .int .u64 x.nd.d, .slice x.ad x.len x.cap, .int .i64 x.nd.L, .int .i64 x.nd.H] 28) hI
    have HK := Lib.hid hK; have HI2 := Lib.hid hI2; have HLT := Lib.hid hlt
    have hbw := hI.2.size
    clear hK hI2 hlt
    unfold encs
    gi_wp2
    exact HK.out _ _ (keepsFrom_alloc _ _ _) (Keeps.grown (World.grownBy_alloc _ _ _) (by rw [HB.out]; exact hbw)) HI2.out ⟨_, rfl, World.alloc_heap_new _ _, HLT.out⟩
  case body =>
    rintro l pr x a' W hl hrec ⟨⟨v, hv, hrow, _⟩, hb⟩ ⟨P, rfl, hP, hPl⟩ hlt
    have hn := hP.node
    have hpl := lsOf_len pr
    have hsn := lsOf_snoc pr x
    have hsz := hb.size
    by_cases hk3 : x.nd.K = 3
    · have t3 : (x.nd.K == 3) = true := by simpa using hk3
      rw [if_pos hk3] at hsn
      have HSN := Lib.hid hsn
      generalize hls : lsOf pr = ls at *
      have d0 := hn.c0; have d1 := hn.c1; have d2 := hn.c2; have d3 := hn.c3; have d4 := hn.c4
      have hc := hv.cell
      have HV := Lib.hid hv; have HROW := Lib.hid hrow; have HB2 := Lib.hid hb
      clear hls hk3 hsn hn hP hb
      gi_wp2_with (gi_at_builtin; refine wpListIn_append_own _ rfl _ _ 33 rfl w.heap.size 25 i0 _ 4 32 Tryd.underlying33 hi hz0 hz1 hz2 rfl (by decide) _ _ _ rfl (HROW.out.alloc _) ⟨W.heap.size, 0, none⟩ 1 1 [.int .u64 x.nd.a, .int .u64 x.nd.b, .int .u64 x.nd.c, .int .u64 x.nd.d] rfl rfl (four_new W x.nd) (by simp [Value.oneCell']) (by unfold maxLen; omega) (by omega) (by simp; omega) ?_; intro v' w1 hown' hgrow _; obtain ⟨g', cap', rfl⟩ := ownsRow_succ hown'; obtain ⟨hv1, hv2, hr2, hk2, hb2⟩ := HV.out.appended (by decide) HROW.out hsz hBw hown' hgrow; have hc1 := hv1.cell; have hf1 := hv1.frozen)
      refine ⟨hk2.from _, keeps_appended HROW.out (by rw [HB.out]; exact hsz) (by rw [HB.out]; exact Nat.le_refl _) hgrow hv1 (Nat.le_succ _), ⟨_, hv2, ?_, trivial⟩, HB2.out.trans hb2⟩
      rw [HSN.out, List.length_append, List.flatMap_append]
      exact hr2
    · have t3 : (x.nd.K == 3) = false := by simpa using hk3
      rw [if_neg hk3, List.append_nil] at hsn
      have HSN := Lib.hid hsn
      have d0 := hn.c0
      have HV := Lib.hid hv; have HROW := Lib.hid hrow; have HB2 := Lib.hid hb
      clear hk3 hsn hn hP hb hv hrow
      gi_wp2
      exact ⟨KeepsFrom.refl _ _, Keeps.refl _ _, ⟨v, HV.out, by rw [HSN.out]; exact HROW.out, trivial⟩, HB2.out⟩
  case done =>
    rintro D ys W hD hys ⟨⟨v, hv, hrow, _⟩, hb⟩ hK
    have hc := hv.cell
    have HY := Lib.hid (HFIN.out ys hys)
    gi_wp2
    refine ⟨by simp, .inl ⟨_, _, rfl, run_takeDeferred hK, ?_⟩⟩
    refine ⟨_, results_tmp rfl _ _ _, v, rfl, ?_, hb.trans (belowK_b (w := w) (Nat.le_refl _) W D _ _ (by omega) hK rfl rfl)⟩
    rw [← HY.out]
    exact ownsRow_putObj hrow _ hK rfl
  case stop =>
    rintro D c pr W _ _ h _
    exact h.elim
theorem Leaves_any (n : Nd) (kids : List Tr) (a : Option Addr) (cap : Nat) (w : World) (hbig : sizeL kids + 1 ≤ 1048576) (hL : Lies 0 w.heap.size w (.slice a kids.length cap) kids) :
    Calls Tryd.prog 13 #[NV n (.slice a kids.length cap)] w (LeafPost (leaves (.mk n kids)) w) := callsIn_wide.1 (Leaves_in n kids a cap w hbig hL)
end Go.Proofs.YtogdjgfgmdphgaaDoor.TreeW
