/- Walks of Rounds, Blocks. -/
import Derived.Test.YtfhddbjojpmbcaaAfterQ
namespace Go.Proofs.Ytfhddbjojpmbcaa.DfaW
set_option linter.unusedVariables false
set_option linter.unusedSimpArgs false
open Go.RowKit Go.Maps Go.Shelf Go.Proofs.Ytfhddbjojpmbcaa.PartM Go.Proofs.Ytfhddbjojpmbcaa.PartW
attribute [local go_sem] Oper.semAt_some
/-- How many have come. -/
structure CntI (w : World) (pre : List Value) (W : World) : Prop where
  cnt : Boxed W (w.heap.size + 1) 3 (.int .i64 (pre.length : Nat))
  below : Below w.heap.size w W
theorem CntI.own {w : World} {B : Nat} (hB : w.heap.size ≤ B) : OwnFrom B (CntI w) := fun s X Y row h hg hr =>
  ⟨far_boxed hg hr h.cnt, far_below hg hr hB (Nat.le_refl _) h.below⟩
theorem CntM.own {w : World} {B : Nat} {pre : List Value} {p : Prop} (hB : w.heap.size ≤ B) : OwnFrom B (fun (_ : Unit) W => p ∧ CntI w pre W) := fun s X Y row h hg hr =>
  ⟨h.1, far_boxed hg hr h.2.cnt, far_below hg hr hB (Nat.le_refl _) h.2.below⟩
set_option maxRecDepth 100000 in
set_option maxHeartbeats 4000000 in
theorem Rounds_in (n : Nat) (hn : 3 ≤ n) {C : Array Value} {m : Mc} (w : World) (hM : IsM w.heap.size w C m) :
    CallsIn Fence.wide n Try.prog 10 #[.agg C] w fun e w' => e = .returned (.int .i64 (rndV m)) ∧ Below w.heap.size w w' := by
  have h1 : 1 ≤ n := by omega
  have hx := (Bx.new hM).alloc (.cells #[.int .i64 0] 3)
  have HX := Lib.hid hx; have HM := Lib.hid hM
  clear hM hx
  refine callsIn_of_wp_marks Try.func10 rfl trivial ?_ rfl
  simp only [Try.ntmps10, List.size_toArray, List.length_cons, List.length_nil, Nat.reduceAdd, Nat.reduceSub, Array.replicate_succ, Array.replicate_zero, List.push_toArray, List.append_toArray, List.nil_append, List.cons_append]
  gi_wp2_with (first | (refine wpListIn_load_dfa rfl (.tmp 1) rfl rfl HX.out ?_) | (refine ⟨trivial, ?_⟩; gi_at_call 24; refine (callsIn_wide.2 (rounds_any _)).mono ?_; rintro e w2 ⟨rfl, rfl⟩))
  have s1 : (w.alloc (.cells C 27)).heap.size = w.heap.size + 1 := by simp
  have s2 : ((w.alloc (.cells C 27)).alloc (.cells #[.int .i64 0] 3)).heap.size = w.heap.size + 1 + 1 := by simp
  have b1 := (Boxed.new (w.alloc (.cells C 27)) 3 (.int .i64 0)).alloc (.cells C 27)
  have a3 := Ar.new ((w.alloc (.cells C 27)).alloc (.cells #[.int .i64 0] 3)) C 27
  have hb0 : Below w.heap.size w (((w.alloc (.cells C 27)).alloc (.cells #[.int .i64 0] 3)).alloc (.cells C 27)) := (((Below.refl _ w).alloc (Nat.le_refl _) _).alloc (by omega) _).alloc (by omega) _
  rw [s1] at b1
  rw [s2] at a3
  generalize ((w.alloc (.cells C 27)).alloc (.cells #[.int .i64 0] 3)).alloc (.cells C 27) = W0 at *
  have hseq := rounds1_tells (n := n - 1) (by omega) W0 (⟨a3, HM.out.below hb0, hb0.size⟩ : Mb w.heap.size (w.heap.size + 1 + 1) C m W0)
  have hI0 : CntI w [] W0 := ⟨b1, hb0⟩
  have HI0 := Lib.hid hI0; have HB0 := Lib.hid hb0
  clear s1 s2 b1 a3 hI0 hb0 HX
  have hT : tellsN m ≤ 65537 := by
    by_cases hok : Ok m
    · rw [tells_yes hok]; have := (rndN_spec hok).2.2; have := hok.lbs.2.1; omega
    · rw [tells_no hok]; omega
  obtain ⟨N, hN⟩ : ∃ N, N = w.heap.size := ⟨_, rfl⟩
  have HN := Lib.hid hN
  have hsz := HB0.out.size
  rw [← hN] at hseq hsz ⊢
  clear hN
  refine range_tells rfl h1 (gf := 38) (lb := #[.pointer (some ⟨N + 1 + 1, 0, none⟩)]) rfl trivial (enters_of Try.func38 (by kernel_rfl) rfl)
    hseq (Below.refl _ _) (fun _ => rfl) Kpt.trans (fun W l r r' hl h => Kpt.put hsz W l r r' hl h)
    (CntI w) (fun _ _ _ => False) (CntI.own (by rw [← HN.out]; exact hsz)) (fun _ _ _ _ _ hs _ _ => hs) HI0.out
    (fun pre x a' W => a' = { tmps := #[.agg C, .pointer (some ⟨N, 0, none⟩), .int .i64 0, .pointer (some ⟨N + 1, 0, none⟩), .agg C, .func (.func 38) #[] #[.pointer (some ⟨N + 1 + 1, 0, none⟩)], x, undef, undef, undef, undef], defers := [] } ∧ CntI w pre W)
    (fun pre x a' => CntM.own (by rw [← HN.out]; exact hsz)) ?assign ?body ?done ?stop
  case assign =>
    rintro l pre x W hI hlt ⟨hO, hok⟩
    obtain ⟨xa, xn, xc, rfl⟩ : ∃ a n c, x = .slice a n c := by obtain ⟨a, c, e, _⟩ := hO.len; exact ⟨a, _, c, e⟩
    have HI := Lib.hid hI
    clear hI hO hok
    gi_wp2
    exact ⟨(KeepsOthers.refl _).from _, Kpt.refl _ _ _, (by simp), HI.out⟩
  case body =>
    rintro l pre x a' W ⟨rfl, hm⟩ hlt
    have hcn := hm.cnt
    rw [← HN.out] at hcn
    have hc := hcn.cell; have hf := hcn.frozen
    obtain ⟨q, hq⟩ : ∃ q, q = pre.length := ⟨_, rfl⟩
    have HQ := Lib.hid hq
    rw [← hq] at hc hcn hlt
    have hqi : (q : Int) ≤ 65537 := by omega
    have HMM := Lib.hid hm; have HCN := Lib.hid hcn
    clear hm hcn hq
    gi_wp2
    have e := HN.out
    refine ⟨(KeepsOthers.setCell _ _ _).from _, Kpt.set (by omega) (by omega) _ _, ?_, ?_⟩
    · rw [← e]
      have h := HCN.out.set (.int .i64 ((q : Int) + 1))
      rw [List.length_append, ← HQ.out]
      exact h
    · rw [← e]; have h := HMM.out.below; rw [← e] at h; exact below_set h (by omega)
  case done =>
    rintro D xs W hD hT' hI hK
    have hcn := hI.cnt
    rw [hT', ← HN.out] at hcn
    have hc := hcn.cell
    have HR := Lib.hid (show ((tellsN m : Nat) : Int) - 1 = rndV m by
      by_cases hok : Ok m
      · rw [tells_yes hok, (moo_yes hok).2.2]; omega
      · rw [tells_no hok, (moo_no hok).2.2]; rfl)
    have HI := Lib.hid hI
    obtain ⟨t, ht⟩ : ∃ t, t = tellsN m := ⟨_, rfl⟩
    rw [← ht] at hT hc HR
    have hti : (t : Int) ≤ 65537 := by omega
    clear hI hcn ht hT'
    gi_wp2
    refine ⟨by simp, .inl ⟨_, _, rfl, run_takeDeferred hK, ?_⟩⟩
    refine ⟨_, results_tmp rfl _ _ _, by rw [← HR.out]; rfl, ?_⟩
    exact HI.out.below.trans (belowK_b (w := w) (Nat.le_refl _) W D _ _ (Nat.le_trans HB0.out.size hD) hK rfl rfl)
  case stop =>
    rintro D c pre W _ h _
    exact h.elim
theorem mooRounds_any : RoundsC 10 := fun w hM => callsIn_wide.1 (Rounds_in 3 (by decide) w hM)
set_option maxHeartbeats 1000000 in
theorem mooBlocks_any : BlocksC 8 := fun {C m} w hM => by
  have hx := Bx.new hM
  obtain ⟨a1, a2, a3, c1, c2, c3, k1, k2, k3⟩ := hM.slices
  obtain ⟨a2', c2', he, _, hml, _⟩ := (hx.lbv k2).2.open
  simp only [Value.slice.injEq] at he
  obtain ⟨rfl, _, rfl⟩ := he
  have y1 := (hx.lbv k2).1
  have hb0 : Below w.heap.size w (w.alloc (.cells C 27)) := (Below.refl _ _).alloc (Nat.le_refl _) _
  have hM1 := hM.next hb0
  have hwf : (Lit.int .i64 (m.lb.length : Nat)).wf = true := wf_of (by omega) (by unfold maxLen at hml; omega)
  have hE : aftV m (m.lb.length : Nat) = blkV m := by
    by_cases hok : Ok m
    · rw [(moo_yes hok).1, (moo_yes hok).2.1]; rfl
    · rw [(moo_no hok).1, (moo_no hok).2.1]
  obtain ⟨n, hn⟩ : ∃ n, n = m.lb.length := ⟨_, rfl⟩
  rw [← hn] at y1 hwf hE
  have HX := Lib.hid hx; have HB0 := Lib.hid hb0; have HM1 := Lib.hid hM1; have HWF := Lib.hid hwf; have HE := Lib.hid hE
  clear hx hb0 hM1 hwf hE hM k1 k2 k3 hn hml
  go_enter Try.func8, Try.ntmps8
  go_wp2_with (refine wpList_load_dfa rfl (.tmp 1) rfl rfl HX.out ?_)
  refine (mooAfter_any _ (n : Nat) HWF.out HM1.out).mono ?_
  rintro e w2 ⟨v', rfl, ho, hb⟩
  have HO := Lib.hid ho; have HB := Lib.hid hb
  clear ho hb
  go_wp2_with fail
  go_ret
  exact ⟨_, rfl, by rw [← HE.out]; exact owns_base HO.out HB0.out.size, HB0.out.trans (HB.out.mono HB0.out.size)⟩
end Go.Proofs.Ytfhddbjojpmbcaa.DfaW
