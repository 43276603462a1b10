/- Walk of After. -/
import Derived.Test.YtfhddbjojpmbcaaSeqM
namespace Go.Proofs.Ytfhddbjojpmbcaa.DfaW
set_option linter.unusedVariables false
set_option linter.unusedSimpArgs false
open Go.RowKit Go.Maps Go.Shelf Go.Proofs.Ytfhddbjojpmbcaa.PartM Go.Proofs.Ytfhddbjojpmbcaa.PartW
attribute [local go_sem] Oper.semAt_some
/-- The block that has come last. -/
def curN (m : Mc) : Nat → List Int
  | 0 => []
  | j + 1 => aftN m j
/-- Between two rounds. -/
structure AftI (w : World) (m : Mc) (k : Int) (pre : List Value) (W : World) : Prop where
  box : ∃ v, Boxed W (w.heap.size + 1 + 1) 24 v ∧ OI W (w.heap.size + 1 + 1 + 1) v (curN m pre.length)
  cnt : Boxed W (w.heap.size + 1) 3 (.int .i64 (k - pre.length))
  le : pre.length = 0 ∨ (pre.length ≤ k.toNat ∧ Ok m)
  below : Below w.heap.size w W
/-- Behind the assignment. -/
structure AftM (w : World) (m : Mc) (k : Int) (pre : List Value) (x : Value) (W : World) : Prop where
  box : Boxed W (w.heap.size + 1 + 1) 24 x
  oi : OI W (w.heap.size + 1 + 1 + 1) x (aftN m pre.length)
  cnt : Boxed W (w.heap.size + 1) 3 (.int .i64 (k - pre.length))
  le : pre.length = 0 ∨ pre.length ≤ k.toNat
  ok : Ok m
  below : Below w.heap.size w W
/-- Behind a break. -/
structure AftX (w : World) (m : Mc) (k : Int) (W : World) : Prop where
  box : ∃ v, Boxed W (w.heap.size + 1 + 1) 24 v ∧ OI W (w.heap.size + 1 + 1 + 1) v (aftN m k.toNat)
  ok : Ok m
  below : Below w.heap.size w W
section
variable {B n₀ : Nat} {X Y : World} {row : Option Nat}
theorem far_cells (hg : X.grownBy Y row) (hr : ∀ r, row = some r → B ≤ r ∧ ∃ o : Obj, X.heap[r]? = some o ∧ o.isCells = false) {k : Nat} {o : Obj} (h : X.heap[k]? = some o) (hc : o.isCells = true) : Y.heap[k]? = some o := by
  refine (hg.block k (Array.getElem?_eq_some_iff.1 h).1 fun e => ?_).trans h
  obtain ⟨_, o', h1, h2⟩ := hr k e.symm
  rw [h] at h1; cases h1; rw [hc] at h2; cases h2
theorem far_boxed (hg : X.grownBy Y row) (hr : ∀ r, row = some r → B ≤ r ∧ ∃ o : Obj, X.heap[r]? = some o ∧ o.isCells = false) {b : Nat} {t : TypeId} {v : Value} (h : Boxed X b t v) : Boxed Y b t v :=
  far_cells hg hr (show X.heap[b]? = _ from h) rfl
theorem far_oi (hg : X.grownBy Y row) (hr : ∀ r, row = some r → B ≤ r ∧ ∃ o : Obj, X.heap[r]? = some o ∧ o.isCells = false) {b : Nat} {v : Value} {l : List Int} (h : OI X b v l) : OI Y b v l :=
  own_keep h fun g hi => by
    obtain ⟨⟨cur, h1⟩, _, _⟩ := own_at h hi
    rw [h1]; exact far_cells hg hr h1 rfl
theorem far_below {w : World} (hg : X.grownBy Y row) (hr : ∀ r, row = some r → B ≤ r ∧ ∃ o : Obj, X.heap[r]? = some o ∧ o.isCells = false) (hB : n₀ ≤ B) (hw : n₀ ≤ w.heap.size) (h : Below n₀ w X) : Below n₀ w Y :=
  h.grown hg (Nat.le_trans hw h.size) fun k e => Nat.le_trans hB (hr k e).1
end
theorem AftI.own {w : World} {m : Mc} {k : Int} {B : Nat} (hB : w.heap.size ≤ B) : OwnFrom B (AftI w m k) := fun s X Y row h hg hr =>
  ⟨by obtain ⟨v, h1, h2⟩ := h.box; exact ⟨v, far_boxed hg hr h1, far_oi hg hr h2⟩, far_boxed hg hr h.cnt, h.le, far_below hg hr hB (Nat.le_refl _) h.below⟩
theorem AftM.own {w : World} {m : Mc} {k : Int} {B : Nat} {pre : List Value} {x : Value} {p : Prop} (hB : w.heap.size ≤ B) : OwnFrom B (fun (_ : Unit) W => p ∧ AftM w m k pre x W) := fun s X Y row h hg hr =>
  ⟨h.1, far_boxed hg hr h.2.box, far_oi hg hr h.2.oi, far_boxed hg hr h.2.cnt, h.2.le, h.2.ok, far_below hg hr hB (Nat.le_refl _) h.2.below⟩
theorem AftX.own {w : World} {m : Mc} {k : Int} {B : Nat} {c : Code} (hB : w.heap.size ≤ B) : OwnFrom B (fun (_ : List Value) W => c = .exit 0 ∧ AftX w m k W) := fun s X Y row h hg hr =>
  ⟨h.1, by obtain ⟨v, h1, h2⟩ := h.2.box; exact ⟨v, far_boxed hg hr h1, far_oi hg hr h2⟩, h.2.ok, far_below hg hr hB (Nat.le_refl _) h.2.below⟩
set_option maxRecDepth 100000 in
set_option maxHeartbeats 4000000 in
theorem After_in (n : Nat) (hn : 3 ≤ n) {C : Array Value} {m : Mc} (w : World) (k : Int) (hk : (Lit.int .i64 k).wf = true) (hM : IsM w.heap.size w C m) :
    CallsIn Fence.wide n Try.prog 9 #[.agg C, .int .i64 k] w fun e w' => ∃ v', e = .returned v' ∧ OI w' w.heap.size v' (aftV m k) ∧ Below w.heap.size w w' := by
  have h1 : 1 ≤ n := by omega
  have hkb := of_wf hk
  have hx := ((Bx.new hM).alloc (.cells #[.int .i64 k] 3)).alloc (.cells #[.slice none 0 0] 24)
  have HX := Lib.hid hx; have HM := Lib.hid hM
  clear hM hx hk
  refine callsIn_of_wp_marks Try.func9 rfl trivial ?_ rfl
  simp only [Try.ntmps9, List.size_toArray, List.length_cons, List.length_nil, Nat.reduceAdd, Nat.reduceSub, Array.replicate_succ, Array.replicate_zero, List.push_toArray, List.append_toArray, List.nil_append, List.cons_append]
  gi_wp2_with (first | (refine wpListIn_load_dfa rfl (.tmp 2) rfl rfl HX.out ?_) | (refine ⟨trivial, ?_⟩; gi_at_call 24; refine (callsIn_wide.2 (rounds_any _)).mono ?_; rintro e w2 ⟨rfl, rfl⟩))
  have s1 : (w.alloc (.cells C 27)).heap.size = w.heap.size + 1 := by simp
  have s2 : ((w.alloc (.cells C 27)).alloc (.cells #[.int .i64 k] 3)).heap.size = w.heap.size + 1 + 1 := by simp
  have s3 : (((w.alloc (.cells C 27)).alloc (.cells #[.int .i64 k] 3)).alloc (.cells #[.slice none 0 0] 24)).heap.size = w.heap.size + 1 + 1 + 1 := by simp
  have b1 := ((Boxed.new (w.alloc (.cells C 27)) 3 (.int .i64 k)).alloc (.cells #[.slice none 0 0] 24)).alloc (.cells C 27)
  have b2 := (Boxed.new ((w.alloc (.cells C 27)).alloc (.cells #[.int .i64 k] 3)) 24 (.slice none 0 0)).alloc (.cells C 27)
  have a3 := Ar.new (((w.alloc (.cells C 27)).alloc (.cells #[.int .i64 k] 3)).alloc (.cells #[.slice none 0 0] 24)) C 27
  have hb0 : Below w.heap.size w ((((w.alloc (.cells C 27)).alloc (.cells #[.int .i64 k] 3)).alloc (.cells #[.slice none 0 0] 24)).alloc (.cells C 27)) := ((((Below.refl _ w).alloc (Nat.le_refl _) _).alloc (by omega) _).alloc (by omega) _).alloc (by omega) _
  rw [s1] at b1
  rw [s2] at b2
  rw [s3] at a3
  generalize (((w.alloc (.cells C 27)).alloc (.cells #[.int .i64 k] 3)).alloc (.cells #[.slice none 0 0] 24)).alloc (.cells C 27) = W0 at *
  have hseq := rounds1_tells (n := n - 1) (by omega) W0 (⟨a3, HM.out.below hb0, hb0.size⟩ : Mb w.heap.size (w.heap.size + 1 + 1 + 1) C m W0)
  have hI0 : AftI w m k [] W0 := ⟨⟨_, b2, OI.nil _ _⟩, by simpa using b1, .inl rfl, hb0⟩
  have HI0 := Lib.hid hI0; have HB0 := Lib.hid hb0
  clear s1 s2 s3 b1 b2 a3 hI0 hb0 HX
  obtain ⟨N, hN⟩ : ∃ N, N = w.heap.size := ⟨_, rfl⟩
  have HN := Lib.hid hN
  have hsz := HB0.out.size
  rw [← hN] at hseq hsz ⊢
  clear hN
  refine range_tells rfl h1 (gf := 38) (lb := #[.pointer (some ⟨N + 1 + 1 + 1, 0, none⟩)]) rfl trivial (enters_of Try.func38 (by kernel_rfl) rfl)
    hseq (Below.refl _ _) (fun _ => rfl) Kpt.trans (fun W l r r' hl h => Kpt.put hsz W l r r' hl h)
    (AftI w m k) (fun c _ W => c = .exit 0 ∧ AftX w m k W) (AftI.own (by rw [← HN.out]; exact hsz)) (fun c => AftX.own (by rw [← HN.out]; exact hsz)) HI0.out
    (fun pre x a' W => a' = { tmps := #[.agg C, .int .i64 k, .pointer (some ⟨N, 0, none⟩), .pointer (some ⟨N + 1, 0, none⟩), .slice none 0 0, .pointer (some ⟨N + 1 + 1, 0, none⟩), .agg C, .func (.func 38) #[] #[.pointer (some ⟨N + 1 + 1 + 1, 0, none⟩)], x, undef, undef, undef, undef, undef], defers := [] } ∧ AftM w m k pre x W)
    (fun pre x a' => AftM.own (by rw [← HN.out]; exact hsz)) ?assign ?body ?done ?stop
  case assign =>
    rintro l pre x W hI hlt ⟨hO, hok⟩
    obtain ⟨v, hv, _⟩ := hI.box
    rw [← HN.out] at hv
    obtain ⟨xa, xn, xc, rfl⟩ : ∃ a n c, x = .slice a n c := by obtain ⟨a, c, e, _⟩ := hO.len; exact ⟨a, _, c, e⟩
    have hc := hv.cell; have hf := hv.frozen
    have HI := Lib.hid hI; have HV := Lib.hid hv; have HO := Lib.hid hO; have HOK := Lib.hid hok
    clear hI hv hO hok
    gi_wp2
    refine ⟨(KeepsOthers.setCell _ _ _).from _, Kpt.set (by omega) (by omega) _ _, trivial, ?_⟩
    have e := HN.out
    refine ⟨?_, ?_, ?_, ?_, HOK.out, ?_⟩
    · rw [← e]; exact HV.out.set _
    · rw [← e]; exact own_set HO.out (by omega)
    · rw [← e]; have h := HI.out.cnt; rw [← e] at h; exact h.other (by omega) _
    · rcases HI.out.le with h | h
      · exact .inl h
      · exact .inr h.1
    · rw [← e]; have h := HI.out.below; rw [← e] at h; exact below_set h (by omega)
  case body =>
    rintro l pre x a' W ⟨rfl, hm⟩ hlt
    have hv := hm.box; have hcn := hm.cnt
    rw [← HN.out] at hv hcn
    have hc := hv.cell; have hf := hv.frozen; have hc2 := hcn.cell; have hf2 := hcn.frozen
    obtain ⟨xa, xn, xc, rfl⟩ : ∃ a n c, x = .slice a n c := by obtain ⟨a, c, e, _⟩ := hm.oi.len; exact ⟨a, _, c, e⟩
    obtain ⟨q, hq⟩ : ∃ q, q = k - pre.length := ⟨_, rfl⟩
    have HQ := Lib.hid hq
    rw [← hq] at hc2 hcn
    have HMM := Lib.hid hm; have HCN := Lib.hid hcn
    have hle := hm.le
    by_cases h0 : q ≤ 0
    · have HE := Lib.hid (show pre.length = k.toNat by omega)
      clear hm hv hcn hq hle
      gi_wp2
      refine ⟨(KeepsOthers.refl _).from _, rfl, ⟨_, HMM.out.box, ?_⟩, HMM.out.ok, HMM.out.below⟩
      rw [← HE.out]; exact HMM.out.oi
    · have hq2 : q ≤ 9223372036854775807 := by omega
      have HP := Lib.hid (show pre.length + 1 ≤ k.toNat by omega)
      have hq0 : 0 < q := by omega
      clear hm hv hcn hq hle
      gi_wp2
      have e := HN.out
      refine ⟨(KeepsOthers.setCell _ _ _).from _, Kpt.set (by omega) (by omega) _ _, ?_⟩
      refine ⟨⟨.slice xa xn xc, ?_, ?_⟩, ?_, .inr ⟨?_, HMM.out.ok⟩, ?_⟩
      · rw [← e]; have h := HMM.out.box; rw [← e] at h; exact h.other (by omega) _
      · rw [← e, List.length_append]; have h := HMM.out.oi; rw [← e] at h; exact own_set h (by omega)
      · rw [← e, List.length_append]
        have h := HCN.out.set (.int .i64 (q - 1))
        have e2 : k - ((pre.length + [Value.slice xa xn xc].length : Nat) : Int) = q - 1 := by rw [HQ.out]; simp; omega
        rw [e2]
        exact h
      · rw [List.length_append]; exact HP.out
      · rw [← e]; have h := HMM.out.below; rw [← e] at h; exact below_set h (by omega)
  case done =>
    rintro D xs W hD hT hI hK
    obtain ⟨v, hv, ho⟩ := hI.box
    obtain ⟨xa, xn, xc, rfl⟩ : ∃ a n c, v = .slice a n c := by obtain ⟨a, c, e, _⟩ := ho.len; exact ⟨a, _, c, e⟩
    have HR := Lib.hid (show curN m xs.length = aftV m k by
      by_cases hok : Ok m
      · rw [tells_yes hok] at hT
        rw [(moo_yes hok).1, hT]
        rcases hI.le with h | ⟨h, _⟩
        · omega
        · exact (aftN_still hok (rndN_spec hok).1 (by omega)).symm
      · rw [tells_no hok] at hT
        rw [(moo_no hok).1, hT]; rfl)
    have HO := Lib.hid ho; have HI := Lib.hid hI
    rw [← HN.out] at hv
    have hc := hv.cell
    clear hI ho hv
    gi_wp2
    refine ⟨by simp, .inl ⟨_, _, rfl, run_takeDeferred hK, ?_⟩⟩
    refine ⟨_, results_tmp rfl _ _ _, _, rfl, ?_, ?_⟩
    · rw [← HR.out]
      exact owns_base (ownsRow_putObj HO.out _ hK rfl) (by omega)
    · exact HI.out.below.trans (belowK_b (w := w) (Nat.le_refl _) W D _ _ (Nat.le_trans HB0.out.size hD) hK rfl rfl)
  case stop =>
    rintro D c pre W hD ⟨rfl, hx⟩ hK
    obtain ⟨v, hv, ho⟩ := hx.box
    obtain ⟨xa, xn, xc, rfl⟩ : ∃ a n c, v = .slice a n c := by obtain ⟨a, c, e, _⟩ := ho.len; exact ⟨a, _, c, e⟩
    have HR := Lib.hid (show aftN m k.toNat = aftV m k from ((moo_yes hx.ok).1 k).symm)
    have HO := Lib.hid ho; have HX := Lib.hid hx
    rw [← HN.out] at hv
    have hc := hv.cell
    clear hx ho hv
    gi_wp2
    refine ⟨by simp, .inl ⟨_, _, rfl, run_takeDeferred hK, ?_⟩⟩
    refine ⟨_, results_tmp rfl _ _ _, _, rfl, ?_, ?_⟩
    · rw [← HR.out]
      exact owns_base (ownsRow_putObj HO.out _ hK rfl) (by omega)
    · exact HX.out.below.trans (belowK_b (w := w) (Nat.le_refl _) W D _ _ (Nat.le_trans HB0.out.size hD) hK rfl rfl)
theorem mooAfter_any : AfterC 9 := fun w k hk hM => callsIn_wide.1 (After_in 3 (by decide) w k hk hM)
end Go.Proofs.Ytfhddbjojpmbcaa.DfaW
