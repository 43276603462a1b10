/- Walk of layer 14: Or. -/
import Derived.Test.YtgmeomhddpmpbaaDoorCount
import Derived.Test.YtgmeomhddpmpbaaDoorBtWalk1
namespace Go.Proofs.YtgmeomhddpmpbaaDoor.BitsW
set_option linter.unusedVariables false
open Go.RowKit Go.Shelf Go.Proofs.YtgmeomhddpmpbaaDoor.SetM Go.Proofs.YtgmeomhddpmpbaaDoor.SetW Go.Proofs.YtgmeomhddpmpbaaDoor.RegionU
attribute [local go_sem] Oper.semAt_some

theorem Sw.below {w w' : World} {p q n cap : Nat} {f : Nat → Bool} (h : Sw w p q n cap f) (hb : Below w.heap.size w w') : Sw w' p q n cap f :=
  ⟨(hb.block p (Array.getElem?_eq_some_iff.1 h.blk).1).trans h.blk, owns_but h.own (But.of none hb) (fun k e => ⟨(World.ownsRow.lt h.own k e).2, by simp⟩)⟩
theorem Sw.ne {w : World} {p q n cap : Nat} {f : Nat → Bool} (h : Sw w p q n cap f) {B : Nat} {t : TypeId} {v : Value} (hb : Boxed w B t v) (ht : t ≠ 55) : q ≠ B := by
  rintro rfl
  rcases h.own.2 with ⟨h3, _⟩ | ⟨g, cap', cur, h3, _, hg, _⟩
  · simp at h3
  · simp only [Value.slice.injEq, Option.some.injEq, Addr.mk.injEq, and_true, true_and] at h3
    obtain ⟨rfl, rfl⟩ := h3
    rw [show w.heap[q]? = _ from hb] at hg
    simp at hg
    exact ht hg.2
theorem Sw.nep {w : World} {p q n cap : Nat} {f : Nat → Bool} (h : Sw w p q n cap f) {B : Nat} {t : TypeId} {v : Value} (hb : Boxed w B t v) : p ≠ B := by
  rintro rfl
  have := h.blk
  rw [show w.heap[p]? = _ from hb] at this
  simp at this
theorem Sw.other {w : World} {p q n cap : Nat} {f : Nat → Bool} (h : Sw w p q n cap f) {a : Addr} (hp : p ≠ a.block) (hq : q ≠ a.block) (v : Value) : Sw (w.setCell a v) p q n cap f :=
  ⟨(Below.heap_setCell _ _ _ _ hp).trans h.blk, by
    obtain ⟨h1, h2⟩ := h.own
    refine ⟨h1, ?_⟩
    rcases h2 with ⟨h2, _⟩ | ⟨g, cap', cur, h2, hg, hh, hr⟩
    · simp at h2
    · simp only [Value.slice.injEq, Option.some.injEq, Addr.mk.injEq, and_true, true_and] at h2
      obtain ⟨rfl, rfl⟩ := h2
      exact .inr ⟨q, cap, cur, rfl, hg, by rw [Below.heap_setCell _ _ _ _ hq]; exact hh, hr⟩⟩
theorem Sw.own_from {n₀ : Nat} {β : Type} (p q n cap : Nat) (f : β → Nat → Bool) : OwnFrom n₀ (fun s W => Sw W p q n cap (f s)) := by
  intro s X Y row hs hg hrow
  have hp : some p ≠ row := fun e => by
    obtain ⟨_, o, ho, hc⟩ := hrow p e.symm
    rw [hs.blk] at ho; cases ho; cases hc
  refine ⟨(hg.block p (Array.getElem?_eq_some_iff.1 hs.blk).1 hp).trans hs.blk, ?_⟩
  obtain ⟨h1, h2⟩ := hs.own
  refine ⟨h1, ?_⟩
  rcases h2 with ⟨h2, _⟩ | ⟨g, cap', cur, h2, hgg, hh, hr⟩
  · simp at h2
  · simp only [Value.slice.injEq, Option.some.injEq, Addr.mk.injEq, and_true, true_and] at h2
    obtain ⟨rfl, rfl⟩ := h2
    have hq : some q ≠ row := fun e => by
      obtain ⟨_, o, ho, hc⟩ := hrow q e.symm
      rw [hh] at ho; cases ho; cases hc
    exact .inr ⟨q, cap, cur, rfl, hgg, by rw [hg.block q (Array.getElem?_eq_some_iff.1 hh).1 hq]; exact hh, hr⟩
theorem Sw.put {w : World} {p q n cap : Nat} {f : Nat → Bool} (h : Sw w p q n cap f) {D : Nat} {o : Obj} (hK : w.heap[D]? = some (.deferred (some []))) : Sw (w.putObj D o) p q n cap f :=
  Sw.own_from (n₀ := 0) p q n cap (fun _ : Unit => f) () w _ (some D) h (grownBy_putObj' _ _ _) (fun r e => by cases e; exact ⟨Nat.zero_le _, _, hK, rfl⟩)
theorem but_from {n₀ B : Nat} {w : World} {q : Nat} (h1 : B ≤ n₀) (hn : n₀ ≥ w.heap.size) : OwnFrom n₀ (fun (_ : Unit) W => B ≤ W.heap.size ∧ But B (some q) w W) := by
  intro s X Y row hs hg hrow
  refine ⟨Nat.le_trans hs.1 hg.size, hs.2.grown hg hs.1 (fun k e => ?_)⟩
  obtain ⟨hk, _⟩ := hrow k e
  exact .inl (by omega)
theorem kq_set' {q : Nat} {a : Addr} {W : World} (h : q ≠ a.block) (v : Value) : Kq q W (W.setCell a v) := ⟨by simp [World.setCell], Below.heap_setCell _ _ _ _ h⟩
theorem boxed_set {W : World} {B : Nat} {t : TypeId} {v : Value} (h : Boxed W B t v) {a : Addr} (hne : B ≠ a.block) (u : Value) : Boxed (W.setCell a u) B t v := (Below.heap_setCell _ _ _ _ hne).trans h
theorem orL_step (n : Nat) (f g : Nat → Bool) (l : List Nat) (x : Nat) : orL n (orL n f g l) g [x] = orL n f g (l ++ [x]) := by
  funext i
  simp only [orL, List.contains_append, List.contains_cons, List.contains_nil, Bool.or_false]
  cases f i <;> cases g i <;> cases decide (i < n) <;> cases l.contains (i / 64) <;> simp
theorem moreF_step (n : Nat) (f g : Nat → Bool) (l : List Nat) (x : Nat) : moreF n f g (l ++ [x]) = (moreF n f g l || !(wd (missF n (orL n f g l) g) x == 0)) := by
  rw [moreF_snoc]
  by_cases hx : x ∈ l
  · cases hm : moreF n f g l
    · have h0 : wd (missF n f g) x = 0 := by
        simp only [moreF, List.any_eq_false] at hm
        have := hm x hx
        show wd (fun i => g i && decide (i < n) && !f i) x = 0
        simpa using this
      have h2 : wd (missF n (orL n f g l) g) x = 0 := by
        rw [← h0]
        refine wd_congr x fun i hi => ?_
        have h3 := wd_zero h0 (64 * x + i) (by omega) (by omega)
        rw [h3]
        have e1 : (64 * x + i) / 64 = x := by omega
        simp only [missF, orL, e1] at *
        cases g (64 * x + i) <;> cases decide (64 * x + i < n) <;> cases f (64 * x + i) <;> simp_all
      rw [h0, h2]
    · simp
  · congr 3
    refine wd_congr x fun i hi => ?_
    have e1 : (64 * x + i) / 64 = x := by omega
    have e2 : l.contains x = false := by simpa using hx
    simp [missF, orL, e1, hx]

set_option maxHeartbeats 4000000 in
theorem Or_in (n : Nat) (hn : 3 ≤ n) (p q k : Nat) (f : Nat → Bool) (v : Option Addr) (q2 r : Nat) (g : Nat → Bool) (w : World) (hB : Bt w p q k f) (hS : Src w v q2 r g) (hne : q ≠ q2) :
    CallsIn Fence.wide n Tryd.prog 12 #[.pointer (some ⟨p, 0, none⟩), .pointer v] w fun e W' => e = .returned (.bool (moreB k f g)) ∧ Bt W' p q k (orF k f g) ∧ But w.heap.size (some q) w W' := by
  have h1 : 1 ≤ n := by omega
  have HS := Lib.hid hS; have HBT := Lib.hid hB
  obtain ⟨cap, hSw⟩ := hB.sw
  have HSW0 := Lib.hid hSw
  clear hS hB hSw
  refine callsIn_of_wp_marks Tryd.func12 rfl trivial ?_ rfl
  simp only [Tryd.ntmps12, List.size_toArray, List.length_cons, List.length_nil, Nat.reduceAdd, Nat.reduceSub, Array.replicate_succ, Array.replicate_zero, List.push_toArray, List.append_toArray, List.nil_append, List.cons_append]
  gi_wp2_with (refine ⟨trivial, ?_⟩; gi_at_call 26; refine (callsIn_wide.2 (some_any v _)).mono ?_; rintro e w2 ⟨rfl, rfl⟩)
  have b1 := ((Boxed.new w 23 (.pointer (some ⟨p, 0, none⟩))).alloc (.cells #[.bool false] 4)).alloc (.cells #[.pointer v] 23)
  have b2 := (Boxed.new (w.alloc (.cells #[.pointer (some ⟨p, 0, none⟩)] 23)) 4 (.bool false)).alloc (.cells #[.pointer v] 23)
  have b3 := Boxed.new ((w.alloc (.cells #[.pointer (some ⟨p, 0, none⟩)] 23)).alloc (.cells #[.bool false] 4)) 23 (.pointer v)
  rw [World.size_alloc] at b2
  rw [World.size_alloc, World.size_alloc] at b3
  have hb0 : Below w.heap.size w (((w.alloc (.cells #[.pointer (some ⟨p, 0, none⟩)] 23)).alloc (.cells #[.bool false] 4)).alloc (.cells #[.pointer v] 23)) := (((Below.refl _ _).alloc (Nat.le_refl _) _).alloc (by simp) _).alloc (by simp; omega) _
  generalize ((w.alloc (.cells #[.pointer (some ⟨p, 0, none⟩)] 23)).alloc (.cells #[.bool false] 4)).alloc (.cells #[.pointer v] 23) = W0 at *
  obtain ⟨B, hB⟩ : ∃ B, B = w.heap.size := ⟨_, rfl⟩
  have HB := Lib.hid hB
  rw [← hB] at b1 b2 b3 ⊢
  have hseq := some_stops (n - 1) (by omega) (B + 1 + 1) v q2 r g W0 b3.cell (HS.out.below hb0)
  have hq0 : q2 < W0.heap.size := Nat.lt_of_lt_of_le HS.out.1 hb0.size
  have HB0 := Lib.hid hb0
  have hplt := HBT.out.lt
  clear hB hb0 b3
  have hst : ∀ (c : Nat → Bool) (m : Bool) (X Y : World) row, (Boxed X B 23 (.pointer (some ⟨p, 0, none⟩)) ∧ Boxed X (B + 1) 4 (.bool m) ∧ Sw X p q k cap c ∧ w.heap.size ≤ X.heap.size ∧ But w.heap.size (some q) w X) → X.grownBy Y row → (∀ r, row = some r → W0.heap.size ≤ r ∧ ∃ o : Obj, X.heap[r]? = some o ∧ o.isCells = false) →
      (Boxed Y B 23 (.pointer (some ⟨p, 0, none⟩)) ∧ Boxed Y (B + 1) 4 (.bool m) ∧ Sw Y p q k cap c ∧ w.heap.size ≤ Y.heap.size ∧ But w.heap.size (some q) w Y) := by
    rintro c m X Y row ⟨h1, h2, h3, h4⟩ hg hrow
    exact ⟨boxed_from B 23 (fun _ : Unit => .pointer (some ⟨p, 0, none⟩)) () X Y row h1 hg hrow, boxed_from (B + 1) 4 (fun _ : Unit => .bool m) () X Y row h2 hg hrow, Sw.own_from p q k cap (fun _ : Unit => c) () X Y row h3 hg hrow, but_from HB0.out.size HB0.out.size () X Y row h4 hg hrow⟩
  have hI : OwnFrom W0.heap.size (fun (pre : List Pl) W => Boxed W B 23 (.pointer (some ⟨p, 0, none⟩)) ∧ Boxed W (B + 1) 4 (.bool (moreF k f g (vals pre))) ∧ Sw W p q k cap (orL k f g (vals pre)) ∧ w.heap.size ≤ W.heap.size ∧ But w.heap.size (some q) w W) := fun s X Y row h hg hrow => hst _ _ X Y row h hg hrow
  have hIx : ∀ c, OwnFrom W0.heap.size (fun (pre : List Pl) W => c = Code.exit 0 ∧ ∃ pre0 x, (pre = pre0 ++ [x] ∧ lenW k ≤ x.val) ∧ Boxed W B 23 (.pointer (some ⟨p, 0, none⟩)) ∧ Boxed W (B + 1) 4 (.bool (moreF k f g (vals pre0))) ∧ Sw W p q k cap (orL k f g (vals pre0)) ∧ w.heap.size ≤ W.heap.size ∧ But w.heap.size (some q) w W) := by
    rintro c s X Y row ⟨h1, pre0, x, h2, h3⟩ hg hrow
    exact ⟨h1, pre0, x, h2, hst _ _ X Y row h3 hg hrow⟩
  refine wpIn_rangeFunc_ownG rfl h1 (gf := 31) (lb := #[.pointer (some ⟨B + 1 + 1, 0, none⟩)]) rfl trivial (enters_of Tryd.func31 (by kernel_rfl) rfl)
    hseq Kq.trans (kq_b hq0) (Below.refl _ _) (fun _ => rfl)
    _ _ hI hIx
    ⟨b1, b2, by rw [show vals [] = [] from rfl, orL_nil]; exact HSW0.out.below HB0.out, HB0.out.size, But.of _ HB0.out⟩
    (fun x => { tmps := #[.pointer (some ⟨p, 0, none⟩), .pointer v, .pointer (some ⟨B, 0, none⟩), undef, .bool false, .pointer (some ⟨B + 1, 0, none⟩), .int .i64 (x.val : Nat), .int .u64 (wd g x.val), undef, .pointer (some ⟨p, 0, none⟩), .bool false, .pointer v, .func (.func 31) #[] #[.pointer (some ⟨B + 1 + 1, 0, none⟩)], .int .i64 (x.val : Nat), .int .u64 (wd g x.val), undef, undef, undef, undef, undef, undef, undef, undef, undef, undef, undef, undef, undef, undef, undef, undef, undef, undef, undef, undef, undef, undef, undef, undef, undef, undef, undef, undef, undef, undef, undef, undef, undef, undef, undef, undef, undef, undef, undef], defers := [] }) ?assign ?body ?done ?stop
  case assign =>
    intro l x W K hK
    unfold encs
    gi_wp2
    exact hK
  case body =>
    rintro l pre ⟨x, hx0⟩ W ⟨hv1, hv2, hSw, hsz, hbt⟩ hlt
    have HV := Lib.hid hv2; have HV1 := Lib.hid hv1; have HBW := Lib.hid hbt
    have c0 := hv1.cell
    have c1 := hSw.c1
    have HSW := Lib.hid hSw
    have hle := lenW_le HBT.out.room
    have hqW : q2 < W.heap.size := by have := HS.out.1; omega
    clear hv1 hv2 hbt hSw
    by_cases hlt2 : x < lenW k
    · have HP := Lib.hid (fun W' => part_any k x HBT.out.room hlt2 W')
      have HMS := Lib.hid (moreF_step k f g (vals pre) x)
      have HOS := Lib.hid (orL_step k f g (vals pre) x)
      generalize hF : orL k f g (vals pre) = Fq at *
      generalize hMo : moreF k f g (vals pre) = mo at *
      have HMW := Lib.hid (miss_word k Fq g x)
      have HON := Lib.hid (orL_new k Fq g [] x)
      have HHF := Lib.hid hF
      clear hF hMo
      gi_wp2
      refine wpIn_region_T 16 (fun _ => trivial) rfl (fun h => wide_calls h) (by kernel_rfl) (by kernel_rfl) (by kernel_rfl) (r_up W) (r_drew W) ?_
      refine wpT_taken (i := 0) rfl (by kernel_rfl) (by kernel_rfl) (by kernel_rfl) (by kernel_rfl) (by kernel_rfl) (r_up W) ?_
      apply Exists.intro
      refine ⟨Or.inl ⟨rfl, fun W' hW => ?hy⟩, ?_⟩
      case hy =>
        go_simp
        exact does_value rfl
      simp only [Act.put, List.setIfInBounds_toArray, List.set]
      refine wpT_taken (i := 1) rfl (by kernel_rfl) (by kernel_rfl) (by kernel_rfl) (by kernel_rfl) (by kernel_rfl) (r_up W) ?_
      apply Exists.intro
      refine ⟨Or.inl ⟨rfl, fun W' hW => ?hy⟩, ?_⟩
      case hy =>
        have c0 := (r_boxed hW HV1.out).cell
        go_simp
        exact does_value rfl
      simp only [Act.put, List.setIfInBounds_toArray, List.set]
      refine wpT_taken (i := 2) rfl (by kernel_rfl) (by kernel_rfl) (by kernel_rfl) (by kernel_rfl) (by kernel_rfl) (r_up W) ?_
      apply Exists.intro
      refine ⟨Or.inl ⟨rfl, fun W' hW => ?hy⟩, ?_⟩
      case hy =>
        go_simp
        exact does_value rfl
      simp only [Act.put, List.setIfInBounds_toArray, List.set]
      refine wpT_taken (i := 3) rfl (by kernel_rfl) (by kernel_rfl) (by kernel_rfl) (by kernel_rfl) (by kernel_rfl) (r_up W) ?_
      apply Exists.intro
      refine ⟨Or.inl ⟨rfl, fun W' hW => ?hy⟩, ?_⟩
      case hy =>
        go_simp
        exact does_value rfl
      simp only [Act.put, List.setIfInBounds_toArray, List.set]
      refine wpT_taken (i := 4) rfl (by kernel_rfl) (by kernel_rfl) (by kernel_rfl) (by kernel_rfl) (by kernel_rfl) (r_up W) ?_
      apply Exists.intro
      refine ⟨Or.inl ⟨rfl, fun W' hW => ?hy⟩, ?_⟩
      case hy =>
        have d0 := (HSW.out.below hW).c0
        go_simp
        exact does_value rfl
      simp only [Act.put, List.setIfInBounds_toArray, List.set]
      refine wpT_taken (i := 5) rfl (by kernel_rfl) (by kernel_rfl) (by kernel_rfl) (by kernel_rfl) (by kernel_rfl) (r_up W) ?_
      apply Exists.intro
      refine ⟨Or.inl ⟨rfl, fun W' hW => ?hy⟩, ?_⟩
      case hy =>
        go_simp
        exact does_value rfl
      simp only [Act.put, List.setIfInBounds_toArray, List.set]
      refine wpT_taken (i := 6) rfl (by kernel_rfl) (by kernel_rfl) (by kernel_rfl) (by kernel_rfl) (by kernel_rfl) (r_up W) ?_
      apply Exists.intro
      refine ⟨Or.inl ⟨rfl, fun W' hW => ?hy⟩, ?_⟩
      case hy =>
        go_simp
        exact does_call (HP.out _)
      simp only [Act.put, List.setIfInBounds_toArray, List.set]
      refine wpT_taken (i := 7) rfl (by kernel_rfl) (by kernel_rfl) (by kernel_rfl) (by kernel_rfl) (by kernel_rfl) (r_up W) ?_
      apply Exists.intro
      refine ⟨Or.inl ⟨rfl, fun W' hW => ?hy⟩, ?_⟩
      case hy =>
        go_simp
        exact does_value rfl
      simp only [Act.put, List.setIfInBounds_toArray, List.set]
      refine wpT_taken (i := 8) rfl (by kernel_rfl) (by kernel_rfl) (by kernel_rfl) (by kernel_rfl) (by kernel_rfl) (r_up W) ?_
      apply Exists.intro
      refine ⟨Or.inl ⟨rfl, fun W' hW => ?hy⟩, ?_⟩
      case hy =>
        have c0 := (r_boxed hW HV1.out).cell
        go_simp
        exact does_value rfl
      simp only [Act.put, List.setIfInBounds_toArray, List.set]
      refine wpT_taken (i := 9) rfl (by kernel_rfl) (by kernel_rfl) (by kernel_rfl) (by kernel_rfl) (by kernel_rfl) (r_up W) ?_
      apply Exists.intro
      refine ⟨Or.inl ⟨rfl, fun W' hW => ?hy⟩, ?_⟩
      case hy =>
        go_simp
        exact does_value rfl
      simp only [Act.put, List.setIfInBounds_toArray, List.set]
      refine wpT_taken (i := 10) rfl (by kernel_rfl) (by kernel_rfl) (by kernel_rfl) (by kernel_rfl) (by kernel_rfl) (r_up W) ?_
      apply Exists.intro
      refine ⟨Or.inl ⟨rfl, fun W' hW => ?hy⟩, ?_⟩
      case hy =>
        go_simp
        exact does_value rfl
      simp only [Act.put, List.setIfInBounds_toArray, List.set]
      refine wpT_taken (i := 11) rfl (by kernel_rfl) (by kernel_rfl) (by kernel_rfl) (by kernel_rfl) (by kernel_rfl) (r_up W) ?_
      apply Exists.intro
      refine ⟨Or.inl ⟨rfl, fun W' hW => ?hy⟩, ?_⟩
      case hy =>
        have d1 := (HSW.out.below hW).c1
        go_simp
        exact does_value rfl
      simp only [Act.put, List.setIfInBounds_toArray, List.set]
      refine wpT_taken (i := 12) rfl (by kernel_rfl) (by kernel_rfl) (by kernel_rfl) (by kernel_rfl) (by kernel_rfl) (r_up W) ?_
      apply Exists.intro
      refine ⟨Or.inl ⟨rfl, fun W' hW => ?hy⟩, ?_⟩
      case hy =>
        go_simp
        exact does_value rfl
      simp only [Act.put, List.setIfInBounds_toArray, List.set]
      refine wpT_taken (i := 13) rfl (by kernel_rfl) (by kernel_rfl) (by kernel_rfl) (by kernel_rfl) (by kernel_rfl) (r_up W) ?_
      apply Exists.intro
      refine ⟨Or.inl ⟨rfl, fun W' hW => ?hy⟩, ?_⟩
      case hy =>
        go_simp
        exact does_value rfl
      simp only [Act.put, List.setIfInBounds_toArray, List.set]
      refine wpT_taken (i := 14) rfl (by kernel_rfl) (by kernel_rfl) (by kernel_rfl) (by kernel_rfl) (by kernel_rfl) (r_up W) ?_
      apply Exists.intro
      refine ⟨Or.inl ⟨rfl, fun W' hW => ?hy⟩, ?_⟩
      case hy =>
        have d2 := (HSW.out.below hW).word hlt2
        go_simp
        exact does_value rfl
      simp only [Act.put, List.setIfInBounds_toArray, List.set]
      refine wpT_taken (i := 15) rfl (by kernel_rfl) (by kernel_rfl) (by kernel_rfl) (by kernel_rfl) (by kernel_rfl) (r_up W) ?_
      apply Exists.intro
      refine ⟨Or.inl ⟨rfl, fun W' hW => ?hy⟩, ?_⟩
      case hy =>
        go_simp
        exact does_value rfl
      simp only [Act.put, List.setIfInBounds_toArray, List.set]
      refine wpT_done (by kernel_rfl) ?_
      intro W' hW
      rw [HMW.out]
      have d0 := (r_boxed hW HV1.out).cell
      have hs2 := HSW.out.below hW
      have d1 := hs2.c1
      have d2 := hs2.word hlt2
      have d3 := hs2.frozen x
      have hbx := r_boxed hW HV.out
      have hby := r_boxed hW HV1.out
      have hs3 := hs2.store (g := orL k Fq g [x]) (HBT.out.ne) hlt2 (fun j h1 _ => by rw [← orL_nil k Fq g, orL_at k Fq g [] x j h1, orL_nil]; rfl)
      have hq1 : q ≠ B + 1 := hs2.ne hbx (by decide)
      have hq2 : q ≠ B := hs2.ne hby (by decide)
      have hp1 : p ≠ B + 1 := hs2.nep hbx
      have d4 : (W'.setCell ⟨q, x, none⟩ (.int .u64 (bits BinOp.or IntKind.u64 (wd Fq x) (wd (missF k Fq g) x)))).cell? ⟨B + 1, 0, none⟩ = some (.bool mo) := (World.cell?_setCell_other _ _ _ _ (fun e => hq1 (by injection e))).trans hbx.cell
      have d5 : (W'.setCell ⟨q, x, none⟩ (.int .u64 (bits BinOp.or IntKind.u64 (wd Fq x) (wd (missF k Fq g) x)))).frozen? ⟨B + 1, 0, none⟩ = false := (World.frozen?_of_block (Below.heap_setCell _ _ _ _ (fun e => hq1 e.symm))).trans hbx.frozen
      have hfin : ∀ b : Bool, (mo || !(wd (missF k Fq g) x == 0)) = b → KeepsFrom W0.heap.size W ((W'.setCell ⟨q, x, none⟩ (.int .u64 (bits BinOp.or IntKind.u64 (wd Fq x) (wd (missF k Fq g) x)))).setCell ⟨B + 1, 0, none⟩ (.bool b)) ∧ Kq q2 W ((W'.setCell ⟨q, x, none⟩ (.int .u64 (bits BinOp.or IntKind.u64 (wd Fq x) (wd (missF k Fq g) x)))).setCell ⟨B + 1, 0, none⟩ (.bool b)) ∧
          (fun (pre : List Pl) W => Boxed W B 23 (.pointer (some ⟨p, 0, none⟩)) ∧ Boxed W (B + 1) 4 (.bool (moreF k f g (vals pre))) ∧ Sw W p q k cap (orL k f g (vals pre)) ∧ w.heap.size ≤ W.heap.size ∧ But w.heap.size (some q) w W) (pre ++ [⟨x, hx0⟩]) ((W'.setCell ⟨q, x, none⟩ (.int .u64 (bits BinOp.or IntKind.u64 (wd Fq x) (wd (missF k Fq g) x)))).setCell ⟨B + 1, 0, none⟩ (.bool b)) := by
        intro b hb
        have hon := HON.out
        rw [List.nil_append] at hon
        rw [hon]
        have hszW : w.heap.size ≤ B + 1 := by rw [HB.out]; omega
        refine ⟨(((keeps_r hW).trans (KeepsOthers.setCell _ _ _)).trans (KeepsOthers.setCell _ _ _)).from _, ((kq_of hW hqW).trans (kq_set' (a := ⟨q, x, none⟩) (fun e => hne e.symm) _)).trans (kq_set' (a := ⟨B + 1, 0, none⟩) (show q2 ≠ B + 1 by have := HS.out.1; have := HB.out; omega) _), ?_, ?_, ?_, ?_, ?_⟩
        · exact boxed_set (boxed_set hby (a := ⟨q, x, none⟩) (fun e => hq2 e.symm) _) (a := ⟨B + 1, 0, none⟩) (show B ≠ B + 1 by omega) _
        · rw [vals_snoc, HMS.out, hb]
          exact (boxed_set hbx (a := ⟨q, x, none⟩) (fun e => hq1 e.symm) _).set _
        · rw [vals_snoc, ← HOS.out]
          exact hs3.other hp1 hq1 _
        · have := hW.size
          simp only [World.setCell, Array.size_modify]; omega
        · exact ((HBW.out.trans (But.of _ (hW.mono hsz))).set (p := ⟨q, x, none⟩) (.inr rfl) _).set (p := ⟨B + 1, 0, none⟩) (.inl hszW) _
      have HFIN := Lib.hid hfin
      clear hs2 hs3 hbx hby c0 c1 hfin
      cases mo
      · cases hz : !(wd (missF k Fq g) x == 0)
        · have t1 : ((wd (missF k Fq g) x : Int) != 0) = false := by simp at hz; simp [hz]
          have HZ := Lib.hid hz
          clear hz
          gi_wp2
          exact HFIN.out false (by rw [HZ.out]; rfl)
        · have t1 : ((wd (missF k Fq g) x : Int) != 0) = true := by simp at hz; simp [hz]
          have HZ := Lib.hid hz
          clear hz
          gi_wp2
          exact HFIN.out true (by rw [HZ.out]; rfl)
      · gi_wp2
        exact HFIN.out true rfl
    · gi_wp2
      refine ⟨(KeepsOthers.refl _).from _, rfl, pre, ⟨x, hx0⟩, ⟨rfl, Nat.le_of_not_lt hlt2⟩, HV1.out, HV.out, HSW.out, hsz, HBW.out⟩
  case done =>
    rintro D ys W hD hys ⟨hv1, hv2, hSw, hsz, hbt⟩ hK
    have hc := hv2.cell
    have hin : ∀ i, g i = true → i < k → i / 64 ∈ vals ys := fun i h1 h2 => by rw [hys]; exact rows_of h1 (lenW_pos (HS.out.into i h1))
    have HM := Lib.hid (moreF_all (f := f) hin)
    have HO := Lib.hid (orL_all (f := f) hin)
    have HSW := Lib.hid hSw
    have HBB := Lib.hid hbt
    clear hys hin hv1 hv2 hSw hbt
    gi_wp2
    refine ⟨by simp, .inl ⟨_, _, rfl, run_takeDeferred hK, ?_⟩⟩
    refine ⟨_, results_tmp rfl _ _ _, by rw [← HM.out]; rfl, ?_⟩
    rw [← HO.out]
    exact ⟨(HSW.out.put hK).bt HBT.out.room (orL_into HBT.out.into _), HBB.out.grown (grownBy_putObj' _ _ _) hsz (fun j e => by cases e; exact .inl (Nat.le_trans HB0.out.size hD))⟩
  case stop =>
    rintro D c pre W hD hpre ⟨rfl, pre0, x, ⟨rfl, hx⟩, hv1, hv2, hSw, hsz, hbt⟩ hK
    have hc := hv2.cell
    have hin : ∀ i, g i = true → i < k → i / 64 ∈ vals pre0 := fun i h1 h2 => by
      rw [vals_snoc] at hpre
      exact rows_left hpre (Nat.lt_of_lt_of_le (lenW_pos h2) hx) (rows_of h1 (lenW_pos (HS.out.into i h1)))
    have HM := Lib.hid (moreF_all (f := f) hin)
    have HO := Lib.hid (orL_all (f := f) hin)
    have HSW := Lib.hid hSw
    have HBB := Lib.hid hbt
    clear hpre hin hv1 hv2 hSw hbt
    gi_wp2
    refine ⟨by simp, .inl ⟨_, _, rfl, run_takeDeferred hK, ?_⟩⟩
    refine ⟨_, results_tmp rfl _ _ _, by rw [← HM.out]; rfl, ?_⟩
    rw [← HO.out]
    exact ⟨(HSW.out.put hK).bt HBT.out.room (orL_into HBT.out.into _), HBB.out.grown (grownBy_putObj' _ _ _) hsz (fun j e => by cases e; exact .inl (Nat.le_trans HB0.out.size hD))⟩
theorem Or_any (p q k : Nat) (f : Nat → Bool) (v : Option Addr) (q2 r : Nat) (g : Nat → Bool) (w : World) (hB : Bt w p q k f) (hS : Src w v q2 r g) (hne : q ≠ q2) :
    Calls Tryd.prog 12 #[.pointer (some ⟨p, 0, none⟩), .pointer v] w fun e W' => e = .returned (.bool (moreB k f g)) ∧ Bt W' p q k (orF k f g) ∧ But w.heap.size (some q) w W' :=
  callsIn_wide.1 (Or_in 3 (by decide) p q k f v q2 r g w hB hS hne)
end Go.Proofs.YtgmeomhddpmpbaaDoor.BitsW
