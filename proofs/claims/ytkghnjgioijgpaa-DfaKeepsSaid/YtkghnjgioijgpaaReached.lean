/- Walk of reached. -/
import Derived.Test.YtkghnjgioijgpaaWalk1
namespace Go.Proofs.Ytkghnjgioijgpaa.DfaW
set_option linter.unusedVariables false
open Go.RowKit Go.Shelf Go.Maps Go.Proofs.Ytkghnjgioijgpaa.PartW Go.Proofs.Ytkghnjgioijgpaa.DfaM
attribute [local go_sem] Oper.semAt_some

theorem owns_base {w : World} {b b' : Nat} {e : TypeId} {s : Nat} {v : Value} {n : Nat} {xs : List Value} (h : w.ownsRow b e s v n xs) (hb : b' ≤ b) : w.ownsRow b' e s v n xs := by
  obtain ⟨h1, h2⟩ := h
  refine ⟨h1, h2.imp id ?_⟩
  rintro ⟨g, cap, cur, rfl, hg, hr⟩
  exact ⟨g, cap, cur, rfl, Nat.le_trans hb hg, hr⟩
theorem info3 : (Try.prog.info? 3).map (fun i => (i.zero, i.size, i.bytes)) = some (some (.int .i64 0), 1, 8) := by kernel_rfl
abbrev iv (x : Nat) : Value := .int .i64 (x : Int)
theorem seqIt_walk (n : Nat) (hn : 1 ≤ n) (Bl Bq Bs n0 N : Nat) {leads : List (List Nat)} {ql : List Nat} {vL vQ : Value} (w : World)
    (hin : In (fun s => leads.getD s []) ql N) (hN0 : 0 < N) (hN : N ≤ 65536) (hBl : Bl < w.heap.size ∧ Bl ≠ Bs) (hBq : Bq < w.heap.size ∧ Bq ≠ Bs) (hBs : Bs < w.heap.size) (hn0 : n0 ≤ Bs)
    (hL : w.cell? ⟨Bl, 0, none⟩ = some vL) (hQ : w.cell? ⟨Bq, 0, none⟩ = some vQ) (hRL : RS n0 w vL (castLL leads)) (hIQ : IS n0 w vQ (castL ql)) (hlen : leads.length = N) :
    SeqIt n Try.prog 72 #[.pointer (some ⟨Bl, 0, none⟩), .pointer (some ⟨Bq, 0, none⟩)] Bs (fun xs => xs = fin (fun s => leads.getD s []) ql N) N w := fun l J W hW hJ hY h0 => by
  have hs := hW.size
  exact walk1_in n hn l Bl Bq Bs W.heap.size n0 N J W rfl hJ hY hin hN0 hN ⟨by omega, hBl.2⟩ ⟨by omega, hBq.2⟩ (by omega) hn0
    ((hW.cell (p := ⟨Bl, 0, none⟩) hBl.1).trans hL) ((hW.cell (p := ⟨Bq, 0, none⟩) hBq.1).trans hQ) (hRL.below (hW.mono (by omega))) (hIQ.below (hW.mono (by omega))) hlen h0

/-- What the loop holds: the list in its box, and that nothing else has changed. -/
def Got (w : World) (Bs B0 : Nat) (pre : List Nat) (W : World) : Prop := (∃ v, Boxed W Bs 24 v ∧ W.ownsRow B0 3 1 v pre.length (pre.map iv) ∧ True) ∧ Below w.heap.size w W
theorem got_it {w : World} {Bs B0 : Nat} (h1 : Bs < B0) (h2 : w.heap.size ≤ B0) : AbidesIt B0 (Got w Bs B0) := fun pre W W' ⟨⟨v, hv, ho, _⟩, hb⟩ hs => by
  have hBsz := (Array.getElem?_eq_some_iff.1 (show W.heap[Bs]? = _ from hv)).1
  refine ⟨⟨v, (hs.keep Bs hBsz (.inl h1)).trans hv, ?_, trivial⟩, hb.trans ⟨hs.os, hs.tape, hs.output, hs.size, fun k hk => hs.keep k (Nat.lt_of_lt_of_le hk hb.size) (.inl (by omega))⟩⟩
  obtain ⟨o1, o2⟩ := ho
  refine ⟨o1, o2.imp id ?_⟩
  rintro ⟨g, cap, cur, rfl, hg, hh, hr⟩
  refine ⟨g, cap, cur, rfl, hg, (hs.keep g (Array.getElem?_eq_some_iff.1 hh).1 (.inr ?_)).trans hh, hr⟩
  rintro ⟨cs, t, fr, hc, ht⟩
  rw [hh] at hc
  injection hc with hc
  injection hc with _ hc
  subst hc
  rcases ht with ht | ht
  · exact absurd ht (by decide)
  · exact absurd ht (by decide)

set_option maxRecDepth 100000 in
set_option maxHeartbeats 2000000 in
theorem reached_in (n : Nat) (hn : 3 ≤ n) (w : World) {N : Nat} {leads : List (List Nat)} {ql : List Nat} {vL vQ : Value} (hQ : IS w.heap.size w vQ (castL ql)) (hL : RS w.heap.size w vL (castLL leads)) (hlen : leads.length = N)
    (hin : In (fun s => leads.getD s []) ql N) (hN0 : 0 < N) (hN : N ≤ 65536) :
    CallsIn Fence.wide n Try.prog 43 #[vQ, vL] w fun e W' => ∃ v, e = .returned v ∧ W'.ownsRow w.heap.size 3 1 v (fin (fun s => leads.getD s []) ql N).length ((fin (fun s => leads.getD s []) ql N).map iv) ∧ Below w.heap.size w W' := by
  have h1 : 1 ≤ n := by omega
  obtain ⟨i0, hi, hz0, hz1, hz2⟩ := info_parts info3
  obtain ⟨aQ, cQ, rfl, _, _, _⟩ := hQ.open
  obtain ⟨aL, cL, rfl, _, _, _⟩ := hL.open
  obtain ⟨q, hq⟩ : ∃ q, q = (castL ql).length := ⟨_, rfl⟩
  obtain ⟨r, hr⟩ : ∃ r, r = (castLL leads).length := ⟨_, rfl⟩
  rw [← hq] at hQ ⊢
  rw [← hr] at hL ⊢
  refine callsIn_of_wp_marks Try.func43 rfl trivial ?_ rfl
  simp only [Try.ntmps43, List.size_toArray, List.length_cons, List.length_nil, Nat.reduceAdd, Nat.reduceSub, Array.replicate_succ, Array.replicate_zero, List.push_toArray, List.append_toArray, List.nil_append, List.cons_append]
  have bL := Boxed.new w 24 (.slice none 0 0)
  have HQ := Lib.hid hQ; have HL := Lib.hid hL; have HIN := Lib.hid hin
  clear hQ hL hin hq hr
  gi_wp2_with (refine ⟨trivial, ?_⟩; gi_at_call 60; refine (callsIn_wide.2 (walk_any aQ aL q cQ r cL _)).mono ?_; rintro e w2 ⟨rfl, rfl⟩)
  obtain ⟨Bs, hBs⟩ : ∃ Bs, Bs = w.heap.size := ⟨_, rfl⟩
  have hB1 : Below w.heap.size w (w.alloc (.cells #[.slice none 0 0] 24)) := (Below.refl _ _).alloc (Nat.le_refl _) _
  have hB2 : Below w.heap.size w (((w.alloc (.cells #[.slice none 0 0] 24)).alloc (.cells #[.slice aQ q cQ] 24)).alloc (.cells #[.slice aL r cL] 23)) := (hB1.alloc (by simp) _).alloc (by simp; omega) _
  have bL2 := (bL.alloc (.cells #[.slice aQ q cQ] 24)).alloc (.cells #[.slice aL r cL] 23)
  have cQ1 : (((w.alloc (.cells #[.slice none 0 0] 24)).alloc (.cells #[.slice aQ q cQ] 24)).alloc (.cells #[.slice aL r cL] 23)).cell? ⟨w.heap.size + 1, 0, none⟩ = some (.slice aQ q cQ) := by
    rw [((Below.refl _ ((w.alloc (.cells #[.slice none 0 0] 24)).alloc (.cells #[.slice aQ q cQ] 24))).alloc (Nat.le_refl _) _).cell (p := ⟨w.heap.size + 1, 0, none⟩) (by simp)]
    have := World.cell?_alloc_new (w.alloc (.cells #[.slice none 0 0] 24)) #[.slice aQ q cQ] 24 0
    rw [World.size_alloc] at this
    rw [this]; rfl
  have cL1 : (((w.alloc (.cells #[.slice none 0 0] 24)).alloc (.cells #[.slice aQ q cQ] 24)).alloc (.cells #[.slice aL r cL] 23)).cell? ⟨w.heap.size + 2, 0, none⟩ = some (.slice aL r cL) := by
    have := World.cell?_alloc_new ((w.alloc (.cells #[.slice none 0 0] 24)).alloc (.cells #[.slice aQ q cQ] 24)) #[.slice aL r cL] 23 0
    rw [World.size_alloc, World.size_alloc] at this
    rw [this]; rfl
  have hs2 : (((w.alloc (.cells #[.slice none 0 0] 24)).alloc (.cells #[.slice aQ q cQ] 24)).alloc (.cells #[.slice aL r cL] 23)).heap.size = w.heap.size + 3 := by simp
  have HB2 := Lib.hid hB2; have HBL2 := Lib.hid bL2; have HCQ := Lib.hid cQ1; have HCL := Lib.hid cL1; have HS2 := Lib.hid hs2
  clear bL hB1 hB2 bL2 cQ1 cL1 hs2
  generalize (((w.alloc (.cells #[.slice none 0 0] 24)).alloc (.cells #[.slice aQ q cQ] 24)).alloc (.cells #[.slice aL r cL] 23)) = W0 at *
  rw [← hBs] at HBL2 HCQ HCL HS2 ⊢
  have HBS := Lib.hid hBs
  have hn0 : w.heap.size ≤ W0.heap.size := HB2.out.size
  have hs3 := HS2.out
  clear hBs
  refine wpIn_rangeFunc_it h1 (gf := 72) (lb := #[.pointer (some ⟨Bs + 1 + 1, 0, none⟩), .pointer (some ⟨Bs + 1, 0, none⟩)]) rfl (enters_of Try.func72 (by kernel_rfl) rfl)
    (seqIt_walk (n - 1) (by omega) (Bs + 1 + 1) (Bs + 1) Bs w.heap.size N W0 HIN.out hN0 hN ⟨by omega, by omega⟩ ⟨by omega, by omega⟩ (by omega) (Nat.le_of_eq HBS.out.symm) HCL.out HCQ.out (HL.out.below HB2.out) (HQ.out.below HB2.out) hlen) (Below.refl _ _) rfl
    (Got w Bs (W0.heap.size + 2)) (OwnFrom.and (Own.from (holdsRow_own (W0.heap.size + 2) Bs 24 3 1 (fun (pre : List Nat) => pre.length) (fun pre => pre.map iv) (fun _ _ => True)) _) (ownFrom_below (Nat.le_refl _) hn0))
    (got_it (by omega) (by omega))
    ⟨⟨_, HBL2.out, World.ownsRow_nil _ _ _ _, trivial⟩, HB2.out⟩
    (fun x => { tmps := #[.slice aQ q cQ, .slice aL r cL, undef, undef, .slice none 0 0, .pointer (some ⟨Bs, 0, none⟩), iv x, .slice aQ q cQ, .slice aL r cL, .func (.func 72) #[] #[.pointer (some ⟨Bs + 1 + 1, 0, none⟩), .pointer (some ⟨Bs + 1, 0, none⟩)], iv x, undef, undef, undef, undef, undef], defers := [] }) ?assign ?body ?done
  case assign =>
    intro l x W K hK
    gi_wp2
    exact hK
  case body =>
    rintro l pre x W ⟨⟨v, hv, hrow, _⟩, hB⟩ hsz hlt
    have hc := hv.cell
    have hbs : w.heap.size ≤ Bs := Nat.le_of_eq HBS.out.symm
    have hrown := owns_base hrow (show w.heap.size ≤ W0.heap.size + 2 by omega)
    gi_wp2_with (gi_at_builtin; refine wpListIn_append_own _ rfl _ _ 24 rfl (W0.heap.size + 2) 3 i0 (.int .i64 0) 1 8 Try.underlying24 hi hz0 hz1 hz2 rfl (by decide) _ _ _ rfl (hrow.alloc _) ⟨W.heap.size, 0, none⟩ 1 1 [iv x] rfl rfl (cell_one_new _ _ _) (by simp [Value.oneCell']) (by unfold maxLen; omega) (by omega) (by simp; omega) ?_; intro v' w1 hown' hgrow _; obtain ⟨g', cap', rfl⟩ := ownsRow_succ hown'; obtain ⟨hv1, hv2, hr2, hk2, hb2⟩ := hv.appended (by decide) hrown hB.size hbs (owns_base hown' (show w.heap.size ≤ W0.heap.size + 2 by omega)) hgrow; have hc1 := hv1.cell; have hf1 := hv1.frozen)
    have hg2 : (W.alloc (.cells #[iv x] 3)).grownBy w1 v.ownBlock := hgrow
    refine ⟨hk2.from _, ⟨?_, fun k hk => ?_⟩, ⟨⟨_, hv2, ?_, trivial⟩, hB.trans hb2⟩⟩
    · have := hg2.size
      simp only [World.size_alloc] at this
      simp [World.setCell]; omega
    · obtain ⟨hne, cs, t, fr, hc2, hor⟩ := hk
      have hkl := (Array.getElem?_eq_some_iff.1 hc2).1
      refine ((Below.heap_setCell _ ⟨Bs, 0, none⟩ _ k hne).trans (hg2.block k (by simp; omega) ?_)).trans (Below.heap_alloc W _ k hkl)
      intro e
      rcases hrow.2 with ⟨rfl, _⟩ | ⟨g, cap, cur, rfl, hg, hh, _⟩
      · simp [Value.ownBlock] at e
      · have e2 : k = g := by simpa [Value.ownBlock] using e
        subst e2
        rw [hh] at hc2
        injection hc2 with hc2
        injection hc2 with _ h2
        rcases hor with h | h | h
        · omega
        · exact absurd (h2.trans h) (by decide)
        · exact absurd (h2.trans h) (by decide)
    · rw [List.length_append, List.map_append]
      exact hown'.kept (grownBy_setCell' w1 Bs _) (.inr (hv1.not_row (by decide) hown').symm)
  case done =>
    rintro D ys W hD rfl ⟨⟨v, hv, hrow, _⟩, hB⟩ hK
    have hc := hv.cell
    gi_wp2
    refine ⟨by simp, .inl ⟨_, _, rfl, run_takeDeferred hK, ?_⟩⟩
    exact ⟨_, results_tmp rfl _ _ _, v, rfl, ownsRow_putObj (owns_base hrow (by omega)) _ hK rfl, hB.trans (belowK_b (w := w) (Nat.le_refl _) W D _ _ (by omega) hK rfl rfl)⟩
/-- All that is met, as a list of the call's own. -/
theorem reached_any (w : World) {N : Nat} {leads : List (List Nat)} {ql : List Nat} {vL vQ : Value} (hQ : IS w.heap.size w vQ (castL ql)) (hL : RS w.heap.size w vL (castLL leads)) (hlen : leads.length = N)
    (hin : In (fun s => leads.getD s []) ql N) (hN0 : 0 < N) (hN : N ≤ 65536) :
    Calls Try.prog 43 #[vQ, vL] w fun e W' => ∃ v, e = .returned v ∧ W'.ownsRow w.heap.size 3 1 v (fin (fun s => leads.getD s []) ql N).length ((fin (fun s => leads.getD s []) ql N).map iv) ∧ Below w.heap.size w W' :=
  callsIn_wide.1 (reached_in 3 (by decide) w hQ hL hlen hin hN0 hN)
end Go.Proofs.Ytkghnjgioijgpaa.DfaW
