/- What is known of a machine that is being made, state by state. -/
import Derived.Test.YtkghnjgioijgpaaPlaced
import Derived.Laws.AppendOwnNone
namespace Go.Proofs.Ytkghnjgioijgpaa.DfaW
set_option linter.unusedVariables false
open Go.RowKit Go.Maps Go.Proofs.Ytkghnjgioijgpaa.PartM Go.Proofs.Ytkghnjgioijgpaa.PartW Go.Proofs.Ytkghnjgioijgpaa.DfaM

theorem own_at {w : World} {b : Nat} {e : TypeId} {s : Nat} {v : Value} {n : Nat} {xs : List Value} (h : w.ownsRow b e s v n xs) {g : Nat} (hg : v.ownBlock = some g) : (∃ cur, w.heap[g]? = some (.cells cur e (0, 0))) ∧ b ≤ g ∧ g < w.heap.size := by
  rcases h.2 with ⟨rfl, _⟩ | ⟨g', cap, cur, rfl, hb, hh, _⟩
  · cases hg
  · have e : g' = g := by simpa [Value.ownBlock] using hg
    subst e
    exact ⟨⟨cur, hh⟩, hb, (Array.getElem?_eq_some_iff.1 hh).1⟩
theorem own_keep {w w' : World} {b : Nat} {e : TypeId} {s : Nat} {v : Value} {n : Nat} {xs : List Value} (h : w.ownsRow b e s v n xs) (hk : ∀ g, v.ownBlock = some g → w'.heap[g]? = w.heap[g]?) : w'.ownsRow b e s v n xs := by
  obtain ⟨h1, h2⟩ := h
  refine ⟨h1, ?_⟩
  rcases h2 with h2 | ⟨g, cap, cur, rfl, hg, hgh, hr⟩
  · exact .inl h2
  · exact .inr ⟨g, cap, cur, rfl, hg, by rw [hk g rfl]; exact hgh, hr⟩
theorem own_other {w : World} {b b' : Nat} {e e' : TypeId} {s s' : Nat} {v v' : Value} {n n' : Nat} {xs xs' : List Value} (h : w.ownsRow b e s v n xs) (h' : w.ownsRow b' e' s' v' n' xs') (he : e ≠ e') {g : Nat} (hg : v.ownBlock = some g) : v'.ownBlock ≠ some g := fun hg' => by
  obtain ⟨⟨c, h1⟩, _⟩ := own_at h hg
  obtain ⟨⟨c', h2⟩, _⟩ := own_at h' hg'
  rw [h1] at h2
  injection h2 with h2
  injection h2 with _ h2
  exact he h2
/-- A machine that is being made lies in block bk: its rows, its labels so far; what lay ahead of B lies as it did. -/
structure Kept (W wr : World) (bk B : Nat) (A : Array Value) (x : Int) (v1 v2 u : Value) (Ms : List (List Int)) (ls : List Int) : Prop where
  os : wr.os = W.os
  tape : wr.tape = W.tape
  output : wr.output = W.output
  size : W.heap.size ≤ wr.heap.size
  lt : bk < B
  base : B ≤ wr.heap.size
  fr : ∀ k, k < B → k ≠ bk → wr.heap[k]? = W.heap[k]?
  box : Ar wr bk (mkC A (.int .i64 x) v1 v2 u) 27
  o1 : ∃ vs, wr.ownsRow B 24 1 v1 Ms.length vs ∧ ∀ i, i < Ms.length → ∃ vi, vs[i]? = some vi ∧ OI wr B vi (Ms.getD i []) ∧ ∀ g, vi.ownBlock = some g → v2.ownBlock ≠ some g
  o2 : OI wr B v2 ls
section
variable {W wr : World} {bk B : Nat} {A : Array Value} {x : Int} {v1 v2 u : Value} {Ms : List (List Int)} {ls : List Int}
theorem Kept.below {wr' : World} (h : Kept W wr bk B A x v1 v2 u Ms ls) (hb : Below wr.heap.size wr wr') : Kept W wr' bk B A x v1 v2 u Ms ls := by
  refine ⟨hb.os.trans h.os, hb.tape.trans h.tape, hb.output.trans h.output, Nat.le_trans h.size hb.size, h.lt, Nat.le_trans h.base hb.size, fun k k1 k2 => (hb.block k (by have := h.base; omega)).trans (h.fr k k1 k2), h.box.below hb, ?_, h.o2.below hb⟩
  obtain ⟨vs, h1, h2⟩ := h.o1
  refine ⟨vs, own_keep h1 fun g hg => hb.block g (own_at h1 hg).2.2, fun i hi => ?_⟩
  obtain ⟨vi, h3, h4, h5⟩ := h2 i hi
  exact ⟨vi, h3, h4.below hb, h5⟩
/-- A row more. -/
theorem Kept.row {w' : World} (h : Kept W wr bk B A x v1 v2 u Ms ls) (hA : A.size = 256) {vs : List Value} {vi v1' : Value} {M : List Int} (hvs : ∀ i, i < Ms.length → ∃ vi, vs[i]? = some vi ∧ OI wr B vi (Ms.getD i []) ∧ ∀ g, vi.ownBlock = some g → v2.ownBlock ≠ some g) (ho1 : wr.ownsRow B 24 1 v1 Ms.length vs)
    (hi : OI wr B vi M) (hd : ∀ g, vi.ownBlock = some g → v2.ownBlock ≠ some g) (ho : w'.ownsRow B 24 1 v1' (Ms.length + 1) (vs ++ [vi])) (hg : wr.grownBy w' v1.ownBlock) :
    Kept W (w'.setCell ⟨bk, 257, none⟩ v1') bk B A x v1' v2 u (Ms ++ [M]) ls := by
  have hne : ∀ k, k < B → some k ≠ v1.ownBlock := fun k hk e => by have := (own_at ho1 e.symm).2.1; omega
  have blk : ∀ k, k < wr.heap.size → k ≠ bk → some k ≠ v1.ownBlock → (w'.setCell ⟨bk, 257, none⟩ v1').heap[k]? = wr.heap[k]? := fun k k1 k2 k3 => (Below.heap_setCell _ ⟨bk, 257, none⟩ _ k k2).trans (hg.block k k1 k3)
  have hb := h.base
  have hlt := h.lt
  have oi : ∀ (v : Value) (l : List Int), OI wr B v l → OI (w'.setCell ⟨bk, 257, none⟩ v1') B v l := fun v l hv => own_keep hv fun g e => by
    have h1 := own_at hv e
    exact blk g h1.2.2 (by omega) (fun e2 => own_other hv ho1 (by decide) e e2.symm)
  refine ⟨hg.os.trans h.os, hg.tape.trans h.tape, hg.output.trans h.output, Nat.le_trans h.size (by have := hg.size; simp [World.setCell]; exact this), h.lt, Nat.le_trans hb (by have := hg.size; simp [World.setCell]; exact this), fun k k1 k2 => (blk k (by omega) k2 (hne k k1)).trans (h.fr k k1 k2), ?_, ⟨vs ++ [vi], ?_, fun i hi2 => ?_⟩, oi _ _ h.o2⟩
  · have h1 : Ar w' bk (mkC A (.int .i64 x) v1 v2 u) 27 := (hg.block bk (by omega) (hne bk hlt)).trans h.box
    have h2 := h1.set 257 v1'
    rw [(set_hi hA _ _ _ _ _).2.1] at h2
    exact h2
  · rw [List.length_append]
    refine own_keep ho fun g e => Below.heap_setCell _ ⟨bk, 257, none⟩ _ g (fun e2 => ?_)
    have := (own_at ho e).2.1
    have e2 : g = bk := e2
    omega
  · rw [List.length_append, List.length_singleton] at hi2
    rcases Nat.lt_or_ge i Ms.length with h' | h'
    · obtain ⟨vj, h1, h2, h3⟩ := hvs i h'
      refine ⟨vj, ?_, ?_, h3⟩
      · rw [List.getElem?_append_left (List.getElem?_eq_some_iff.1 h1).1]; exact h1
      · rw [List.getD_eq_getElem?_getD, List.getElem?_append_left h', ← List.getD_eq_getElem?_getD]; exact oi _ _ h2
    · obtain rfl : i = Ms.length := by omega
      have hvl : vs.length = Ms.length := by have := ho1.1; simpa using this
      refine ⟨vi, by rw [← hvl]; simp, ?_, hd⟩
      rw [List.getD_eq_getElem?_getD, List.getElem?_append_right (Nat.le_refl _)]
      simpa using oi _ _ hi
/-- A label more. -/
theorem Kept.lab {w' : World} (h : Kept W wr bk B A x v1 v2 u Ms ls) (hA : A.size = 256) {v2' : Value} {y : Int} (ho : OI w' B v2' (ls ++ [y])) (hg : wr.grownBy w' v2.ownBlock) (hat : ∀ g, v2'.ownBlock = some g → v2.ownBlock = some g ∨ wr.heap.size ≤ g) :
    Kept W (w'.setCell ⟨bk, 258, none⟩ v2') bk B A x v1 v2' u Ms (ls ++ [y]) := by
  have hne : ∀ k, k < B → some k ≠ v2.ownBlock := fun k hk e => by have := (own_at h.o2 e.symm).2.1; omega
  have blk : ∀ k, k < wr.heap.size → k ≠ bk → some k ≠ v2.ownBlock → (w'.setCell ⟨bk, 258, none⟩ v2').heap[k]? = wr.heap[k]? := fun k k1 k2 k3 => (Below.heap_setCell _ ⟨bk, 258, none⟩ _ k k2).trans (hg.block k k1 k3)
  have hb := h.base
  have hlt := h.lt
  obtain ⟨vs, ho1, hvs⟩ := h.o1
  refine ⟨hg.os.trans h.os, hg.tape.trans h.tape, hg.output.trans h.output, Nat.le_trans h.size (by have := hg.size; simp [World.setCell]; exact this), h.lt, Nat.le_trans hb (by have := hg.size; simp [World.setCell]; exact this), fun k k1 k2 => (blk k (by omega) k2 (hne k k1)).trans (h.fr k k1 k2), ?_, ⟨vs, ?_, fun i hi2 => ?_⟩, ?_⟩
  · have h1 : Ar w' bk (mkC A (.int .i64 x) v1 v2 u) 27 := (hg.block bk (by omega) (hne bk hlt)).trans h.box
    have h2 := h1.set 258 v2'
    rw [(set_hi hA _ _ _ _ _).2.2.1] at h2
    exact h2
  · refine own_keep ho1 fun g e => ?_
    have h1 := own_at ho1 e
    exact blk g h1.2.2 (by omega) (fun e2 => own_other ho1 h.o2 (by decide) e e2.symm)
  · obtain ⟨vi, h1, h2, h3⟩ := hvs i hi2
    refine ⟨vi, h1, own_keep h2 fun g e => ?_, fun g e e2 => ?_⟩
    · have h4 := own_at h2 e
      exact blk g h4.2.2 (by omega) (fun e2 => h3 g e e2.symm)
    · rcases hat g e2 with e3 | e3
      · exact h3 g e e3
      · have := (own_at h2 e).2.2; omega
  · refine own_keep ho fun g e => Below.heap_setCell _ ⟨bk, 258, none⟩ _ g (fun e2 => ?_)
    have := (own_at ho e).2.1
    have e2 : g = bk := e2
    omega
theorem Kept.blow (h : Kept W wr bk B A x v1 v2 u Ms ls) {n : Nat} (hn : n ≤ bk) : Below n W wr := ⟨h.os, h.tape, h.output, h.size, fun k hk => h.fr k (by have := h.lt; omega) (by omega)⟩
theorem Kept.at (h : Kept W wr bk B A x v1 v2 u Ms ls) (hA : A.size = 256) : wr.cell? ⟨bk, 257, none⟩ = some v1 ∧ wr.cell? ⟨bk, 258, none⟩ = some v2 :=
  ⟨(Ar.at' h.box 257).trans (mkC_hi hA _ _ _ _ 1), (Ar.at' h.box 258).trans (mkC_hi hA _ _ _ _ 2)⟩
theorem Kept.grown1 {w' : World} (h : Kept W wr bk B A x v1 v2 u Ms ls) (hA : A.size = 256) (hg : wr.grownBy w' v1.ownBlock) : (∃ y, w'.cell? ⟨bk, 257, none⟩ = some y) ∧ w'.frozen? ⟨bk, 257, none⟩ = false := by
  obtain ⟨vs, ho1, _⟩ := h.o1
  have h1 : Ar w' bk (mkC A (.int .i64 x) v1 v2 u) 27 := (hg.block bk (by have := h.lt; have := h.base; omega) fun e => by have := (own_at ho1 e.symm).2.1; have := h.lt; omega).trans h.box
  exact ⟨⟨_, (Ar.at' h1 257).trans (mkC_hi hA _ _ _ _ 1)⟩, Ar.frozen h1 257⟩
theorem Kept.grown2 {w' : World} (h : Kept W wr bk B A x v1 v2 u Ms ls) (hA : A.size = 256) (hg : wr.grownBy w' v2.ownBlock) : (∃ y, w'.cell? ⟨bk, 258, none⟩ = some y) ∧ w'.frozen? ⟨bk, 258, none⟩ = false := by
  have h1 : Ar w' bk (mkC A (.int .i64 x) v1 v2 u) 27 := (hg.block bk (by have := h.lt; have := h.base; omega) fun e => by have := (own_at h.o2 e.symm).2.1; have := h.lt; omega).trans h.box
  exact ⟨⟨_, (Ar.at' h1 258).trans (mkC_hi hA _ _ _ _ 2)⟩, Ar.frozen h1 258⟩
theorem Kept.setRow (h : Kept W wr bk B A x v1 v2 u Ms ls) {b : Nat} (hb : b < B) (hn : b ≠ bk) (D : Array Value) : Kept (W.setRow b D) (wr.setRow b D) bk B A x v1 v2 u Ms ls := by
  have oi : ∀ {e : TypeId} {s : Nat} {v : Value} {n : Nat} {xs : List Value}, wr.ownsRow B e s v n xs → (wr.setRow b D).ownsRow B e s v n xs := fun ho => own_keep ho fun g hg => heap_row _ _ _ (by have := (own_at ho hg).2.1; omega)
  refine ⟨h.os, h.tape, h.output, by rw [size_row, size_row]; exact h.size, h.lt, by rw [size_row]; exact h.base, fun k k1 k2 => ?_, (heap_row _ _ _ (fun e => hn e.symm)).trans h.box, ?_, oi h.o2⟩
  · have h1 := h.fr k k1 k2
    show (wr.heap.modify b _)[k]? = (W.heap.modify b _)[k]?
    rw [Array.getElem?_modify, Array.getElem?_modify, h1]
  · obtain ⟨vs, h1, h2⟩ := h.o1
    exact ⟨vs, oi h1, fun i hi => by obtain ⟨vi, h3, h4, h5⟩ := h2 i hi; exact ⟨vi, h3, oi h4, h5⟩⟩
/-- What is made is a machine. -/
theorem Kept.is (h : Kept W wr bk B A x v1 v2 u Ms ls) {f : Nat → Nat} (hA : IsA A f) (hf : ∀ i, i < 256 → f i < 256) {tl : List ByteArray} (hu : TS wr.heap.size wr u tl) : IsM wr.heap.size wr (mkC A (.int .i64 x) v1 v2 u) ⟨f, x, Ms, ls, tl⟩ := by
  refine mkC_is (m := ⟨f, x, Ms, ls, tl⟩) hA hf ?_ h.o2.is hu
  obtain ⟨vs, h1, h2⟩ := h.o1
  have hl : vs.length = Ms.length := by have := h1.1; simpa using this
  refine ⟨vs, VS.of_owns h1 fun a c e => ?_, hl, fun i hi => ?_⟩
  · rcases h1.2 with ⟨e2, _⟩ | ⟨g, cap, cur, e2, _, _, _, hc, _⟩
    · rw [e2] at e; simp only [Value.slice.injEq] at e; have := e.2.2; omega
    · rw [e2] at e; simp only [Value.slice.injEq] at e; rw [← e.2.2]; exact hc
  · obtain ⟨vi, h3, h4, _⟩ := h2 i hi
    exact ⟨vi, h3, h4.is⟩
end
/-- A machine that reads nowhere below lo. -/
def Rd (lo : Nat) (w : World) (D : Array Value) (m : Mc) : Prop := ∀ w'' : World, w.heap.size ≤ w''.heap.size → (∀ k, lo ≤ k → k < w.heap.size → w''.heap[k]? = w.heap[k]?) → IsM w''.heap.size w'' D m
theorem Rd.is {lo : Nat} {w : World} {D : Array Value} {m : Mc} (h : Rd lo w D m) : IsM w.heap.size w D m := h w (Nat.le_refl _) fun _ _ _ => rfl
theorem Rd.next {lo : Nat} {w w' : World} {D : Array Value} {m : Mc} (h : Rd lo w D m) (hb : Below w.heap.size w w') : Rd lo w' D m := fun w'' h1 h2 => h w'' (Nat.le_trans hb.size h1) fun k k1 k2 => (h2 k k1 (Nat.lt_of_lt_of_le k2 hb.size)).trans (hb.block k k2)
theorem Rd.row {lo b : Nat} {w : World} {D : Array Value} {m : Mc} (h : Rd lo w D m) (hb : b < lo) (E : Array Value) : Rd lo (w.setRow b E) D m := fun w'' h1 h2 => h w'' (by rw [size_row] at h1; exact h1) fun k k1 k2 => (h2 k k1 (by rw [size_row]; exact k2)).trans (heap_row _ _ _ (by omega))
theorem Rd.mono {lo lo' : Nat} {w : World} {D : Array Value} {m : Mc} (h : Rd lo w D m) (hl : lo' ≤ lo) : Rd lo' w D m := fun w'' h1 h2 => h w'' h1 fun k k1 k2 => h2 k (Nat.le_trans hl k1) k2
/-- What is made reads nowhere else. -/
theorem Kept.rd {W wr : World} {bk B : Nat} {A : Array Value} {x : Int} {v1 v2 u : Value} {Ms : List (List Int)} {ls : List Int} (h : Kept W wr bk B A x v1 v2 u Ms ls) {f : Nat → Nat} (hA : IsA A f) (hf : ∀ i, i < 256 → f i < 256) {tl : List ByteArray} {b0 lo : Nat}
    (hu : wr.ownsRow b0 9 1 u tl.length (tl.map Value.string)) (hs : ∀ i, i < tl.length → (tl.getD i ByteArray.empty).size ≤ 9223372036854775807) (h1 : lo ≤ B) (h2 : lo ≤ b0) : Rd lo wr (mkC A (.int .i64 x) v1 v2 u) ⟨f, x, Ms, ls, tl⟩ := fun w'' hsz hk => by
  have ok : ∀ {b : Nat} {e : TypeId} {s : Nat} {v : Value} {n : Nat} {xs : List Value}, lo ≤ b → wr.ownsRow b e s v n xs → w''.ownsRow b e s v n xs := fun hb ho => own_keep ho fun g hg => hk g (Nat.le_trans hb (own_at ho hg).2.1) (own_at ho hg).2.2
  have hts : TS w''.heap.size w'' u tl := by
    refine ⟨VS.of_owns (ok h2 hu) fun a c e => ?_, hs⟩
    rcases hu.2 with ⟨e2, _⟩ | ⟨g, cap, cur, e2, _, _, _, hc, _⟩
    · rw [e2] at e; simp only [Value.slice.injEq] at e; have := e.2.2; omega
    · rw [e2] at e; simp only [Value.slice.injEq] at e; rw [← e.2.2]; exact hc
  refine mkC_is (m := ⟨f, x, Ms, ls, tl⟩) hA hf ?_ (OI.is (base := B) (ok h1 h.o2)) hts
  obtain ⟨vs, k1, k2⟩ := h.o1
  have hl : vs.length = Ms.length := by have := k1.1; simpa using this
  refine ⟨vs, VS.of_owns (ok h1 k1) fun a c e => ?_, hl, fun i hi => ?_⟩
  · rcases k1.2 with ⟨e2, _⟩ | ⟨g, cap, cur, e2, _, _, _, hc, _⟩
    · rw [e2] at e; simp only [Value.slice.injEq] at e; have := e.2.2; omega
    · rw [e2] at e; simp only [Value.slice.injEq] at e; rw [← e.2.2]; exact hc
  · obtain ⟨vi, h3, h4, _⟩ := k2 i hi
    exact ⟨vi, h3, OI.is (base := B) (ok h1 h4)⟩
theorem zero_is (w : World) : IsM w.heap.size w Try.zeroCells27 zeroM := by
  rw [zc]
  exact mkC_is (m := zeroM) zA_is (fun i _ => by show (0 : Nat) < 256; decide) ⟨[], VS.nil _ _ _, rfl, fun i hi => by simp [zeroM] at hi⟩ (VS.nil _ _ _) ⟨VS.nil _ _ _, fun i hi => by simp [zeroM] at hi⟩
theorem zero_rd (lo : Nat) (w : World) : Rd lo w Try.zeroCells27 zeroM := fun w'' _ _ => zero_is w''
/-- The beginning. -/
theorem Kept.first {W : World} {bk : Nat} {A : Array Value} {x : Int} {u : Value} (h : Ar W bk (mkC A (.int .i64 x) nilS nilS u) 27) : Kept W W bk W.heap.size A x nilS nilS u [] [] :=
  ⟨rfl, rfl, rfl, Nat.le_refl _, h.lt, Nat.le_refl _, fun _ _ _ => rfl, h, ⟨[], World.ownsRow_nil _ _ _ _, fun i hi => by simp at hi⟩, OI.nil _ _⟩
/-- A row that was made whole is a list of the call's own. -/
theorem Rw.own {w : World} {g b : Nat} {M : List Int} (h : Rw w g M.length M M.length) (hb : b ≤ g) (hN : M.length ≤ 65536) : OI w b (.slice (some ⟨g, 0, none⟩) M.length M.length) M := by
  obtain ⟨C, h1, h2, h3⟩ := h
  refine ⟨by simp, .inr ⟨g, M.length, C, rfl, hb, h1, Nat.le_refl _, by unfold maxLen; omega, by simpa using h2, ?_⟩⟩
  apply List.ext_getElem?
  intro i
  rw [Nat.mul_one, List.getElem?_take]
  by_cases hi : i < M.length
  · rw [if_pos hi, Array.getElem?_toList, h3 i hi]
    simp [List.getD, hi]
  · rw [if_neg hi, List.getElem?_eq_none (by simp; omega)]
end Go.Proofs.Ytkghnjgioijgpaa.DfaW
