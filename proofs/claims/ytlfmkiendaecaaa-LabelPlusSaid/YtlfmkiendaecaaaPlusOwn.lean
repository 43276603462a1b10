/- Rows in memory of the call's own, counted up one by one; a row, a label put ahead. -/
import Derived.Test.YtlfmkiendaecaaaChanged
import Derived.Test.YtlfmkiendaecaaaInsertL
import Derived.Laws.OwnMore
namespace Go.Proofs.Ytlfmkiendaecaaa.DfaW
set_option linter.unusedVariables false
set_option linter.unusedSimpArgs false
open Go.RowKit Go.Maps Go.Proofs.Ytlfmkiendaecaaa.PartM Go.Proofs.Ytlfmkiendaecaaa.PartW Go.Proofs.Ytlfmkiendaecaaa.TxM
/-- A row of which the first c numbers are one further on; rows of which the first k are so, and of number k the first c. -/
def upc (r : List Int) (c : Nat) : List Int := r.mapIdx fun i x => if i < c then x + 1 else x
def ups (M : List (List Int)) (k c : Nat) : List (List Int) := M.mapIdx fun i r => if i < k then upL r else if i = k then upc r c else r
theorem upc_len (r : List Int) (c : Nat) : (upc r c).length = r.length := by simp [upc]
theorem ups_len (M : List (List Int)) (k c : Nat) : (ups M k c).length = M.length := by simp [ups]
theorem upc_get (r : List Int) (c j : Nat) : (upc r c)[j]? = (r[j]?).map fun x => if j < c then x + 1 else x := by unfold upc; rw [List.getElem?_mapIdx]
theorem ups_get (M : List (List Int)) (k c j : Nat) : (ups M k c)[j]? = (M[j]?).map fun r => if j < k then upL r else if j = k then upc r c else r := by unfold ups; rw [List.getElem?_mapIdx]
theorem upc_zero (r : List Int) : upc r 0 = r := List.ext_getElem? fun j => by rw [upc_get]; simp
theorem upc_all (r : List Int) : upc r r.length = upL r := List.ext_getElem? fun j => by
  rw [upc_get]
  unfold upL
  rw [List.getElem?_map]
  rcases Nat.lt_or_ge j r.length with h | h
  · simp [h]
  · simp [List.getElem?_eq_none h]
theorem upc_set {r : List Int} {c : Nat} (hc : c < r.length) : (upc r c).set c (r.getD c 0 + 1) = upc r (c + 1) := List.ext_getElem? fun j => by
  rw [List.getElem?_set, upc_get, upc_get, upc_len]
  by_cases e : c = j
  · subst e
    simp [hc, List.getD]
  · rw [if_neg e]
    have : (j < c) = (j < c + 1) := by apply propext; omega
    simp only [this]
theorem upc_at {r : List Int} {c : Nat} (hc : c < r.length) : (upc r c).getD c 0 = r.getD c 0 := by
  rw [List.getD_eq_getElem?_getD, upc_get, List.getElem?_eq_getElem hc, List.getD_eq_getElem?_getD, List.getElem?_eq_getElem hc]
  simp
theorem ups_at {M : List (List Int)} {k : Nat} (hk : k < M.length) (c : Nat) : (ups M k c).getD k [] = upc (M.getD k []) c := by
  rw [List.getD_eq_getElem?_getD, ups_get, List.getElem?_eq_getElem hk, List.getD_eq_getElem?_getD, List.getElem?_eq_getElem hk]
  simp
theorem ups_set {M : List (List Int)} {k : Nat} (hk : k < M.length) (c : Nat) : (ups M k c).set k (upc (M.getD k []) (c + 1)) = ups M k (c + 1) := List.ext_getElem? fun j => by
  rw [List.getElem?_set, ups_get, ups_get, ups_len]
  by_cases e : k = j
  · subst e
    simp [hk, List.getD]
  · rw [if_neg e]
    have : ¬ j = k := fun h => e h.symm
    simp only [this, if_false]
theorem ups_start (M : List (List Int)) : ups M 0 0 = M := List.ext_getElem? fun j => by
  rw [ups_get]
  cases h : M[j]? with
  | none => rfl
  | some r => by_cases e : j = 0 <;> simp [e, upc_zero]
theorem ups_row {M : List (List Int)} {k : Nat} (hk : k < M.length) : ups M k (M.getD k []).length = ups M (k + 1) 0 := List.ext_getElem? fun j => by
  rw [ups_get, ups_get]
  cases h : M[j]? with
  | none => rfl
  | some r =>
    rcases Nat.lt_trichotomy j k with e | e | e
    · simp [e, show j < k + 1 by omega]
    · subst e
      simp [List.getD, h, upc_all]
    · by_cases e2 : j = k + 1
      · subst e2; simp [upc_zero, show ¬ k + 1 < k by omega]
      · simp [show ¬ j < k by omega, show ¬ j = k by omega, show ¬ j < k + 1 by omega, e2]
theorem ups_end (M : List (List Int)) : ups M M.length 0 = M.map upL := List.ext_getElem? fun j => by
  rw [ups_get, List.getElem?_map]
  rcases Nat.lt_or_ge j M.length with h | h
  · simp [h]
  · simp [List.getElem?_eq_none h]
theorem OI.set {w : World} {B g n c j : Nat} {r : List Int} (h : OI w B (.slice (some ⟨g, 0, none⟩) n c) r) (hn : n = r.length) (y : Int) : OI (w.setCell ⟨g, j, none⟩ (.int .i64 y)) B (.slice (some ⟨g, 0, none⟩) n c) (r.set j y) := by
  subst hn
  have := (World.ownsRow.stored (show w.ownsRow B 3 1 (.slice (some ⟨g, 0, none⟩) r.length c) r.length _ from h) j (.int .i64 y)).1
  show World.ownsRow _ _ _ _ _ (r.set j y).length _
  rw [List.length_set, List.map_set]
  exact this
/-- Rows, labels and names of the call's own, and a box with all of them; what lay ahead of B lies. -/
structure PS (w0 w : World) (bk B : Nat) (A : Array Value) (x : Int) (v1 v2 u : Value) (vs : List Value) (Ms : List (List Int)) (ls : List Int) (l : List ByteArray) : Prop where
  below : Below B w0 w
  size : B ≤ w.heap.size
  hbk : B ≤ bk
  box : Ar w bk (mkC A (.int .i64 x) v1 v2 u) 27
  r : w.ownsRow B 24 1 v1 Ms.length vs
  e : ∀ i, i < Ms.length → ∃ vi, vs[i]? = some vi ∧ OI w B vi (Ms.getD i []) ∧ ∀ g, vi.ownBlock = some g → v2.ownBlock ≠ some g
  d : Dis vs
  o2 : OI w B v2 ls
  o3 : OS w B u l
theorem ar_type {w : World} {bk b n : Nat} {Z : Array Value} {t e : TypeId} {v : Value} {xs : List Value} (h : Ar w bk Z t) (ho : w.ownsRow b e 1 v n xs) (he : t ≠ e) {g : Nat} (hg : v.ownBlock = some g) : g ≠ bk := fun h1 => by
  subst h1
  obtain ⟨⟨cur, h2⟩, _⟩ := own_at ho hg
  have h3 : w.heap[g]? = _ := h
  rw [h3] at h2
  injection h2 with h2
  injection h2 with _ h2
  exact he h2
theorem below_cell' {n : Nat} {w W : World} {b i : Nat} {v : Value} (h : Below n w W) (hb : n ≤ b) : Below n w (W.setCell ⟨b, i, none⟩ v) :=
  ⟨h.os, h.tape, h.output, by have := h.size; simp [World.setCell]; exact this, fun k hk => (Below.heap_setCell _ ⟨b, i, none⟩ _ k (by intro e; have e : k = b := e; omega)).trans (h.block k hk)⟩
section
variable {w0 w : World} {bk B : Nat} {A : Array Value} {x : Int} {v1 v2 u : Value} {vs : List Value} {Ms : List (List Int)} {ls : List Int} {l : List ByteArray}
theorem PS.next {w' : World} (h : PS w0 w bk B A x v1 v2 u vs Ms ls l) (hb : Below w.heap.size w w') : PS w0 w' bk B A x v1 v2 u vs Ms ls l := by
  have k : ∀ {b : Nat} {e : TypeId} {v : Value} {n : Nat} {xs : List Value}, w.ownsRow b e 1 v n xs → w'.ownsRow b e 1 v n xs := fun ho => own_keep ho fun g hg => hb.block g (own_at ho hg).2.2
  refine ⟨h.below.trans (hb.mono h.size), Nat.le_trans h.size hb.size, h.hbk, h.box.below hb, k h.r, fun i hi => ?_, h.d, k h.o2, k h.o3⟩
  obtain ⟨vi, h1, h2, h3⟩ := h.e i hi
  exact ⟨vi, h1, k h2, h3⟩
theorem PS.apart (h : PS w0 w bk B A x v1 v2 u vs Ms ls l) {i k : Nat} (hi : i < Ms.length) (hk : k < Ms.length) (hne : i ≠ k) {vi vk : Value} (h1 : vs[i]? = some vi) (h2 : vs[k]? = some vk) {g : Nat} (hg : vk.ownBlock = some g) : vi.ownBlock ≠ some g := fun hg' => by
  obtain ⟨hi', rfl⟩ := List.getElem?_eq_some_iff.1 h1
  obtain ⟨hk', rfl⟩ := List.getElem?_eq_some_iff.1 h2
  have hd := List.pairwise_iff_getElem.1 h.d
  rcases Nat.lt_or_gt_of_ne hne with h3 | h3
  · exact hd i k hi' hk' h3 g hg' hg
  · exact hd k i hk' hi' h3 g hg hg'
/-- One number of one row. -/
theorem PS.set (h : PS w0 w bk B A x v1 v2 u vs Ms ls l) {k : Nat} (hk : k < Ms.length) {g n c : Nat} (hv : vs[k]? = some (.slice (some ⟨g, 0, none⟩) n c)) (j : Nat) (y : Int) : PS w0 (w.setCell ⟨g, j, none⟩ (.int .i64 y)) bk B A x v1 v2 u vs (Ms.set k ((Ms.getD k []).set j y)) ls l := by
  obtain ⟨vk, h1, h2, h3⟩ := h.e k hk
  rw [hv] at h1
  injection h1 with h1
  subst h1
  have hB := (own_at h2 (g := g) rfl).2.1
  have kp : ∀ {b : Nat} {e : TypeId} {v : Value} {n : Nat} {xs : List Value}, w.ownsRow b e 1 v n xs → v.ownBlock ≠ some g → (w.setCell ⟨g, j, none⟩ (.int .i64 y)).ownsRow b e 1 v n xs := fun ho hne => own_keep ho fun q hq => Below.heap_setCell _ ⟨g, j, none⟩ _ q (fun e => hne (by have e : q = g := e; rw [← e]; exact hq))
  have hn : n = (Ms.getD k []).length := by
    obtain ⟨a', c', e, _⟩ := h2.len
    simp only [Value.slice.injEq] at e
    exact e.2.1
  refine ⟨below_cell' h.below hB, ?_, h.hbk, ?_, ?_, fun i hi => ?_, h.d, kp h.o2 (h3 g rfl), kp h.o3 ?_⟩
  · have := h.size; simp [World.setCell]; exact this
  · exact (Below.heap_setCell _ ⟨g, j, none⟩ _ bk (fun e => ar_type h.box h2 (by decide) (g := g) rfl (by have e : bk = g := e; exact e.symm))).trans h.box
  · rw [List.length_set]
    exact kp h.r (fun e => own_other h.r h2 (by decide) e rfl)
  · rw [List.length_set] at hi
    obtain ⟨vi, k1, k2, k3⟩ := h.e i hi
    by_cases e : k = i
    · subst e
      rw [hv] at k1
      injection k1 with k1
      subst k1
      refine ⟨_, hv, ?_, k3⟩
      rw [List.getD_eq_getElem?_getD, List.getElem?_set, if_pos rfl, if_pos hk, Option.getD_some]
      exact OI.set k2 hn y
    · refine ⟨vi, k1, ?_, k3⟩
      rw [List.getD_eq_getElem?_getD, List.getElem?_set, if_neg e, ← List.getD_eq_getElem?_getD]
      exact kp k2 (h.apart hi hk (fun h => e h.symm) k1 hv rfl)
  · exact fun e => own_other h.o3 h2 (by decide) e rfl
/-- A row ahead. -/
theorem PS.row {w' : World} (h : PS w0 w bk B A x v1 v2 u vs Ms ls l) (hA : A.size = 256) {v1' u0 : Value} {r : List Int} (h0 : OI w B u0 r) (hd0 : ∀ g, u0.ownBlock = some g → v2.ownBlock ≠ some g ∧ ∀ (i : Nat) (vi : Value), vs[i]? = some vi → vi.ownBlock ≠ some g)
    (ho : w'.ownsRow B 24 1 v1' (Ms.length + 1) (u0 :: vs)) (hg : w.grownBy w' v1.ownBlock) : PS w0 (w'.setCell ⟨bk, 257, none⟩ v1') bk B A x v1' v2 u (u0 :: vs) (r :: Ms) ls l := by
  have blk : ∀ k, k < w.heap.size → k ≠ bk → some k ≠ v1.ownBlock → (w'.setCell ⟨bk, 257, none⟩ v1').heap[k]? = w.heap[k]? := fun k k1 k2 k3 => (Below.heap_setCell _ ⟨bk, 257, none⟩ _ k k2).trans (hg.block k k1 k3)
  have kp : ∀ {b n : Nat} {e : TypeId} {v : Value} {xs : List Value}, w.ownsRow b e 1 v n xs → 27 ≠ e → e ≠ 24 → (w'.setCell ⟨bk, 257, none⟩ v1').ownsRow b e 1 v n xs := fun ho he1 he2 => own_keep ho fun q hq => blk q (own_at ho hq).2.2 (ar_type h.box ho he1 hq) (fun e => own_other ho h.r he2 hq e.symm)
  have hbx : Ar w' bk (mkC A (.int .i64 x) v1 v2 u) 27 := (hg.block bk h.box.lt (fun e => ar_type h.box h.r (by decide) e.symm rfl)).trans h.box
  refine ⟨below_cell' (h.below.trans (below_own h.size h.r hg)) h.hbk, ?_, h.hbk, ?_, ?_, fun i hi => ?_, ?_, kp h.o2 (by decide) (by decide), kp h.o3 (by decide) (by decide)⟩
  · have := h.size; have := hg.size; simp [World.setCell]; omega
  · have h2 := hbx.set 257 v1'
    rw [(set_hi hA _ _ _ _ _).2.1] at h2
    exact h2
  · rw [List.length_cons]
    exact own_keep ho fun q hq => Below.heap_setCell _ ⟨bk, 257, none⟩ _ q (ar_type hbx ho (by decide) hq)
  · cases i with
    | zero => exact ⟨u0, rfl, kp h0 (by decide) (by decide), fun g hg => (hd0 g hg).1⟩
    | succ i =>
      obtain ⟨vi, k1, k2, k3⟩ := h.e i (by simpa using hi)
      exact ⟨vi, k1, kp k2 (by decide) (by decide), k3⟩
  · refine List.pairwise_cons.2 ⟨fun b hb g hg => ?_, h.d⟩
    obtain ⟨i, hi, rfl⟩ := List.mem_iff_getElem.1 hb
    exact (hd0 g hg).2 i _ (List.getElem?_eq_getElem hi)
/-- A label ahead. -/
theorem PS.lab {w' : World} (h : PS w0 w bk B A x v1 v2 u vs Ms ls l) (hA : A.size = 256) {v2' : Value} {ls' : List Int} (ho : OI w' B v2' ls') (hg : w.grownBy w' v2.ownBlock) (hat : v2'.ownBlock = v2.ownBlock ∨ ∃ q, v2'.ownBlock = some q ∧ w.heap.size ≤ q) : PS w0 (w'.setCell ⟨bk, 258, none⟩ v2') bk B A x v1 v2' u vs Ms ls' l := by
  have blk : ∀ k, k < w.heap.size → k ≠ bk → some k ≠ v2.ownBlock → (w'.setCell ⟨bk, 258, none⟩ v2').heap[k]? = w.heap[k]? := fun k k1 k2 k3 => (Below.heap_setCell _ ⟨bk, 258, none⟩ _ k k2).trans (hg.block k k1 k3)
  have kp : ∀ {b n : Nat} {e : TypeId} {v : Value} {xs : List Value}, w.ownsRow b e 1 v n xs → 27 ≠ e → (∀ g, v.ownBlock = some g → v2.ownBlock ≠ some g) → (w'.setCell ⟨bk, 258, none⟩ v2').ownsRow b e 1 v n xs := fun ho he1 he2 => own_keep ho fun q hq => blk q (own_at ho hq).2.2 (ar_type h.box ho he1 hq) (fun e => he2 q hq e.symm)
  have hbx : Ar w' bk (mkC A (.int .i64 x) v1 v2 u) 27 := (hg.block bk h.box.lt (fun e => ar_type h.box h.o2 (by decide) e.symm rfl)).trans h.box
  refine ⟨below_cell' (h.below.trans (below_own h.size h.o2 hg)) h.hbk, ?_, h.hbk, ?_, kp h.r (by decide) (fun g hg => own_other h.r h.o2 (by decide) hg), fun i hi => ?_, h.d, ?_, kp h.o3 (by decide) (fun g hg => own_other h.o3 h.o2 (by decide) hg)⟩
  · have := h.size; have := hg.size; simp [World.setCell]; omega
  · have h2 := hbx.set 258 v2'
    rw [(set_hi hA _ _ _ _ _).2.2.1] at h2
    exact h2
  · obtain ⟨vi, k1, k2, k3⟩ := h.e i hi
    refine ⟨vi, k1, kp k2 (by decide) k3, fun g hg => ?_⟩
    rcases hat with e | ⟨q, e, hq⟩
    · rw [e]; exact k3 g hg
    · rw [e]
      intro e2
      injection e2 with e2
      have := (own_at k2 hg).2.2
      omega
  · exact own_keep ho fun q hq => Below.heap_setCell _ ⟨bk, 258, none⟩ _ q (ar_type hbx ho (by decide) hq)
theorem PS.own (h : PS w0 w bk B A x v1 v2 u vs Ms ls l) : Own w B v1 v2 u Ms ls l := ⟨⟨vs, h.r, h.e, h.d⟩, h.o2, h.o3⟩
end
end Go.Proofs.Ytlfmkiendaecaaa.DfaW
