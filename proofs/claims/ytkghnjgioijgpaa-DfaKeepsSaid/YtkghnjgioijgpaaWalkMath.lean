/- What the walk of states knows between its rounds. -/
import Derived.Test.YtkghnjgioijgpaaWin
import Derived.Test.YtkghnjgioijgpaaBfs
import Derived.Deep.OwnRows
namespace Go.Proofs.Ytkghnjgioijgpaa.DfaW
set_option linter.unusedVariables false
open Go.RowKit Go.Maps Go.Proofs.Ytkghnjgioijgpaa.PartW Go.Proofs.Ytkghnjgioijgpaa.DfaM

/-- Numbers as integers. -/
def castL (l : List Nat) : List Int := l.map fun (x : Nat) => (x : Int)
theorem castL_len (l : List Nat) : (castL l).length = l.length := by simp [castL]
theorem castL_at (l : List Nat) (i : Nat) : (castL l).getD i 0 = (l.getD i 0 : Nat) := by
  unfold castL
  rcases Nat.lt_or_ge i l.length with h | h
  · simp [List.getD, h]
  · simp [List.getD, h]
def castLL (l : List (List Nat)) : List (List Int) := l.map castL
theorem castLL_len (l : List (List Nat)) : (castLL l).length = l.length := by simp [castLL]
theorem castLL_at (l : List (List Nat)) (i : Nat) : (castLL l).getD i [] = castL (l.getD i []) := by
  unfold castLL
  rcases Nat.lt_or_ge i l.length with h | h
  · simp [List.getD, h]
  · simp [List.getD, h, castL]

/-- The lists that wait when the states of o have been met. -/
def St (nb : Nat → List Nat) (l : List Nat) (N : Nat) (o : List Nat) (rows : List (List Nat)) : Prop :=
  (o = [] ∧ rows = [l]) ∨ ∃ k, k ≤ N ∧ o = bfs nb l k ∧ rows = (o.drop k).map nb
theorem St.next {nb : Nat → List Nat} {l : List Nat} {N : Nat} (hin : In nb l N) {o r : List Nat} {rest : List (List Nat)} (h : St nb l N o (r :: rest)) :
    St nb l N (puts o r) (rest ++ ((puts o r).drop o.length).map nb) := by
  rcases h with ⟨rfl, h⟩ | ⟨k, hk, rfl, h⟩
  · simp only [List.cons.injEq] at h
    obtain ⟨rfl, rfl⟩ := h
    exact .inr ⟨0, Nat.zero_le _, rfl, by simp⟩
  · have hlt : k < (bfs nb l k).length := by
      rcases Nat.lt_or_ge k (bfs nb l k).length with h' | h'
      · exact h'
      · rw [List.drop_of_length_le h'] at h; cases h
    rw [List.drop_eq_getElem_cons hlt, List.map_cons] at h
    simp only [List.cons.injEq] at h
    obtain ⟨rfl, rfl⟩ := h
    have e : (bfs nb l k)[k]? = some (bfs nb l k)[k] := List.getElem?_eq_getElem hlt
    have hkN : k < N := Nat.lt_of_lt_of_le hlt (hin.len k)
    refine .inr ⟨k + 1, hkN, (bfs_next e).symm, ?_⟩
    obtain ⟨t, ht⟩ := puts_prefix (ts := nb (bfs nb l k)[k]) (bfs nb l k)
    rw [← ht, List.drop_left, List.drop_append_of_le_length (by omega), List.map_append]
theorem St.done {nb : Nat → List Nat} {l : List Nat} {N : Nat} (hin : In nb l N) {o : List Nat} (h : St nb l N o []) : o = fin nb l N := by
  rcases h with ⟨_, h⟩ | ⟨k, hk, rfl, h⟩
  · cases h
  · have h2 := congrArg List.length h
    simp only [List.length_nil, List.length_map, List.length_drop] at h2
    exact (fin_of hin hk (by omega)).symm
theorem St.nodup {nb : Nat → List Nat} {l : List Nat} {N : Nat} {o : List Nat} {rows : List (List Nat)} (h : St nb l N o rows) : o.Nodup := by
  rcases h with ⟨rfl, h⟩ | ⟨k, hk, rfl, h⟩
  · exact List.nodup_nil
  · exact bfs_nodup k
theorem St.lt {nb : Nat → List Nat} {l : List Nat} {N : Nat} (hin : In nb l N) {o : List Nat} {rows : List (List Nat)} (h : St nb l N o rows) : ∀ x ∈ o, x < N := by
  rcases h with ⟨rfl, h⟩ | ⟨k, hk, rfl, h⟩
  · intro x hx; cases hx
  · exact hin.lt k
theorem St.row {nb : Nat → List Nat} {l : List Nat} {N : Nat} (hin : In nb l N) {o r : List Nat} {rest : List (List Nat)} (h : St nb l N o (r :: rest)) : ∀ x ∈ r, x < N := by
  rcases h with ⟨rfl, h⟩ | ⟨k, hk, rfl, h⟩
  · simp only [List.cons.injEq] at h
    rw [h.1]; exact hin.l
  · have hlt : k < (bfs nb l k).length := by
      rcases Nat.lt_or_ge k (bfs nb l k).length with h' | h'
      · exact h'
      · rw [List.drop_of_length_le h'] at h; cases h
    rw [List.drop_eq_getElem_cons hlt, List.map_cons] at h
    simp only [List.cons.injEq] at h
    rw [h.1]
    exact hin.nb _ (hin.lt k _ (List.getElem_mem hlt))
theorem St.len {nb : Nat → List Nat} {l : List Nat} {N : Nat} (hin : In nb l N) {o : List Nat} {rows : List (List Nat)} (h : St nb l N o rows) : rows.length ≤ N + 1 := by
  rcases h with ⟨rfl, rfl⟩ | ⟨k, hk, rfl, rfl⟩
  · simp
  · have := hin.len (l := l) k
    simp only [List.length_map, List.length_drop]
    omega
theorem puts_ok {o ts : List Nat} {N : Nat} (hn : o.Nodup) (ho : ∀ x ∈ o, x < N) (ht : ∀ x ∈ ts, x < N) : (puts o ts).Nodup ∧ (∀ x ∈ puts o ts, x < N) ∧ (puts o ts).length ≤ N := by
  have h1 := puts_nodup (ts := ts) hn
  have h2 : ∀ x ∈ puts o ts, x < N := fun x hx => (mem_puts.1 hx).elim (ho x) (ht x)
  exact ⟨h1, h2, nodup_le h1 h2⟩
theorem puts_take (o r : List Nat) {j : Nat} (hj : j < r.length) : puts o (r.take (j + 1)) = put (puts o (r.take j)) (r.getD j 0) := by
  rw [List.take_succ_eq_append_getElem hj, puts_snoc, List.getD_eq_getElem?_getD, List.getElem?_eq_getElem hj]; rfl
theorem puts_len {o ts : List Nat} : o.length ≤ (puts o ts).length := (puts_prefix o).length_le
theorem drop_put {o ts : List Nat} {x : Nat} (h : x ∉ puts o ts) : ((puts o ts ++ [x]).drop o.length) = (puts o ts).drop o.length ++ [x] := List.drop_append_of_le_length puts_len

/-- What lay ahead of B0 lies as it did, but the box Bs. -/
structure Kc (B0 Bs : Nat) (W wr : World) : Prop where
  size : W.heap.size ≤ wr.heap.size
  keep : ∀ k, k < B0 → k ≠ Bs → (∃ cs t fr, W.heap[k]? = some (.cells cs t fr)) → wr.heap[k]? = W.heap[k]?
theorem Kc.refl (B0 Bs : Nat) (W : World) : Kc B0 Bs W W := ⟨Nat.le_refl _, fun _ _ _ _ => rfl⟩
theorem Kc.below {B0 Bs : Nat} {W A B : World} (h : Kc B0 Bs W A) (hb : Below B0 A B) : Kc B0 Bs W B := ⟨Nat.le_trans h.size hb.size, fun k h1 h2 h3 => (hb.block k h1).trans (h.keep k h1 h2 h3)⟩
theorem Kc.kb {B0 Bs : Nat} {W A B : World} (h : Kc B0 Bs W A) (hb : Kb B0 Bs A B) : Kc B0 Bs W B := ⟨Nat.le_trans h.size hb.size, fun k h1 h2 h3 => by
  have e := h.keep k h1 h2 h3
  obtain ⟨cs, t, fr, h3⟩ := h3
  exact (hb.keep k ⟨h2, cs, t, fr, e.trans h3, .inl h1⟩).trans e⟩
theorem cells_of_cell {W : World} {k o : Nat} {v : Value} (h : W.cell? ⟨k, o, none⟩ = some v) : ∃ cs t fr, W.heap[k]? = some (.cells cs t fr) := by
  unfold World.cell? at h
  cases hk : W.heap[k]? with
  | none => simp [hk] at h
  | some ob => cases ob <;> simp_all
theorem cell_block {W A : World} {k o : Nat} (h : A.heap[k]? = W.heap[k]?) : A.cell? ⟨k, o, none⟩ = W.cell? ⟨k, o, none⟩ := by
  simp [World.cell?, h]
theorem Kc.cell {B0 Bs : Nat} {W A : World} (h : Kc B0 Bs W A) {k o : Nat} {v : Value} (hk : k < B0) (hn : k ≠ Bs) (hc : W.cell? ⟨k, o, none⟩ = some v) : A.cell? ⟨k, o, none⟩ = some v :=
  (cell_block (h.keep k hk hn (cells_of_cell hc))).trans hc

/-- What the walk holds: who has been met, what waits. -/
structure Wk (B0 Bs mB N n0 : Nat) (W wr : World) (o : List Nat) (v : Value) (rows : List (List Nat)) : Prop where
  kc : Kc B0 Bs W wr
  met : ∃ C, Ar wr mB C 4 ∧ C.size = N ∧ ∀ i, i < N → C[i]? = some (.bool (decide (i ∈ o)))
  win : ∃ vs, Win wr B0 24 v vs ∧ vs.length = rows.length ∧ ∀ i, i < rows.length → ∃ vi, vs[i]? = some vi ∧ IS n0 W vi (castL (rows.getD i []))
theorem ItStep.of_below {B0 : Nat} {w w' : World} (h : Below w.heap.size w w') : ItStep B0 w w' := ⟨h.os, h.tape, h.output, h.size, fun k hk _ => h.block k hk⟩
theorem ItStep.of_win {B0 : Nat} {w w' : World} (h : WinStep B0 24 w w') : ItStep B0 w w' := ⟨h.os, h.tape, h.output, h.size, fun k hk hor => h.keep k hk (hor.imp id fun hn ⟨cs, hc⟩ => hn ⟨cs, _, _, hc, .inr rfl⟩)⟩
theorem ItStep.of_met {B0 mB : Nat} {w : World} {C : Array Value} (h : Ar w mB C 4) (hB : B0 ≤ mB) (i : Nat) (v : Value) : ItStep B0 w (w.setCell ⟨mB, i, none⟩ v) :=
  ⟨rfl, rfl, rfl, by simp [World.setCell], fun k hk hor => Below.heap_setCell _ ⟨mB, i, none⟩ _ k (fun e => by
    have e : k = mB := e
    subst e
    rcases hor with h' | h'
    · omega
    · exact h' ⟨C, _, _, h, .inl rfl⟩)⟩
theorem Wk.up {B0 Bs mB N n0 : Nat} {W wr wr' : World} {o : List Nat} {v : Value} {rows : List (List Nat)} (h : Wk B0 Bs mB N n0 W wr o v rows) (hB : B0 ≤ wr.heap.size) (hb : Below wr.heap.size wr wr') : Wk B0 Bs mB N n0 W wr' o v rows := by
  refine ⟨h.kc.below (hb.mono hB), ?_, ?_⟩
  · obtain ⟨C, h1, h2⟩ := h.met; exact ⟨C, h1.below hb, h2⟩
  · obtain ⟨vs, h1, h2⟩ := h.win
    exact ⟨vs, h1.same fun k cs _ hc => hb.block k (Array.getElem?_eq_some_iff.1 hc).1, h2⟩
theorem Wk.kb {B0 Bs mB N n0 : Nat} {W wr wr' : World} {o : List Nat} {v : Value} {rows : List (List Nat)} (h : Wk B0 Bs mB N n0 W wr o v rows) (hm : B0 ≤ mB) (hs : Bs < B0) (hb : Kb B0 Bs wr wr') : Wk B0 Bs mB N n0 W wr' o v rows := by
  refine ⟨h.kc.kb hb, ?_, ?_⟩
  · obtain ⟨C, h1, h2⟩ := h.met; exact ⟨C, (hb.keep mB ⟨by omega, C, _, _, h1, .inr (.inl rfl)⟩).trans h1, h2⟩
  · obtain ⟨vs, h1, h2⟩ := h.win
    exact ⟨vs, h1.same fun k cs hk hc => hb.keep k ⟨by omega, cs, _, _, hc, .inr (.inr rfl)⟩, h2⟩
theorem Wk.meet {B0 Bs mB N n0 : Nat} {W wr : World} {o : List Nat} {v : Value} {rows : List (List Nat)} (h : Wk B0 Bs mB N n0 W wr o v rows) (hm : B0 ≤ mB) (x : Nat) (hx : x < N) : Wk B0 Bs mB N n0 W (wr.setCell ⟨mB, x, none⟩ (.bool true)) (o ++ [x]) v rows := by
  obtain ⟨C, h1, h2, h3⟩ := h.met
  have ho : ∀ k, k ≠ mB → (wr.setCell ⟨mB, x, none⟩ (.bool true)).heap[k]? = wr.heap[k]? := fun k hk => Below.heap_setCell _ ⟨mB, x, none⟩ _ k hk
  refine ⟨⟨by have := h.kc.size; simp [World.setCell]; exact this, fun k k1 k2 k3 => (ho k (by omega)).trans (h.kc.keep k k1 k2 k3)⟩, ⟨_, h1.set x _, by simp [h2], fun i hi => ?_⟩, ?_⟩
  · rw [Array.getElem?_setIfInBounds]
    by_cases e : x = i
    · subst e; simp [h2, hx]
    · rw [if_neg e, h3 i hi]
      have : ¬ i = x := fun y => e y.symm
      simp [this]
  · obtain ⟨vs, g1, g2⟩ := h.win
    refine ⟨vs, g1.same fun k cs hk hc => ho k ?_, g2⟩
    rintro rfl
    rw [show wr.heap[k]? = _ from h1] at hc
    injection hc with hc
    injection hc with _ hc
    exact absurd hc (by decide)
theorem Wk.cell {B0 Bs mB N n0 : Nat} {W wr : World} {o : List Nat} {v : Value} {rows : List (List Nat)} (h : Wk B0 Bs mB N n0 W wr o v rows) {x : Nat} (hx : x < N) : wr.cell? ⟨mB, x, none⟩ = some (.bool (decide (x ∈ o))) ∧ wr.frozen? ⟨mB, x, none⟩ = false := by
  obtain ⟨C, h1, h2, h3⟩ := h.met
  exact ⟨(cell_of_row wr mB x C _ (0, 0) h1).trans (h3 x hx), Ar.frozen h1 x⟩
theorem Wk.append {B0 Bs mB N n0 : Nat} {W wr wr' : World} {o : List Nat} {v v' vi : Value} {rows : List (List Nat)} {vs : List Value} {r : List Nat} (h : Wk B0 Bs mB N n0 W wr o v rows) (hB : B0 ≤ wr.heap.size) (hm : B0 ≤ mB)
    (hvs : vs.length = rows.length ∧ ∀ i, i < rows.length → ∃ vi, vs[i]? = some vi ∧ IS n0 W vi (castL (rows.getD i []))) (hw : Win wr' B0 24 v' (vs ++ [vi])) (hs : WinStep B0 24 wr wr') (hi : IS n0 W vi (castL r)) : Wk B0 Bs mB N n0 W wr' o v' (rows ++ [r]) := by
  refine ⟨h.kc.below (hs.below hB), ?_, ?_⟩
  · obtain ⟨C, h1, h2⟩ := h.met
    refine ⟨C, (hs.keep mB h1.lt (.inr ?_)).trans h1, h2⟩
    rintro ⟨cs, hc⟩
    rw [show wr.heap[mB]? = _ from h1] at hc
    injection hc with hc
    injection hc with _ hc
    exact absurd hc (by decide)
  · refine ⟨_, hw, by simp [hvs.1], fun i hi2 => ?_⟩
    rcases Nat.lt_or_ge i rows.length with h' | h'
    · obtain ⟨u, h1, h2⟩ := hvs.2 i h'
      refine ⟨u, by rw [List.getElem?_append_left (by rw [hvs.1]; exact h')]; exact h1, ?_⟩
      rw [List.getD_eq_getElem?_getD, List.getElem?_append_left h', ← List.getD_eq_getElem?_getD]
      exact h2
    · have e : i = rows.length := by simp at hi2; omega
      subst e
      refine ⟨vi, by rw [← hvs.1]; simp, ?_⟩
      rw [List.getD_eq_getElem?_getD, List.getElem?_append_right (Nat.le_refl _)]
      simpa using hi
/-- How many have been met, read off the memory. -/
def isTrue : Option Value → Bool
  | some (.bool true) => true
  | _ => false
def metN (wr : World) (mB N : Nat) : Nat := ((List.range N).filter fun i => isTrue (wr.cell? ⟨mB, i, none⟩)).length
theorem Wk.metN {B0 Bs mB N n0 : Nat} {W wr : World} {o : List Nat} {v : Value} {rows : List (List Nat)} (h : Wk B0 Bs mB N n0 W wr o v rows) (hn : o.Nodup) (hl : ∀ x ∈ o, x < N) : metN wr mB N = o.length := by
  refine count_in hn hl _ fun i hi => ?_
  rw [(h.cell hi).1]
  by_cases e : i ∈ o <;> simp [e, isTrue]
def lenV : Value → Nat
  | .slice _ n _ => n
  | _ => 0
theorem Wk.lenV {B0 Bs mB N n0 : Nat} {W wr : World} {o : List Nat} {v : Value} {rows : List (List Nat)} (h : Wk B0 Bs mB N n0 W wr o v rows) : lenV v = rows.length := by
  obtain ⟨vs, h1, h2, _⟩ := h.win
  obtain ⟨a, cap, rfl⟩ := h1.len
  exact h2
end Go.Proofs.Ytkghnjgioijgpaa.DfaW
