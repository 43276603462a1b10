/- Lists of bools of the call's own; rows of them. -/
import Derived.Test.YtfhddbjojpmbcaaMade2
import Derived.Laws.OwnMore
namespace Go.Proofs.Ytfhddbjojpmbcaa.DfaW
set_option linter.unusedVariables false
set_option linter.unusedSimpArgs false
open Go.RowKit Go.Maps Go.Proofs.Ytfhddbjojpmbcaa.PartM Go.Proofs.Ytfhddbjojpmbcaa.PartW
theorem infoBo : (Try.prog.info? 4).map (fun i => (i.zero, i.size, i.bytes)) = some (some (.bool false), 1, 1) := by kernel_rfl
theorem infoRB : (Try.prog.info? 49).map (fun i => (i.zero, i.size, i.bytes)) = some (some (.slice none 0 0), 1, 24) := by kernel_rfl
def OB (w : World) (base : Nat) (v : Value) (l : List Bool) : Prop := w.ownsRow base 4 1 v l.length (l.map Value.bool)
theorem own_vs {w : World} {base : Nat} {e : TypeId} {v : Value} {n : Nat} {l : List Value} (h : w.ownsRow base e 1 v n l) : VS w.heap.size w v l :=
  VS.of_owns h fun a c e => by
    rcases h.2 with ⟨e2, _⟩ | ⟨g, cap, cur, e2, _, _, _, hc, _⟩
    · rw [e2] at e; simp only [Value.slice.injEq] at e; have := e.2.2; omega
    · rw [e2] at e; simp only [Value.slice.injEq] at e; rw [← e.2.2]; exact hc
theorem own_cellAt {w : World} {base : Nat} {e : TypeId} {g n c n' : Nat} {l : List Value} (h : w.ownsRow base e 1 (.slice (some ⟨g, 0, none⟩) n c) n' l) {i : Nat} {u : Value} (hi : l[i]? = some u) : g < w.heap.size ∧ w.cell? ⟨g, i, none⟩ = some u := by
  obtain ⟨a, cap, e1, _, _, h4⟩ := own_vs h
  have hl := (List.getElem?_eq_some_iff.1 hi).1
  obtain ⟨b, o, e2, h5, h6⟩ := h4 i hl
  simp only [Value.slice.injEq] at e1
  obtain ⟨rfl, _, _⟩ := e1
  simp only [Option.some.injEq, Addr.mk.injEq, and_true] at e2
  obtain ⟨rfl, rfl⟩ := e2
  rw [Nat.zero_add] at h6
  exact ⟨h5, h6.trans hi⟩
theorem OB.empty (w : World) : OB (w.alloc (.cells #[] 4)) w.heap.size (.slice (some ⟨w.heap.size, 0, none⟩) 0 0) [] :=
  ⟨rfl, .inr ⟨w.heap.size, 0, #[], rfl, Nat.le_refl _, Ar.new _ _ _, Nat.le_refl _, Nat.zero_le _, rfl, rfl⟩⟩
theorem OB.below {w w' : World} {base : Nat} {v : Value} {l : List Bool} (h : OB w base v l) (hb : Below w.heap.size w w') : OB w' base v l := own_keep h fun g hg => hb.block g (own_at h hg).2.2
section
variable {ops : Array Oper} {rest : List Oper} {o : Oper} {a : Act} {w : World} {Q : Exit → Act → World → Prop}
/-- One bool more. -/
theorem wpList_append_bool (hgd : o.guard = none) (s x : Operand) (ho : o.op = .call { callee := .builtin .append, args := #[s, x], argTypes := #[49, 49] })
    {base : Nat} {v : Value} {l : List Bool} (hs : a.eval s = v) (hown : OB w base v l) (hbase : base ≤ w.heap.size) (ad : Addr) (c : Nat) (y : Bool) (hx : a.eval x = .slice (some ad) 1 c) (hc : w.cell? ad = some (.bool y)) (hsp : ad.add 0 = ad)
    (hbytes : l.length + 1 ≤ 1048576)
    (hK : ∀ v' w', OB w' base v' (l ++ [y]) → Below base w w' → wpList Try.prog ops Q rest (a.put o.dst v') w') : wpList Try.prog ops Q (o :: rest) a w := by
  obtain ⟨i0, hi, hz0, hz1, hz2⟩ := info_parts infoBo
  refine wpList_append_own _ hgd s x 49 ho base 4 i0 (.bool false) 1 1 Try.underlying49 hi hz0 hz1 hz2 rfl (by decide) v _ _ hs hown ad 1 c [.bool y] hx rfl (fun j u hj => ?_) (fun u hu => ?_) (by unfold maxLen; omega) (by omega) hbase fun v' w' h1 h2 _ => hK v' w' ?_ (below_own hbase hown h2)
  · cases j with
    | zero => simp at hj; subst hj; rw [hsp]; exact hc
    | succ j => simp at hj
  · rw [List.mem_singleton] at hu; subst hu; rfl
  · show w'.ownsRow base 4 1 v' (l ++ [y]).length ((l ++ [y]).map Value.bool)
    rw [List.length_append, List.map_append]; exact h1
/-- A row of bools more, to none. -/
theorem wpList_append_bools (hgd : o.guard = none) (s x : Operand) (ho : o.op = .call { callee := .builtin .append, args := #[s, x], argTypes := #[49, 49] })
    {base g n c : Nat} {v : Value} {l : List Bool} (hs : a.eval s = v) (hown : OB w base v []) (hbase : base ≤ w.heap.size) (hx : a.eval x = .slice (some ⟨g, 0, none⟩) n c) (hn : n = l.length) (hc : ∀ j, j < n → w.cell? ⟨g, j, none⟩ = some (.bool (l.getD j false)))
    (hbytes : n ≤ 1048576)
    (hK : ∀ v' w', OB w' base v' l → Below base w w' → wpList Try.prog ops Q rest (a.put o.dst v') w') : wpList Try.prog ops Q (o :: rest) a w := by
  obtain ⟨i0, hi, hz0, hz1, hz2⟩ := info_parts infoBo
  refine wpList_append_own _ hgd s x 49 ho base 4 i0 (.bool false) 1 1 Try.underlying49 hi hz0 hz1 hz2 rfl (by decide) v _ _ hs hown ⟨g, 0, none⟩ n c (l.map Value.bool) hx (by rw [List.length_map, Nat.mul_one, hn]) (fun j u hj => ?_) (fun u hu => ?_) (by unfold maxLen; simp; omega) (by simp; omega) hbase fun v' w' h1 h2 _ => hK v' w' ?_ (below_own hbase hown h2)
  · have hj2 := (List.getElem?_eq_some_iff.1 hj).1
    rw [List.length_map] at hj2
    rw [Addr.add_mid, Nat.zero_add, hc j (by omega), ← hj]
    simp [List.getD, hj2]
  · obtain ⟨b, _, rfl⟩ := List.mem_map.1 hu; rfl
  · show w'.ownsRow base 4 1 v' l.length (l.map Value.bool)
    rw [← hn]
    simpa using h1
/-- One row more. -/
theorem wpList_append_brow (hgd : o.guard = none) (s x : Operand) (ho : o.op = .call { callee := .builtin .append, args := #[s, x], argTypes := #[47, 47] })
    {base n : Nat} {v : Value} {vs : List Value} (hs : a.eval s = v) (hown : w.ownsRow base 49 1 v n vs) (hbase : base ≤ w.heap.size) (ad : Addr) (c : Nat) {b0 : Option Addr} {n0 c0 : Nat} (hx : a.eval x = .slice (some ad) 1 c) (hc : w.cell? ad = some (.slice b0 n0 c0)) (hsp : ad.add 0 = ad)
    (hbytes : n + 1 ≤ 1048576)
    (hK : ∀ v' w', w'.ownsRow base 49 1 v' (n + 1) (vs ++ [.slice b0 n0 c0]) → w.grownBy w' v.ownBlock → wpList Try.prog ops Q rest (a.put o.dst v') w') : wpList Try.prog ops Q (o :: rest) a w := by
  obtain ⟨i0, hi, hz0, hz1, hz2⟩ := info_parts infoRB
  refine wpList_append_own _ hgd s x 47 ho base 49 i0 (.slice none 0 0) 1 24 Try.underlying47 hi hz0 hz1 hz2 rfl (by decide) v _ _ hs hown ad 1 c [.slice b0 n0 c0] hx rfl (fun j u hj => ?_) (fun u hu => ?_) (by unfold maxLen; omega) (by omega) hbase fun v' w' h1 h2 _ => hK v' w' h1 h2
  · cases j with
    | zero => simp at hj; subst hj; rw [hsp]; exact hc
    | succ j => simp at hj
  · rw [List.mem_singleton] at hu; subst hu; rfl
end
/-- r rows of n bools each, each in a block of its own. -/
structure Mat (w : World) (lo : Nat) (v : Value) (n r : Nat) (G K : Nat → Nat) (X : Nat → Nat → Bool) : Prop where
  top : w.ownsRow lo 49 1 v r ((List.range r).map fun i => Value.slice (some ⟨G i, 0, none⟩) n (K i))
  row : ∀ i, i < r → OB w lo (.slice (some ⟨G i, 0, none⟩) n (K i)) ((List.range n).map (X i))
  dis : ∀ i j, i < r → j < r → i ≠ j → G i ≠ G j
section
variable {w w' : World} {lo n r : Nat} {v : Value} {G K : Nat → Nat} {X Y : Nat → Nat → Bool}
theorem Mat.keep (h : Mat w lo v n r G K X) (hk : ∀ g, lo ≤ g → g < w.heap.size → w'.heap[g]? = w.heap[g]?) : Mat w' lo v n r G K X :=
  ⟨own_keep h.top fun g hg => hk g (own_at h.top hg).2.1 (own_at h.top hg).2.2, fun i hi => own_keep (h.row i hi) fun g hg => hk g (own_at (h.row i hi) hg).2.1 (own_at (h.row i hi) hg).2.2, h.dis⟩
theorem Mat.below (h : Mat w lo v n r G K X) (hb : Below w.heap.size w w') : Mat w' lo v n r G K X := h.keep fun g _ hg => hb.block g hg
theorem Mat.base {lo' : Nat} (h : Mat w lo v n r G K X) (hl : lo' ≤ lo) : Mat w lo' v n r G K X := ⟨owns_base h.top hl, fun i hi => owns_base (h.row i hi) hl, h.dis⟩
theorem Mat.blk (h : Mat w lo v n r G K X) {i : Nat} (hi : i < r) : lo ≤ G i ∧ G i < w.heap.size := (own_at (h.row i hi) rfl).2
theorem Mat.form (h : Mat w lo v n r G K X) : ∃ a c, v = .slice a r c := own_form h.top
/-- What lies in a row. -/
theorem Mat.at (h : Mat w lo v n r G K X) {i j : Nat} (hi : i < r) (hj : j < n) : w.cell? ⟨G i, j, none⟩ = some (.bool (X i j)) :=
  (own_cellAt (h.row i hi) (i := j) (u := .bool (X i j)) (by simp [hj])).2
theorem Mat.topAt {a : Option Addr} {c : Nat} (h : Mat w lo (.slice a r c) n r G K X) {i : Nat} (hi : i < r) : ∃ b, a = some ⟨b, 0, none⟩ ∧ lo ≤ b ∧ b < w.heap.size ∧ w.cell? ⟨b, i, none⟩ = some (.slice (some ⟨G i, 0, none⟩) n (K i)) := by
  have ht := h.top
  rcases ht.2 with ⟨e, e2⟩ | ⟨g, cap, cur, e, hb, _⟩
  · omega
  · simp only [Value.slice.injEq] at e
    obtain ⟨rfl, _, rfl⟩ := e
    have h2 := own_cellAt ht (i := i) (u := Value.slice (some ⟨G i, 0, none⟩) n (K i)) (by simp [hi])
    exact ⟨g, rfl, hb, h2.1, h2.2⟩
theorem Mat.congr (h : Mat w lo v n r G K X) (e : ∀ i j, i < r → j < n → X i j = Y i j) : Mat w lo v n r G K Y :=
  ⟨h.top, fun i hi => by rw [← List.map_congr_left (f := X i) (g := Y i) fun j hj => e i j hi (List.mem_range.1 hj)]; exact h.row i hi, h.dis⟩
theorem Mat.zero (w : World) (lo n : Nat) (G K : Nat → Nat) (X : Nat → Nat → Bool) {v : Value} (h : w.ownsRow lo 49 1 v 0 []) : Mat w lo v n 0 G K X :=
  ⟨h, fun i hi => absurd hi (Nat.not_lt_zero _), fun i j hi => absurd hi (Nat.not_lt_zero _)⟩
/-- A row more. -/
theorem Mat.snoc (h : Mat w lo v n r G K X) {g c : Nat} {v' : Value} (hr : OB w lo (.slice (some ⟨g, 0, none⟩) n c) ((List.range n).map (X r))) (hg : ∀ i, i < r → G i ≠ g)
    (ht : w'.ownsRow lo 49 1 v' (r + 1) (((List.range r).map fun i => Value.slice (some ⟨G i, 0, none⟩) n (K i)) ++ [.slice (some ⟨g, 0, none⟩) n c])) (hw : w.grownBy w' v.ownBlock) :
    Mat w' lo v' n (r + 1) (fun i => if i = r then g else G i) (fun i => if i = r then c else K i) X := by
  have hk : ∀ {e : TypeId} {u : Value} {m : Nat} {xs : List Value}, e ≠ 49 → w.ownsRow lo e 1 u m xs → w'.ownsRow lo e 1 u m xs := fun he ho => own_keep ho fun g hg => hw.block g (own_at ho hg).2.2 fun e2 => own_other ho h.top he hg e2.symm
  refine ⟨?_, fun i hi => ?_, fun i j hi hj hij => ?_⟩
  · rw [List.range_succ, List.map_append]
    have e1 : (List.range r).map (fun i => Value.slice (some ⟨if i = r then g else G i, 0, none⟩) n (if i = r then c else K i)) = (List.range r).map fun i => Value.slice (some ⟨G i, 0, none⟩) n (K i) := List.map_congr_left fun i hi => by
      have : i ≠ r := by have := List.mem_range.1 hi; omega
      simp [this]
    rw [e1]
    simpa using ht
  · by_cases e : i = r
    · subst e; simp only [if_true]; exact hk (by decide) hr
    · simp only [e, if_false]; exact hk (by decide) (h.row i (by omega))
  · show (if i = r then g else G i) ≠ if j = r then g else G j
    by_cases e1 : i = r
    · have e2 : j ≠ r := by omega
      rw [if_pos e1, if_neg e2]; exact fun e => hg j (by omega) e.symm
    · rw [if_neg e1]
      by_cases e2 : j = r
      · rw [if_pos e2]; exact hg i (by omega)
      · rw [if_neg e2]; exact h.dis i j (by omega) (by omega) hij
/-- One place written over. -/
def setX (X : Nat → Nat → Bool) (s t : Nat) (b : Bool) : Nat → Nat → Bool := fun i j => if i = s ∧ j = t then b else X i j
theorem setX_id {X : Nat → Nat → Bool} {s t : Nat} {b : Bool} (h : X s t = b) : setX X s t b = X := by
  funext i j; unfold setX; split
  · rename_i e; rw [e.1, e.2, h]
  · rfl
theorem Mat.set (h : Mat w lo v n r G K X) {s t : Nat} (hs : s < r) (ht : t < n) (b : Bool) : Mat (w.setCell ⟨G s, t, none⟩ (.bool b)) lo v n r G K (setX X s t b) := by
  refine ⟨own_keep h.top fun g hg => Below.heap_setCell _ ⟨G s, t, none⟩ _ g (fun e => own_other h.top (h.row s hs) (by decide) hg (by have e : g = G s := e; rw [e]; rfl)), fun i hi => ?_, h.dis⟩
  by_cases e : i = s
  · subst e
    have h0 := h.row i hi
    unfold OB at h0
    rw [List.length_map, List.length_range] at h0
    have h1 := (World.ownsRow.stored h0 t (.bool b)).1
    have e2 : (((List.range n).map (X i)).map Value.bool).set t (.bool b) = ((List.range n).map (setX X i t b i)).map Value.bool := by
      refine List.ext_getElem (by simp) fun j h1 h2 => ?_
      have hj : j < n := by simpa using h2
      rw [List.getElem_set]
      by_cases e3 : t = j
      · subst e3; simp [setX]
      · rw [if_neg e3]
        have : ¬ j = t := fun e => e3 e.symm
        simp [setX, this]
    unfold OB
    rw [List.length_map, List.length_range]
    rw [e2] at h1
    exact h1
  · have e2 : (List.range n).map (setX X s t b i) = (List.range n).map (X i) := List.map_congr_left fun j _ => by simp [setX, e]
    rw [e2]
    exact own_keep (h.row i hi) fun g hg => Below.heap_setCell _ ⟨G s, t, none⟩ _ g (fun e3 => by
      have e3 : g = G s := e3
      have e4 : G i = g := by simpa [Value.ownBlock] using hg
      exact h.dis i s hi hs e (by rw [e4, e3]))
/-- Another one is written over. -/
theorem Mat.other (h : Mat w lo v n r G K X) {A k : Nat} {y : Value} (hA : A < lo) : Mat (w.setCell ⟨A, k, none⟩ y) lo v n r G K X := h.keep fun g hg _ => Below.heap_setCell _ ⟨A, k, none⟩ _ g (by intro e; have e : g = A := e; omega)
end
end Go.Proofs.Ytfhddbjojpmbcaa.DfaW
