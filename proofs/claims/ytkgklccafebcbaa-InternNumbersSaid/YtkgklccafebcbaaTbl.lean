/- Tables of things in memory: a map of numbers beside a list. -/
import Derived.Test.YtkgklccafebcbaaBut
namespace Go.Proofs.Ytkgklccafebcbaa.IntW
set_option linter.unusedVariables false
open Go.RowKit Go.Maps
variable {P : Program}

theorem nodup_at {l : List Value} (hd : l.Nodup) {i j : Nat} {x : Value} (hi : l[i]? = some x) (hj : l[j]? = some x) : i = j := by
  obtain ⟨h1, h2⟩ := List.getElem?_eq_some_iff.1 hi
  obtain ⟨h3, h4⟩ := List.getElem?_eq_some_iff.1 hj
  have hp := List.pairwise_iff_getElem.1 hd
  rcases Nat.lt_trichotomy i j with h | h | h
  · exact absurd (h2.trans h4.symm) (hp i j h1 h3 h)
  · exact h
  · exact absurd (h4.trans h2.symm) (hp j i h3 h1 h)
/-- What a map tells: of each place of l for which Q holds, its number; of what stands at no such place, nothing. -/
structure Rd (P : Program) (k : TypeId) (D : DataW Unit) (l : List Value) (Q : Nat → Prop) : Prop where
  yes : ∀ i x lx, l[i]? = some x → keyOf P k x = some lx → Q i → has D lx = true ∧ ∀ z, D.atKey lx z = .lit (.int .i64 i)
  no : ∀ x lx, keyOf P k x = some lx → (∀ i, l[i]? = some x → ¬ Q i) → has D lx = false
theorem Rd.empty (k : TypeId) (Q : Nat → Prop) : Rd P k (.map []) [] Q := ⟨fun i x lx h => by simp at h, fun x lx _ _ => rfl⟩
theorem Rd.put {k : TypeId} (K : Keyed P k) {D : DataW Unit} {l : List Value} (h : Rd P k D l (fun _ => True)) (hm : IsMap D) {x : Value} {lx : Lit} (hk : keyOf P k x = some lx) (hx : x ∉ l) :
    Rd P k (D.put lx (.lit (.int .i64 (l.length : Nat)))) (l ++ [x]) (fun _ => True) := by
  refine ⟨fun i y ly hi hy _ => ?_, fun y ly hy hn => ?_⟩
  · rw [List.getElem?_append] at hi
    split at hi
    · have hne : ly ≠ lx := by
        rintro rfl
        have := K.inj hk hy
        subst this
        exact hx (List.mem_of_getElem? hi)
      obtain ⟨h1, h2⟩ := h.yes i y ly hi hy trivial
      exact ⟨by rw [has_put_other hne]; exact h1, fun z => by rw [atKey_put_other hne]; exact h2 z⟩
    · rename_i hlt
      have hi0 : i - l.length = 0 := by
        rcases Nat.eq_zero_or_pos (i - l.length) with h0 | h0
        · exact h0
        · rw [List.getElem?_eq_none (by simp; omega)] at hi; cases hi
      have hil : i = l.length := by omega
      subst hil
      simp at hi
      subst hi
      rw [hk] at hy
      cases hy
      exact ⟨has_put_same hm (K.key hk) _, fun z => atKey_put_same hm (K.key hk) _ z⟩
  · have hne : ly ≠ lx := by
      rintro rfl
      have := K.inj hk hy
      subst this
      exact hn l.length (by simp) trivial
    rw [has_put_other hne]
    exact h.no y ly hy fun i hi => by
      intro _
      exact hn i (by rw [List.getElem?_append_left (List.getElem?_eq_some_iff.1 hi).1]; exact hi) trivial
theorem Rd.del {k : TypeId} (K : Keyed P k) {D : DataW Unit} {l : List Value} {Q : Nat → Prop} (h : Rd P k D l Q) (hd : l.Nodup) {j : Nat} {x : Value} {lx : Lit} (hj : l[j]? = some x) (hk : keyOf P k x = some lx) :
    Rd P k (D.del lx) l (fun i => Q i ∧ i ≠ j) := by
  have hone : ∀ i, l[i]? = some x → i = j := fun i hi => nodup_at hd hi hj
  refine ⟨fun i y ly hi hy hq => ?_, fun y ly hy hn => ?_⟩
  · have hne : ly ≠ lx := by
      rintro rfl
      have := K.inj hk hy
      subst this
      exact hq.2 (hone i hi)
    obtain ⟨h1, h2⟩ := h.yes i y ly hi hy hq.1
    exact ⟨by rw [has_del_other hne]; exact h1, fun z => by rw [atKey_del_other hne]; exact h2 z⟩
  · by_cases e : ly = lx
    · subst e; exact has_del_same
    · rw [has_del_other e]
      refine h.no y ly hy fun i hi hq => hn i hi ⟨hq, ?_⟩
      rintro rfl
      rw [hj] at hi
      cases hi
      rw [hk] at hy
      cases hy
      exact e rfl
theorem Rd.weak {k : TypeId} {D : DataW Unit} {l l' : List Value} {Q Q' : Nat → Prop} (h : Rd P k D l Q) (hq : ∀ i x, (l'[i]? = some x ∧ Q' i) ↔ (l[i]? = some x ∧ Q i)) : Rd P k D l' Q' :=
  ⟨fun i x lx hi hk hQ => have ⟨a, b⟩ := (hq i x).1 ⟨hi, hQ⟩; h.yes i x lx a hk b, fun x lx hk hn => h.no x lx hk fun i hi hQ => have ⟨a, b⟩ := (hq i x).2 ⟨hi, hQ⟩; hn i a b⟩

/-- A table in block p, its map in block m, its list v: the things l; N bounds how many were ever there. -/
structure Tbl (P : Program) (k T tI : TypeId) (s : Nat) (w : World) (p m : Nat) (v : Value) (l : List Value) (N : Nat) : Prop where
  keys : ∀ x ∈ l, ∃ lx, keyOf P k x = some lx
  dist : l.Nodup
  len : l.length ≤ N
  blk : w.heap[p]? = some (.cells #[.map (some m), v] T (0, 0))
  map : ∃ D : DataW Unit, w.ownsMap P k (plainElem P tI) m N D ∧ Rd P k D l (fun _ => True)
  row : ∃ xs, w.ownsRow 0 k s v l.length xs ∧ (s = 1 → xs = l)
/-- The blocks of a table. -/
def Bl (p m : Nat) (v : Value) (k : Nat) : Prop := k = p ∨ k = m ∨ v.ownBlock = some k
variable {k T tI : TypeId} {s : Nat} {w w' : World} {p m : Nat} {v : Value} {l : List Value} {N : Nat}
theorem Tbl.lt (h : Tbl P k T tI s w p m v l N) {b : Nat} (hb : Bl p m v b) : b < w.heap.size := by
  rcases hb with rfl | rfl | hb
  · exact lt_of_heap h.blk
  · obtain ⟨D, h1, _⟩ := h.map; exact h1.lt
  · obtain ⟨xs, h1, _⟩ := h.row; exact (World.ownsRow.lt h1 b hb).2
theorem Tbl.heap (h : Tbl P k T tI s w p m v l N) (hh : ∀ b, Bl p m v b → w'.heap[b]? = w.heap[b]?) : Tbl P k T tI s w' p m v l N := by
  obtain ⟨D, ⟨es, clock, hb, r⟩, h2⟩ := h.map
  obtain ⟨xs, h3, h4⟩ := h.row
  exact ⟨h.keys, h.dist, h.len, by rw [hh p (.inl rfl)]; exact h.blk, ⟨D, ⟨es, clock, by rw [hh m (.inr (.inl rfl))]; exact hb, r⟩, h2⟩, ⟨xs, owns_heap h3 fun b hb => hh b (.inr (.inr hb)), h4⟩⟩
theorem Tbl.but {B : Nat} {S : Nat → Prop} (h : Tbl P k T tI s w p m v l N) (hb : But B S w w') (hB : ∀ b, Bl p m v b → b < B ∧ ¬ S b) : Tbl P k T tI s w' p m v l N :=
  h.heap fun b hb' => hb.block b (hB b hb').1 (hB b hb').2
theorem Tbl.below (h : Tbl P k T tI s w p m v l N) (hb : Below w.heap.size w w') : Tbl P k T tI s w' p m v l N := h.heap fun b hb' => hb.block b (h.lt hb')
theorem Tbl.mono (h : Tbl P k T tI s w p m v l N) {N' : Nat} (hN : N ≤ N') : Tbl P k T tI s w p m v l N' := by
  obtain ⟨D, h1, h2⟩ := h.map
  exact ⟨h.keys, h.dist, Nat.le_trans h.len hN, h.blk, ⟨D, h1.mono hN, h2⟩, h.row⟩
theorem Tbl.c0 (h : Tbl P k T tI s w p m v l N) : w.cell? ⟨p, 0, none⟩ = some (.map (some m)) := by simp [World.cell?, h.blk]
theorem Tbl.c1 (h : Tbl P k T tI s w p m v l N) : w.cell? ⟨p, 1, none⟩ = some v := by simp [World.cell?, h.blk]
theorem Tbl.f1 (h : Tbl P k T tI s w p m v l N) (j : Nat) : w.frozen? ⟨p, j, none⟩ = false := by simp [World.frozen?, h.blk]
theorem Tbl.shape (h : Tbl P k T tI s w p m v l N) : ∃ a c, v = .slice a l.length c ∧ c ≤ maxLen ∧ l.length ≤ c := by
  obtain ⟨xs, h1, _⟩ := h.row
  rcases h1.2 with ⟨rfl, h0⟩ | ⟨g, cap, cur, rfl, _, _, hn, hc, _⟩
  · exact ⟨none, 0, by rw [h0], Nat.zero_le _, by omega⟩
  · exact ⟨_, cap, rfl, hc, hn⟩
/-- A slice that is got cell by cell. -/
theorem owns_at {b : Nat} {e : TypeId} {n : Nat} {xs : List Value} (h : w.ownsRow b e 1 v n xs) {i : Nat} (hi : i < n) : ∃ g c, v = .slice (some ⟨g, 0, none⟩) n c ∧ n ≤ c ∧ c ≤ maxLen ∧ w.cell? ⟨g, i, none⟩ = xs[i]? ∧ i < xs.length := by
  have hl : xs.length = n := by simpa using h.1
  rcases h.2 with ⟨_, h⟩ | ⟨g, cap, cur, rfl, hb, hg, hn, hc, hcs, ht⟩
  · omega
  · refine ⟨g, cap, rfl, hn, hc, ?_, by omega⟩
    rw [cell_of_row w g i cur e (0, 0) hg, ← ht, List.getElem?_take, if_pos (by omega)]
    simp
/-- The table behind a Put of something new. -/
theorem Tbl.pushed {w1 w2 w4 : World} {x v' : Value} {lx : Lit} {D : DataW Unit} {xs : List Value} (hTk : T ≠ k) (h : Tbl P k T tI s w1 p m v l N) (hx : x ∉ l) (hk : keyOf P k x = some lx)
    (hrow : w2.ownsRow 0 k s v' (l.length + 1) xs) (hxs : s = 1 → xs = l ++ [x]) (hat : v'.ownBlock = v.ownBlock ∨ ∃ b, v'.ownBlock = some b ∧ w1.heap.size ≤ b)
    (hb2 : But w1.heap.size (fun b => v.ownBlock = some b) w1 w2)
    (hmap : w4.ownsMap P k (plainElem P tI) m (N + 1) D) (hrd : Rd P k D (l ++ [x]) (fun _ => True)) (hg : (w2.setCell ⟨p, 1, none⟩ v').grownBy w4 (some m)) :
    Tbl P k T tI s w4 p m v' (l ++ [x]) (N + 1) ∧ But w1.heap.size (Bl p m v) w1 w4 ∧ ∀ b, v'.ownBlock = some b → v.ownBlock = some b ∨ w1.heap.size ≤ b := by
  obtain ⟨xs0, h1, _⟩ := h.row
  obtain ⟨D0, ⟨es, clock, hm, _⟩, _⟩ := h.map
  have hpm : p ≠ m := by rintro rfl; rw [h.blk] at hm; cases hm
  have hpv : v.ownBlock ≠ some p := fun e => by
    obtain ⟨_, cur, hc⟩ := owns_cells h1 e
    rw [h.blk] at hc
    injection hc with hc
    injection hc with _ hc
    exact hTk hc
  have hmv : v.ownBlock ≠ some m := fun e => by
    obtain ⟨_, cur, hc⟩ := owns_cells h1 e
    rw [hm] at hc; cases hc
  have hpl := h.lt (b := p) (.inl rfl)
  have hml := h.lt (b := m) (.inr (.inl rfl))
  have hat' : ∀ b, v'.ownBlock = some b → v.ownBlock = some b ∨ w1.heap.size ≤ b := fun b hb => by
    rcases hat with e | ⟨c, e, hc⟩
    · exact .inl (by rw [← e]; exact hb)
    · rw [e] at hb; cases hb; exact .inr hc
  have hpv' : v'.ownBlock ≠ some p := fun e => by rcases hat' p e with h | h; exact hpv h; omega
  have hmv' : v'.ownBlock ≠ some m := fun e => by rcases hat' m e with h | h; exact hmv h; omega
  have hp2 : w2.heap[p]? = some (.cells #[.map (some m), v] T (0, 0)) := by rw [hb2.block p hpl (fun e => hpv e)]; exact h.blk
  have hb3 : But w1.heap.size (Bl p m v) w1 (w2.setCell ⟨p, 1, none⟩ v') := (hb2.mono (Nat.le_refl _) (fun b _ e => .inr (.inr e))).set (p := ⟨p, 1, none⟩) (.inr (.inl rfl)) v'
  have hb4 : But w1.heap.size (Bl p m v) w1 w4 := hb3.grown hg hb3.size (fun b e => .inr (by cases e; exact .inr (.inl rfl)))
  refine ⟨⟨fun y hy => ?_, ?_, by simp; exact h.len, ?_, ⟨D, hmap, hrd⟩, ⟨xs, ?_, hxs⟩⟩, hb4, hat'⟩
  · rcases List.mem_append.1 hy with hy | hy
    · exact h.keys y hy
    · simp at hy; subst hy; exact ⟨lx, hk⟩
  · rw [List.nodup_append]
    exact ⟨h.dist, by simp, fun a ha b hb => by simp at hb; subst hb; rintro rfl; exact hx ha⟩
  · rw [hg.block p (by rw [show (w2.setCell ⟨p, 1, none⟩ v').heap.size = w2.heap.size by simp [World.setCell]]; exact lt_of_heap hp2) (by simpa using hpm)]
    rw [World.setCell]
    simp [Array.getElem?_modify, hp2]
  · rw [show (l ++ [x]).length = l.length + 1 by simp]
    refine owns_heap hrow fun b hb => ?_
    rw [hg.block b (by rw [show (w2.setCell ⟨p, 1, none⟩ v').heap.size = w2.heap.size by simp [World.setCell]]; exact (World.ownsRow.lt hrow b hb).2) (by rintro ⟨⟩; exact hmv' hb)]
    exact Below.heap_setCell _ _ _ _ (fun e => by simp at e; subst e; exact hpv' hb)
end Go.Proofs.Ytkgklccafebcbaa.IntW
