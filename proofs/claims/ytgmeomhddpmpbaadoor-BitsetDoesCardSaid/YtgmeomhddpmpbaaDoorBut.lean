/- Worlds in which one block alone may have been changed; sets of small numbers in memory. -/
import Derived.Test.YtgmeomhddpmpbaaDoorBase
import Derived.Test.YtgmeomhddpmpbaaDoorListMath
import Derived.RangeFuncBox
namespace Go.Proofs.YtgmeomhddpmpbaaDoor.BitsW
set_option linter.unusedVariables false
open Go.RowKit Go.Proofs.YtgmeomhddpmpbaaDoor.SetM

/-- Below B, but for block r, the world is as it was. -/
structure But (B : Nat) (r : Option Nat) (w w' : World) : Prop where
  os : w'.os = w.os
  tape : w'.tape = w.tape
  output : w'.output = w.output
  size : w.heap.size ≤ w'.heap.size
  block : ∀ k, k < B → some k ≠ r → w'.heap[k]? = w.heap[k]?
theorem But.refl (B : Nat) (r : Option Nat) (w : World) : But B r w w := ⟨rfl, rfl, rfl, Nat.le_refl _, fun _ _ _ => rfl⟩
theorem But.trans {B : Nat} {r : Option Nat} {a b c : World} (h : But B r a b) (k : But B r b c) : But B r a c :=
  ⟨k.os.trans h.os, k.tape.trans h.tape, k.output.trans h.output, Nat.le_trans h.size k.size, fun i hi hr => (k.block i hi hr).trans (h.block i hi hr)⟩
theorem But.mono {B B' : Nat} {r : Option Nat} {w w' : World} (h : But B r w w') (hB : B' ≤ B) : But B' r w w' := ⟨h.os, h.tape, h.output, h.size, fun k hk hr => h.block k (Nat.lt_of_lt_of_le hk hB) hr⟩
theorem But.of {B : Nat} (r : Option Nat) {w w' : World} (h : Below B w w') : But B r w w' := ⟨h.os, h.tape, h.output, h.size, fun k hk _ => h.block k hk⟩
theorem But.below {B : Nat} {r : Option Nat} {w w' : World} (h : But B r w w') (hr : ∀ k, r = some k → B ≤ k) : Below B w w' := ⟨h.os, h.tape, h.output, h.size, fun k hk => h.block k hk (fun e => by have := hr k e.symm; omega)⟩
theorem But.none {B : Nat} {w w' : World} (h : But B none w w') : Below B w w' := h.below (fun k e => by cases e)
theorem But.alloc {B : Nat} {r : Option Nat} {a w : World} (h : But B r a w) (hB : B ≤ w.heap.size) (o : Obj) : But B r a (w.alloc o) := h.trans (But.of r ((Below.refl B w).alloc hB o))
theorem But.set {B : Nat} {r : Option Nat} {a w : World} (h : But B r a w) {p : Addr} (hp : B ≤ p.block ∨ r = some p.block) (u : Value) : But B r a (w.setCell p u) :=
  h.trans ⟨rfl, rfl, rfl, by simp [World.setCell], fun k hk hr => Below.heap_setCell _ _ _ _ (fun e => by subst e; rcases hp with h | h; omega; exact hr h.symm)⟩
theorem But.grown {B : Nat} {r row : Option Nat} {a w w' : World} (h : But B r a w) (hg : w.grownBy w' row) (hB : B ≤ w.heap.size) (hr : ∀ k, row = some k → B ≤ k ∨ r = some k) : But B r a w' :=
  h.trans ⟨hg.os, hg.tape, hg.output, hg.size, fun k hk hne => hg.block k (by omega) (fun e => by rcases hr k e.symm with h | h; omega; exact hne h.symm)⟩
theorem But.cell {B : Nat} {r : Option Nat} {w w' : World} (h : But B r w w') {p : Addr} (hp : p.block < B) (hr : some p.block ≠ r) : w'.cell? p = w.cell? p := World.cell?_of_block (w := w) (h.block p.block hp hr)

/-! ### Sets in memory -/
/-- How many words n numbers take. -/
def lenW (n : Nat) : Nat := (n + 63) / 64
/-- The words, as values. -/
def wds (f : Nat → Bool) (k : Nat) : List Value := (List.range k).map fun j => .int .u64 (wd f j)
theorem wds_length (f : Nat → Bool) (k : Nat) : (wds f k).length = k := by simp [wds]
theorem wds_at (f : Nat → Bool) (k j : Nat) (h : j < k) : (wds f k)[j]? = some (.int .u64 (wd f j)) := by simp [wds, h]
/-- A set with room for the numbers below n, in block p, its words in block q. -/
structure Bt (w : World) (p q n : Nat) (f : Nat → Bool) : Prop where
  room : n ≤ 1048576
  into : ∀ i, f i = true → i < n
  row : ∃ cap, w.heap[p]? = some (.cells #[.int .i64 n, .slice (some ⟨q, 0, none⟩) (lenW n) cap] 54 (0, 0)) ∧ w.ownsRow 0 55 1 (.slice (some ⟨q, 0, none⟩) (lenW n) cap) (lenW n) (wds f (lenW n))
theorem Bt.lt {w : World} {p q n : Nat} {f : Nat → Bool} (h : Bt w p q n f) : p < w.heap.size ∧ q < w.heap.size := by
  obtain ⟨cap, h1, h2⟩ := h.row
  exact ⟨(Array.getElem?_eq_some_iff.1 h1).1, (World.ownsRow.lt h2 q (by simp [Value.ownBlock])).2⟩
theorem Bt.block {w : World} {p q n : Nat} {f : Nat → Bool} (h : Bt w p q n f) : ∃ cur : Array Value, w.heap[q]? = some (.cells cur 55 (0, 0)) := by
  obtain ⟨cap, h1, h2⟩ := h.row
  rcases h2.2 with ⟨h3, _⟩ | ⟨g, cap', cur, h3, _, hg, _⟩
  · simp at h3
  · simp only [Value.slice.injEq, Option.some.injEq, Addr.mk.injEq, and_true, true_and] at h3
    obtain ⟨rfl, rfl⟩ := h3
    exact ⟨cur, hg⟩
theorem Bt.ne {w : World} {p q n : Nat} {f : Nat → Bool} (h : Bt w p q n f) : p ≠ q := by
  rintro rfl
  obtain ⟨cap, h1, h2⟩ := h.row
  obtain ⟨cur, h3⟩ := h.block
  rw [h1] at h3
  simp at h3
theorem owns_zero {w : World} {b b' : Nat} {e : TypeId} {s : Nat} {v : Value} {n : Nat} {xs : List Value} (h : w.ownsRow b e s v n xs) (hb : b' ≤ b) : w.ownsRow b' e s v n xs := by
  obtain ⟨h1, h2⟩ := h
  refine ⟨h1, ?_⟩
  rcases h2 with h2 | ⟨g, cap, cur, hv, hg, r⟩
  · exact .inl h2
  · exact .inr ⟨g, cap, cur, hv, by omega, r⟩
theorem owns_but {w w' : World} {B b : Nat} {r : Option Nat} {e : TypeId} {s : Nat} {v : Value} {n : Nat} {xs : List Value} (h : w.ownsRow b e s v n xs) (hb : But B r w w') (hB : ∀ k, v.ownBlock = some k → k < B ∧ r ≠ some k) : w'.ownsRow b e s v n xs := by
  obtain ⟨h1, h2⟩ := h
  refine ⟨h1, ?_⟩
  rcases h2 with h2 | ⟨g, cap, cur, rfl, hg, hh, hr⟩
  · exact .inl h2
  · obtain ⟨h3, h4⟩ := hB g (by simp [Value.ownBlock])
    exact .inr ⟨g, cap, cur, rfl, hg, by rw [hb.block g h3 (fun e => h4 e.symm)]; exact hh, hr⟩
theorem Bt.but {w w' : World} {B p q n : Nat} {r : Option Nat} {f : Nat → Bool} (h : Bt w p q n f) (hb : But B r w w') (hp : p < B) (hq : q < B) (hrp : r ≠ some p) (hrq : r ≠ some q) : Bt w' p q n f := by
  obtain ⟨cap, h1, h2⟩ := h.row
  refine ⟨h.room, h.into, cap, by rw [hb.block p hp (fun e => hrp e.symm)]; exact h1, owns_but h2 hb (fun k e => ?_)⟩
  simp only [Value.ownBlock, Option.some.injEq] at e
  subst e
  exact ⟨hq, hrq⟩
theorem Bt.below {w w' : World} {p q n : Nat} {f : Nat → Bool} (h : Bt w p q n f) (hb : Below w.heap.size w w') : Bt w' p q n f := h.but (But.of none hb) h.lt.1 h.lt.2 (by simp) (by simp)
theorem Bt.c0 {w : World} {p q n : Nat} {f : Nat → Bool} (h : Bt w p q n f) : w.cell? ⟨p, 0, none⟩ = some (.int .i64 n) := by
  obtain ⟨cap, h1, h2⟩ := h.row; simp [World.cell?, h1]
/-- A set's words: the capacity, and what is told of it. -/
structure Sw (w : World) (p q n cap : Nat) (f : Nat → Bool) : Prop where
  blk : w.heap[p]? = some (.cells #[.int .i64 n, .slice (some ⟨q, 0, none⟩) (lenW n) cap] 54 (0, 0))
  own : w.ownsRow 0 55 1 (.slice (some ⟨q, 0, none⟩) (lenW n) cap) (lenW n) (wds f (lenW n))
theorem Sw.c0 {w : World} {p q n cap : Nat} {f : Nat → Bool} (h : Sw w p q n cap f) : w.cell? ⟨p, 0, none⟩ = some (.int .i64 n) := by simp [World.cell?, h.blk]
theorem Sw.c1 {w : World} {p q n cap : Nat} {f : Nat → Bool} (h : Sw w p q n cap f) : w.cell? ⟨p, 1, none⟩ = some (.slice (some ⟨q, 0, none⟩) (lenW n) cap) := by simp [World.cell?, h.blk]
theorem Sw.word {w : World} {p q n cap : Nat} {f : Nat → Bool} (h : Sw w p q n cap f) {j : Nat} (hj : j < lenW n) : w.cell? ⟨q, j, none⟩ = some (.int .u64 (wd f j)) := by
  rw [World.ownsRow.cellAt h.own j (by omega), wds_at f _ j hj]
theorem Sw.frozen {w : World} {p q n cap : Nat} {f : Nat → Bool} (h : Sw w p q n cap f) (j : Nat) : w.frozen? ⟨q, j, none⟩ = false := World.ownsRow.frozenAt h.own j
theorem Bt.sw {w : World} {p q n : Nat} {f : Nat → Bool} (h : Bt w p q n f) : ∃ cap, Sw w p q n cap f := by
  obtain ⟨cap, h1, h2⟩ := h.row; exact ⟨cap, h1, h2⟩
theorem Sw.bt {w : World} {p q n cap : Nat} {f : Nat → Bool} (h : Sw w p q n cap f) (hn : n ≤ 1048576) (hi : ∀ i, f i = true → i < n) : Bt w p q n f := ⟨hn, hi, cap, h.blk, h.own⟩
/-- A word is written: the set that is got. -/
theorem Sw.store {w : World} {p q n cap : Nat} {f g : Nat → Bool} (h : Sw w p q n cap f) (hne : p ≠ q) {j : Nat} (hj : j < lenW n) (hw : ∀ k, k ≠ j → k < lenW n → wd f k = wd g k) : Sw (w.setCell ⟨q, j, none⟩ (.int .u64 (wd g j))) p q n cap g := by
  refine ⟨by rw [Below.heap_setCell _ _ _ _ hne]; exact h.blk, ?_⟩
  have h1 := (World.ownsRow.stored h.own j (.int .u64 (wd g j))).1
  have e : (wds f (lenW n)).set j (.int .u64 (wd g j)) = wds g (lenW n) := by
    apply List.ext_getElem?
    intro k
    rw [List.getElem?_set]
    by_cases hk : j = k
    · subst hk
      rw [if_pos rfl, if_pos (by rw [wds_length]; exact hj), wds_at g _ j hj]
    · rw [if_neg hk]
      by_cases hkl : k < lenW n
      · rw [wds_at f _ k hkl, wds_at g _ k hkl, hw k (fun e => hk e.symm) hkl]
      · rw [List.getElem?_eq_none (by rw [wds_length]; omega), List.getElem?_eq_none (by rw [wds_length]; omega)]
  rw [e] at h1
  exact h1
theorem lenW_pos {n i : Nat} (h : i < n) : i / 64 < lenW n := by unfold lenW; omega
theorem lenW_le {n : Nat} (h : n ≤ 1048576) : lenW n ≤ 16384 := by unfold lenW; omega
end Go.Proofs.YtgmeomhddpmpbaaDoor.BitsW
