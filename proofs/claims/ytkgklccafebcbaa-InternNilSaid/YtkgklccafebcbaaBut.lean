/- Worlds in which some blocks alone may have been changed. -/
import Derived.Test.YtkgklccafebcbaaBase
import Derived.Maps.OwnSet
import Derived.Maps.AppendAt
namespace Go.Proofs.Ytkgklccafebcbaa.IntW
set_option linter.unusedVariables false
open Go.RowKit

/-- Below B, but for the blocks of S, the world is as it was. -/
structure But (B : Nat) (S : Nat → Prop) (w w' : World) : Prop where
  os : w'.os = w.os
  tape : w'.tape = w.tape
  output : w'.output = w.output
  size : w.heap.size ≤ w'.heap.size
  block : ∀ k, k < B → ¬ S k → w'.heap[k]? = w.heap[k]?
theorem But.refl (B : Nat) (S : Nat → Prop) (w : World) : But B S w w := ⟨rfl, rfl, rfl, Nat.le_refl _, fun _ _ _ => rfl⟩
theorem But.trans {B : Nat} {S : Nat → Prop} {a b c : World} (h : But B S a b) (k : But B S b c) : But B S a c :=
  ⟨k.os.trans h.os, k.tape.trans h.tape, k.output.trans h.output, Nat.le_trans h.size k.size, fun i hi hr => (k.block i hi hr).trans (h.block i hi hr)⟩
theorem But.mono {B B' : Nat} {S S' : Nat → Prop} {w w' : World} (h : But B S w w') (hB : B' ≤ B) (hS : ∀ k, k < B' → S k → S' k) : But B' S' w w' := ⟨h.os, h.tape, h.output, h.size, fun k hk hr => h.block k (Nat.lt_of_lt_of_le hk hB) (fun h => hr (hS k hk h))⟩
theorem But.of {B : Nat} (S : Nat → Prop) {w w' : World} (h : Below B w w') : But B S w w' := ⟨h.os, h.tape, h.output, h.size, fun k hk _ => h.block k hk⟩
theorem But.below {B : Nat} {S : Nat → Prop} {w w' : World} (h : But B S w w') (hr : ∀ k, S k → B ≤ k) : Below B w w' := ⟨h.os, h.tape, h.output, h.size, fun k hk => h.block k hk (fun e => by have := hr k e; omega)⟩
theorem But.alloc {B : Nat} {S : Nat → Prop} {a w : World} (h : But B S a w) (hB : B ≤ w.heap.size) (o : Obj) : But B S a (w.alloc o) := h.trans (But.of S ((Below.refl B w).alloc hB o))
theorem But.set {B : Nat} {S : Nat → Prop} {a w : World} (h : But B S a w) {p : Addr} (hp : B ≤ p.block ∨ S p.block) (u : Value) : But B S a (w.setCell p u) :=
  h.trans ⟨rfl, rfl, rfl, by simp [World.setCell], fun k hk hr => Below.heap_setCell _ _ _ _ (fun e => by subst e; rcases hp with h | h; omega; exact hr h)⟩
theorem But.grown {B : Nat} {S : Nat → Prop} {row : Option Nat} {a w w' : World} (h : But B S a w) (hg : w.grownBy w' row) (hB : B ≤ w.heap.size) (hr : ∀ k, row = some k → B ≤ k ∨ S k) : But B S a w' :=
  h.trans ⟨hg.os, hg.tape, hg.output, hg.size, fun k hk hne => hg.block k (by omega) (fun e => by rcases hr k e.symm with h | h; omega; exact hne h)⟩
theorem But.cell {B : Nat} {S : Nat → Prop} {w w' : World} (h : But B S w w') {p : Addr} (hp : p.block < B) (hr : ¬ S p.block) : w'.cell? p = w.cell? p := World.cell?_of_block (w := w) (h.block p.block hp hr)
theorem lt_of_heap {w : World} {k : Nat} {o : Obj} (h : w.heap[k]? = some o) : k < w.heap.size := (Array.getElem?_eq_some_iff.1 h).1

theorem owns_zero {w : World} {b b' : Nat} {e : TypeId} {s : Nat} {v : Value} {n : Nat} {xs : List Value} (h : w.ownsRow b e s v n xs) (hb : b' ≤ b) : w.ownsRow b' e s v n xs := by
  obtain ⟨h1, h2⟩ := h
  refine ⟨h1, ?_⟩
  rcases h2 with h2 | ⟨g, cap, cur, hv, hg, r⟩
  · exact .inl h2
  · exact .inr ⟨g, cap, cur, hv, by omega, r⟩
/-- Where a row that is owned lies: a block of cells of its type. -/
theorem owns_cells {w : World} {b : Nat} {e : TypeId} {s : Nat} {v : Value} {n : Nat} {xs : List Value} (h : w.ownsRow b e s v n xs) {k : Nat} (hk : v.ownBlock = some k) : b ≤ k ∧ ∃ cur, w.heap[k]? = some (.cells cur e (0, 0)) := by
  rcases h.2 with ⟨rfl, _⟩ | ⟨g, cap, cur, rfl, hb, hg, _⟩
  · simp [Value.ownBlock] at hk
  · simp [Value.ownBlock] at hk; subst hk; exact ⟨hb, cur, hg⟩
theorem owns_heap {w w' : World} {b : Nat} {e : TypeId} {s : Nat} {v : Value} {n : Nat} {xs : List Value} (h : w.ownsRow b e s v n xs) (hh : ∀ k, v.ownBlock = some k → w'.heap[k]? = w.heap[k]?) : w'.ownsRow b e s v n xs := by
  obtain ⟨h1, h2⟩ := h
  refine ⟨h1, ?_⟩
  rcases h2 with h2 | ⟨g, cap, cur, rfl, hg, hgh, hr⟩
  · exact .inl h2
  · exact .inr ⟨g, cap, cur, rfl, hg, by rw [hh g (by simp [Value.ownBlock])]; exact hgh, hr⟩
theorem owns_but {w w' : World} {B b : Nat} {S : Nat → Prop} {e : TypeId} {s : Nat} {v : Value} {n : Nat} {xs : List Value} (h : w.ownsRow b e s v n xs) (hb : But B S w w') (hB : ∀ k, v.ownBlock = some k → k < B ∧ ¬ S k) : w'.ownsRow b e s v n xs :=
  owns_heap h fun k hk => hb.block k (hB k hk).1 (hB k hk).2
theorem owns_below {w w' : World} {b : Nat} {e : TypeId} {s : Nat} {v : Value} {n : Nat} {xs : List Value} (h : w.ownsRow b e s v n xs) (hb : Below w.heap.size w w') : w'.ownsRow b e s v n xs :=
  owns_heap h fun k hk => hb.block k (World.ownsRow.lt h k hk).2
end Go.Proofs.Ytkgklccafebcbaa.IntW
