/- What is known of a machine that is being made, label by label, or state by state; what may change and leaves it as it is. -/
import Derived.Test.YtfhddbjojpmbcaaBuild
import Derived.Test.YtfhddbjojpmbcaaAid
import Derived.Laws.AppendOwnNone
namespace Go.Proofs.Ytfhddbjojpmbcaa.DfaW
set_option linter.unusedVariables false
open Go.RowKit Go.Maps Go.Proofs.Ytfhddbjojpmbcaa.PartM Go.Proofs.Ytfhddbjojpmbcaa.PartW

theorem own_at {w : World} {b : Nat} {e : TypeId} {s : Nat} {v : Value} {n : Nat} {xs : List Value} (h : w.ownsRow b e s v n xs) {g : Nat} (hg : v.ownBlock = some g) : (∃ cur, w.heap[g]? = some (.cells cur e (0, 0))) ∧ b ≤ g ∧ g < w.heap.size := by
  rcases h.2 with ⟨rfl, _⟩ | ⟨g', cap, cur, rfl, hb, hh, _⟩
  · cases hg
  · have e : g' = g := by simpa [Value.ownBlock] using hg
    subst e
    exact ⟨⟨cur, hh⟩, hb, (Array.getElem?_eq_some_iff.1 hh).1⟩
theorem own_keep {w w' : World} {b : Nat} {e : TypeId} {s : Nat} {v : Value} {n : Nat} {xs : List Value} (h : w.ownsRow b e s v n xs) (hk : ∀ g, v.ownBlock = some g → w'.heap[g]? = w.heap[g]?) : w'.ownsRow b e s v n xs := by
  obtain ⟨h1, h2⟩ := h
  refine ⟨h1, ?_⟩
  rcases h2 with h2 | ⟨g, cap, cur, rfl, hg, hgh, hr⟩
  · exact .inl h2
  · exact .inr ⟨g, cap, cur, rfl, hg, by rw [hk g rfl]; exact hgh, hr⟩
theorem own_other {w : World} {b b' : Nat} {e e' : TypeId} {s s' : Nat} {v v' : Value} {n n' : Nat} {xs xs' : List Value} (h : w.ownsRow b e s v n xs) (h' : w.ownsRow b' e' s' v' n' xs') (he : e ≠ e') {g : Nat} (hg : v.ownBlock = some g) : v'.ownBlock ≠ some g := fun hg' => by
  obtain ⟨⟨c, h1⟩, _⟩ := own_at h hg
  obtain ⟨⟨c', h2⟩, _⟩ := own_at h' hg'
  rw [h1] at h2
  injection h2 with h2
  injection h2 with _ h2
  exact he h2
/-- A machine that is being made lies in block bk: its rows, its labels so far; what lay ahead of B lies as it did. -/
structure Kept (W wr : World) (bk B : Nat) (A : Array Value) (x : Int) (v1 v2 u : Value) (Ms : List (List Int)) (ls : List Int) : Prop where
  os : wr.os = W.os
  tape : wr.tape = W.tape
  output : wr.output = W.output
  size : W.heap.size ≤ wr.heap.size
  lt : bk < B
  base : B ≤ wr.heap.size
  fr : ∀ k, k < B → k ≠ bk → wr.heap[k]? = W.heap[k]?
  box : Ar wr bk (mkC A (.int .i64 x) v1 v2 u) 27
  o1 : ∃ vs, wr.ownsRow B 24 1 v1 Ms.length vs ∧ ∀ i, i < Ms.length → ∃ vi, vs[i]? = some vi ∧ OI wr B vi (Ms.getD i []) ∧ ∀ g, vi.ownBlock = some g → v2.ownBlock ≠ some g
  o2 : OI wr B v2 ls
section
variable {W wr : World} {bk B : Nat} {A : Array Value} {x : Int} {v1 v2 u : Value} {Ms : List (List Int)} {ls : List Int}
theorem Kept.below {wr' : World} (h : Kept W wr bk B A x v1 v2 u Ms ls) (hb : Below wr.heap.size wr wr') : Kept W wr' bk B A x v1 v2 u Ms ls := by
  refine ⟨hb.os.trans h.os, hb.tape.trans h.tape, hb.output.trans h.output, Nat.le_trans h.size hb.size, h.lt, Nat.le_trans h.base hb.size, fun k k1 k2 => (hb.block k (by have := h.base; omega)).trans (h.fr k k1 k2), h.box.below hb, ?_, h.o2.below hb⟩
  obtain ⟨vs, h1, h2⟩ := h.o1
  refine ⟨vs, own_keep h1 fun g hg => hb.block g (own_at h1 hg).2.2, fun i hi => ?_⟩
  obtain ⟨vi, h3, h4, h5⟩ := h2 i hi
  exact ⟨vi, h3, h4.below hb, h5⟩
/-- A row more. -/
theorem Kept.row {w' : World} (h : Kept W wr bk B A x v1 v2 u Ms ls) (hA : A.size = 256) {vs : List Value} {vi v1' : Value} {M : List Int} (hvs : ∀ i, i < Ms.length → ∃ vi, vs[i]? = some vi ∧ OI wr B vi (Ms.getD i []) ∧ ∀ g, vi.ownBlock = some g → v2.ownBlock ≠ some g) (ho1 : wr.ownsRow B 24 1 v1 Ms.length vs)
    (hi : OI wr B vi M) (hd : ∀ g, vi.ownBlock = some g → v2.ownBlock ≠ some g) (ho : w'.ownsRow B 24 1 v1' (Ms.length + 1) (vs ++ [vi])) (hg : wr.grownBy w' v1.ownBlock) :
    Kept W (w'.setCell ⟨bk, 257, none⟩ v1') bk B A x v1' v2 u (Ms ++ [M]) ls := by
  have hne : ∀ k, k < B → some k ≠ v1.ownBlock := fun k hk e => by have := (own_at ho1 e.symm).2.1; omega
  have blk : ∀ k, k < wr.heap.size → k ≠ bk → some k ≠ v1.ownBlock → (w'.setCell ⟨bk, 257, none⟩ v1').heap[k]? = wr.heap[k]? := fun k k1 k2 k3 => (Below.heap_setCell _ ⟨bk, 257, none⟩ _ k k2).trans (hg.block k k1 k3)
  have hb := h.base
  have hlt := h.lt
  have oi : ∀ (v : Value) (l : List Int), OI wr B v l → OI (w'.setCell ⟨bk, 257, none⟩ v1') B v l := fun v l hv => own_keep hv fun g e => by
    have h1 := own_at hv e
    exact blk g h1.2.2 (by omega) (fun e2 => own_other hv ho1 (by decide) e e2.symm)
  refine ⟨hg.os.trans h.os, hg.tape.trans h.tape, hg.output.trans h.output, Nat.le_trans h.size (by have := hg.size; simp [World.setCell]; exact this), h.lt, Nat.le_trans hb (by have := hg.size; simp [World.setCell]; exact this), fun k k1 k2 => (blk k (by omega) k2 (hne k k1)).trans (h.fr k k1 k2), ?_, ⟨vs ++ [vi], ?_, fun i hi2 => ?_⟩, oi _ _ h.o2⟩
  · have h1 : Ar w' bk (mkC A (.int .i64 x) v1 v2 u) 27 := (hg.block bk (by omega) (hne bk hlt)).trans h.box
    have h2 := h1.set 257 v1'
    rw [(set_hi hA _ _ _ _ _).2.1] at h2
    exact h2
  · rw [List.length_append]
    refine own_keep ho fun g e => Below.heap_setCell _ ⟨bk, 257, none⟩ _ g (fun e2 => ?_)
    have := (own_at ho e).2.1
    have e2 : g = bk := e2
    omega
  · rw [List.length_append, List.length_singleton] at hi2
    rcases Nat.lt_or_ge i Ms.length with h' | h'
    · obtain ⟨vj, h1, h2, h3⟩ := hvs i h'
      refine ⟨vj, ?_, ?_, h3⟩
      · rw [List.getElem?_append_left (List.getElem?_eq_some_iff.1 h1).1]; exact h1
      · rw [List.getD_eq_getElem?_getD, List.getElem?_append_left h', ← List.getD_eq_getElem?_getD]; exact oi _ _ h2
    · obtain rfl : i = Ms.length := by omega
      have hvl : vs.length = Ms.length := by have := ho1.1; simpa using this
      refine ⟨vi, by rw [← hvl]; simp, ?_, hd⟩
      rw [List.getD_eq_getElem?_getD, List.getElem?_append_right (Nat.le_refl _)]
      simpa using oi _ _ hi
/-- A label more. -/
theorem Kept.lab {w' : World} (h : Kept W wr bk B A x v1 v2 u Ms ls) (hA : A.size = 256) {v2' : Value} {y : Int} (ho : OI w' B v2' (ls ++ [y])) (hg : wr.grownBy w' v2.ownBlock) (hat : ∀ g, v2'.ownBlock = some g → v2.ownBlock = some g ∨ wr.heap.size ≤ g) :
    Kept W (w'.setCell ⟨bk, 258, none⟩ v2') bk B A x v1 v2' u Ms (ls ++ [y]) := by
  have hne : ∀ k, k < B → some k ≠ v2.ownBlock := fun k hk e => by have := (own_at h.o2 e.symm).2.1; omega
  have blk : ∀ k, k < wr.heap.size → k ≠ bk → some k ≠ v2.ownBlock → (w'.setCell ⟨bk, 258, none⟩ v2').heap[k]? = wr.heap[k]? := fun k k1 k2 k3 => (Below.heap_setCell _ ⟨bk, 258, none⟩ _ k k2).trans (hg.block k k1 k3)
  have hb := h.base
  have hlt := h.lt
  obtain ⟨vs, ho1, hvs⟩ := h.o1
  refine ⟨hg.os.trans h.os, hg.tape.trans h.tape, hg.output.trans h.output, Nat.le_trans h.size (by have := hg.size; simp [World.setCell]; exact this), h.lt, Nat.le_trans hb (by have := hg.size; simp [World.setCell]; exact this), fun k k1 k2 => (blk k (by omega) k2 (hne k k1)).trans (h.fr k k1 k2), ?_, ⟨vs, ?_, fun i hi2 => ?_⟩, ?_⟩
  · have h1 : Ar w' bk (mkC A (.int .i64 x) v1 v2 u) 27 := (hg.block bk (by omega) (hne bk hlt)).trans h.box
    have h2 := h1.set 258 v2'
    rw [(set_hi hA _ _ _ _ _).2.2.1] at h2
    exact h2
  · refine own_keep ho1 fun g e => ?_
    have h1 := own_at ho1 e
    exact blk g h1.2.2 (by omega) (fun e2 => own_other ho1 h.o2 (by decide) e e2.symm)
  · obtain ⟨vi, h1, h2, h3⟩ := hvs i hi2
    refine ⟨vi, h1, own_keep h2 fun g e => ?_, fun g e e2 => ?_⟩
    · have h4 := own_at h2 e
      exact blk g h4.2.2 (by omega) (fun e2 => h3 g e e2.symm)
    · rcases hat g e2 with e3 | e3
      · exact h3 g e e3
      · have := (own_at h2 e).2.2; omega
  · refine own_keep ho fun g e => Below.heap_setCell _ ⟨bk, 258, none⟩ _ g (fun e2 => ?_)
    have := (own_at ho e).2.1
    have e2 : g = bk := e2
    omega
theorem Kept.blow (h : Kept W wr bk B A x v1 v2 u Ms ls) {n : Nat} (hn : n ≤ bk) : Below n W wr := ⟨h.os, h.tape, h.output, h.size, fun k hk => h.fr k (by have := h.lt; omega) (by omega)⟩
theorem Kept.at (h : Kept W wr bk B A x v1 v2 u Ms ls) (hA : A.size = 256) : wr.cell? ⟨bk, 257, none⟩ = some v1 ∧ wr.cell? ⟨bk, 258, none⟩ = some v2 :=
  ⟨(Ar.at' h.box 257).trans (mkC_hi hA _ _ _ _ 1), (Ar.at' h.box 258).trans (mkC_hi hA _ _ _ _ 2)⟩
theorem Kept.grown1 {w' : World} (h : Kept W wr bk B A x v1 v2 u Ms ls) (hA : A.size = 256) (hg : wr.grownBy w' v1.ownBlock) : (∃ y, w'.cell? ⟨bk, 257, none⟩ = some y) ∧ w'.frozen? ⟨bk, 257, none⟩ = false := by
  obtain ⟨vs, ho1, _⟩ := h.o1
  have h1 : Ar w' bk (mkC A (.int .i64 x) v1 v2 u) 27 := (hg.block bk (by have := h.lt; have := h.base; omega) fun e => by have := (own_at ho1 e.symm).2.1; have := h.lt; omega).trans h.box
  exact ⟨⟨_, (Ar.at' h1 257).trans (mkC_hi hA _ _ _ _ 1)⟩, Ar.frozen h1 257⟩
theorem Kept.grown2 {w' : World} (h : Kept W wr bk B A x v1 v2 u Ms ls) (hA : A.size = 256) (hg : wr.grownBy w' v2.ownBlock) : (∃ y, w'.cell? ⟨bk, 258, none⟩ = some y) ∧ w'.frozen? ⟨bk, 258, none⟩ = false := by
  have h1 : Ar w' bk (mkC A (.int .i64 x) v1 v2 u) 27 := (hg.block bk (by have := h.lt; have := h.base; omega) fun e => by have := (own_at h.o2 e.symm).2.1; have := h.lt; omega).trans h.box
  exact ⟨⟨_, (Ar.at' h1 258).trans (mkC_hi hA _ _ _ _ 2)⟩, Ar.frozen h1 258⟩
theorem Kept.setRow (h : Kept W wr bk B A x v1 v2 u Ms ls) {b : Nat} (hb : b < B) (hn : b ≠ bk) (D : Array Value) : Kept (W.setRow b D) (wr.setRow b D) bk B A x v1 v2 u Ms ls := by
  have oi : ∀ {e : TypeId} {s : Nat} {v : Value} {n : Nat} {xs : List Value}, wr.ownsRow B e s v n xs → (wr.setRow b D).ownsRow B e s v n xs := fun ho => own_keep ho fun g hg => heap_row _ _ _ (by have := (own_at ho hg).2.1; omega)
  refine ⟨h.os, h.tape, h.output, by rw [size_row, size_row]; exact h.size, h.lt, by rw [size_row]; exact h.base, fun k k1 k2 => ?_, (heap_row _ _ _ (fun e => hn e.symm)).trans h.box, ?_, oi h.o2⟩
  · have h1 := h.fr k k1 k2
    show (wr.heap.modify b _)[k]? = (W.heap.modify b _)[k]?
    rw [Array.getElem?_modify, Array.getElem?_modify, h1]
  · obtain ⟨vs, h1, h2⟩ := h.o1
    exact ⟨vs, oi h1, fun i hi => by obtain ⟨vi, h3, h4, h5⟩ := h2 i hi; exact ⟨vi, h3, oi h4, h5⟩⟩
/-- What is made is a machine. -/
theorem Kept.is (h : Kept W wr bk B A x v1 v2 u Ms ls) {f : Nat → Nat} (hA : IsA A f) (hf : ∀ i, i < 256 → f i < 256) {tl : List ByteArray} (hu : TS wr.heap.size wr u tl) : IsM wr.heap.size wr (mkC A (.int .i64 x) v1 v2 u) ⟨f, x, Ms, ls, tl⟩ := by
  refine mkC_is (m := ⟨f, x, Ms, ls, tl⟩) hA hf ?_ h.o2.is hu
  obtain ⟨vs, h1, h2⟩ := h.o1
  have hl : vs.length = Ms.length := by have := h1.1; simpa using this
  refine ⟨vs, VS.of_owns h1 fun a c e => ?_, hl, fun i hi => ?_⟩
  · rcases h1.2 with ⟨e2, _⟩ | ⟨g, cap, cur, e2, _, _, _, hc, _⟩
    · rw [e2] at e; simp only [Value.slice.injEq] at e; have := e.2.2; omega
    · rw [e2] at e; simp only [Value.slice.injEq] at e; rw [← e.2.2]; exact hc
  · obtain ⟨vi, h3, h4, _⟩ := h2 i hi
    exact ⟨vi, h3, h4.is⟩
end
/-- The beginning. -/
theorem Kept.first {W : World} {bk : Nat} {A : Array Value} {x : Int} {u : Value} (h : Ar W bk (mkC A (.int .i64 x) nilS nilS u) 27) : Kept W W bk W.heap.size A x nilS nilS u [] [] :=
  ⟨rfl, rfl, rfl, Nat.le_refl _, h.lt, Nat.le_refl _, fun _ _ _ => rfl, h, ⟨[], World.ownsRow_nil _ _ _ _, fun i hi => by simp at hi⟩, OI.nil _ _⟩
theorem zero_is (w : World) : IsM w.heap.size w Try.zeroCells27 zeroM := by
  rw [zc]
  exact mkC_is (m := zeroM) zA_is (fun i _ => by show (0 : Nat) < 256; decide) ⟨[], VS.nil _ _ _, rfl, fun i hi => by simp [zeroM] at hi⟩ (VS.nil _ _ _) ⟨VS.nil _ _ _, fun i hi => by simp [zeroM] at hi⟩

/-- The same but for some blocks, and for what was made since. -/
structure Alike (X : Nat → Prop) (w w' : World) : Prop where
  os : w'.os = w.os
  tape : w'.tape = w.tape
  output : w'.output = w.output
  size : w.heap.size ≤ w'.heap.size
  block : ∀ k, ¬ X k → k < w.heap.size → w'.heap[k]? = w.heap[k]?
theorem Alike.refl (X : Nat → Prop) (w : World) : Alike X w w := ⟨rfl, rfl, rfl, Nat.le_refl _, fun _ _ _ => rfl⟩
theorem Below.alike {n : Nat} {w w' : World} (h : Below n w w') : Alike (fun k => n ≤ k) w w' := ⟨h.os, h.tape, h.output, h.size, fun k h1 _ => h.block k (by omega)⟩
theorem Alike.below {X : Nat → Prop} {w w' : World} (h : Alike X w w') {n : Nat} (hn : ∀ k, X k → n ≤ k) (hs : n ≤ w.heap.size) : Below n w w' := ⟨h.os, h.tape, h.output, h.size, fun k hk => h.block k (fun x => by have := hn k x; omega) (by omega)⟩
theorem Alike.back {X Y : Nat → Prop} {w w' w'' : World} (h : Alike X w' w'') (hb : Below w.heap.size w w') (hXY : ∀ k, X k → k < w.heap.size → Y k) : Alike Y w w'' :=
  ⟨h.os.trans hb.os, h.tape.trans hb.tape, h.output.trans hb.output, Nat.le_trans hb.size h.size, fun k h1 h2 => (h.block k (fun x => h1 (hXY k x h2)) (Nat.lt_of_lt_of_le h2 hb.size)).trans (hb.block k h2)⟩
theorem Alike.row {X : Nat → Prop} {w w' : World} {b : Nat} {E : Array Value} (h : Alike X (w.setRow b E) w') (hb : X b) : Alike X w w' :=
  ⟨h.os, h.tape, h.output, by have := h.size; rw [size_row] at this; exact this, fun k h1 h2 => (h.block k h1 (by rw [size_row]; exact h2)).trans (heap_row _ _ _ (fun e => h1 (e ▸ hb)))⟩
/-- Whatever becomes of the blocks X, the machine reads as it does; a list of texts likewise. -/
def Rx (X : Nat → Prop) (w : World) (D : Array Value) (m : Mc) : Prop := ∀ w'', Alike X w w'' → IsM w''.heap.size w'' D m
def RxT (X : Nat → Prop) (w : World) (v : Value) (l : List ByteArray) : Prop := ∀ w'', Alike X w w'' → TS w''.heap.size w'' v l
section
variable {X Y : Nat → Prop} {w w' : World} {D : Array Value} {m : Mc} {v : Value} {l : List ByteArray}
theorem Rx.is (h : Rx X w D m) : IsM w.heap.size w D m := h w (Alike.refl _ _)
theorem Rx.mono (h : Rx X w D m) (hXY : ∀ k, Y k → X k) : Rx Y w D m := fun w'' a => h w'' ⟨a.os, a.tape, a.output, a.size, fun k h1 h2 => a.block k (fun x => h1 (hXY k x)) h2⟩
/-- What was made since may change as well. -/
theorem Rx.free (h : Rx X w D m) (hb : Below w.heap.size w w') : Rx (fun k => X k ∨ w.heap.size ≤ k) w' D m := fun w'' a => h w'' (a.back hb fun k hk h2 => hk.elim id fun x => absurd h2 (by omega))
theorem Rx.next (h : Rx X w D m) (hb : Below w.heap.size w w') : Rx X w' D m := (h.free hb).mono fun k hk => .inl hk
theorem Rx.row (h : Rx X w D m) {b : Nat} (hb : X b) (E : Array Value) : Rx X (w.setRow b E) D m := fun w'' a => h w'' (a.row hb)
theorem IsM.rx {n : Nat} (h : IsM n w D m) (hn : n ≤ w.heap.size) : Rx (fun k => n ≤ k) w D m := fun w'' a => (h.below (a.below (fun _ h => h) hn)).up (Nat.le_trans hn a.size)
theorem RxT.is (h : RxT X w v l) : TS w.heap.size w v l := h w (Alike.refl _ _)
theorem RxT.mono (h : RxT X w v l) (hXY : ∀ k, Y k → X k) : RxT Y w v l := fun w'' a => h w'' ⟨a.os, a.tape, a.output, a.size, fun k h1 h2 => a.block k (fun x => h1 (hXY k x)) h2⟩
theorem RxT.free (h : RxT X w v l) (hb : Below w.heap.size w w') : RxT (fun k => X k ∨ w.heap.size ≤ k) w' v l := fun w'' a => h w'' (a.back hb fun k hk h2 => hk.elim id fun x => absurd h2 (by omega))
theorem RxT.next (h : RxT X w v l) (hb : Below w.heap.size w w') : RxT X w' v l := (h.free hb).mono fun k hk => .inl hk
theorem RxT.row (h : RxT X w v l) {b : Nat} (hb : X b) (E : Array Value) : RxT X (w.setRow b E) v l := fun w'' a => h w'' (a.row hb)
theorem TS.rx {n : Nat} (h : TS n w v l) (hn : n ≤ w.heap.size) : RxT (fun k => n ≤ k) w v l := fun w'' a => (h.below (a.below (fun _ h => h) hn)).up (Nat.le_trans hn a.size)
theorem OS.rx {b : Nat} (h : OS w b v l) (hz : Szs l) (hX : ∀ k, X k → k < b) : RxT X w v l := fun w'' a =>
  OS.is (base := b) (own_keep h fun g hg => a.block g (fun x => by have := hX g x; have := (own_at h hg).2.1; omega) (own_at h hg).2.2) hz
theorem zero_rx (X : Nat → Prop) (w : World) : Rx X w Try.zeroCells27 zeroM := fun w'' _ => zero_is w''
theorem OI.alike {b : Nat} {v : Value} {l : List Int} (h : OI w b v l) (a : Alike X w w') (hX : ∀ k, X k → k < b) : OI w' b v l :=
  own_keep h fun g hg => a.block g (fun x => by have := hX g x; have := (own_at h hg).2.1; omega) (own_at h hg).2.2
end
/-- A machine that is being made lies in block bk: its labels so far; what lay ahead of B lies as it did. -/
structure Lb (W wr : World) (bk B : Nat) (A : Array Value) (x : Int) (v1 v2 u : Value) (ls : List Int) : Prop where
  os : wr.os = W.os
  tape : wr.tape = W.tape
  output : wr.output = W.output
  size : W.heap.size ≤ wr.heap.size
  lt : bk < B
  base : B ≤ wr.heap.size
  fr : ∀ k, k < B → k ≠ bk → wr.heap[k]? = W.heap[k]?
  box : Ar wr bk (mkC A (.int .i64 x) v1 v2 u) 27
  o2 : OI wr B v2 ls
section
variable {W wr : World} {bk B : Nat} {A : Array Value} {x : Int} {v1 v2 u : Value} {ls : List Int}
theorem Lb.below {wr' : World} (h : Lb W wr bk B A x v1 v2 u ls) (hb : Below wr.heap.size wr wr') : Lb W wr' bk B A x v1 v2 u ls :=
  ⟨hb.os.trans h.os, hb.tape.trans h.tape, hb.output.trans h.output, Nat.le_trans h.size hb.size, h.lt, Nat.le_trans h.base hb.size, fun k k1 k2 => (hb.block k (by have := h.base; omega)).trans (h.fr k k1 k2), h.box.below hb, h.o2.below hb⟩
theorem Lb.lab {w' : World} (h : Lb W wr bk B A x v1 v2 u ls) (hA : A.size = 256) {v2' : Value} {y : Int} (ho : OI w' B v2' (ls ++ [y])) (hg : wr.grownBy w' v2.ownBlock) :
    Lb W (w'.setCell ⟨bk, 258, none⟩ v2') bk B A x v1 v2' u (ls ++ [y]) := by
  have hne : ∀ k, k < B → some k ≠ v2.ownBlock := fun k hk e => by have := (own_at h.o2 e.symm).2.1; omega
  have blk : ∀ k, k < wr.heap.size → k ≠ bk → some k ≠ v2.ownBlock → (w'.setCell ⟨bk, 258, none⟩ v2').heap[k]? = wr.heap[k]? := fun k k1 k2 k3 => (Below.heap_setCell _ ⟨bk, 258, none⟩ _ k k2).trans (hg.block k k1 k3)
  have hb := h.base
  have hlt := h.lt
  refine ⟨hg.os.trans h.os, hg.tape.trans h.tape, hg.output.trans h.output, Nat.le_trans h.size (by have := hg.size; simp [World.setCell]; exact this), h.lt, Nat.le_trans hb (by have := hg.size; simp [World.setCell]; exact this), fun k k1 k2 => (blk k (by omega) k2 (hne k k1)).trans (h.fr k k1 k2), ?_, ?_⟩
  · have h1 : Ar w' bk (mkC A (.int .i64 x) v1 v2 u) 27 := (hg.block bk (by omega) (hne bk hlt)).trans h.box
    have h2 := h1.set 258 v2'
    rw [(set_hi hA _ _ _ _ _).2.2.1] at h2
    exact h2
  · refine own_keep ho fun g e => Below.heap_setCell _ ⟨bk, 258, none⟩ _ g (fun e2 => ?_)
    have := (own_at ho e).2.1
    have e2 : g = bk := e2
    omega
theorem Lb.blow (h : Lb W wr bk B A x v1 v2 u ls) {n : Nat} (hn : n ≤ bk) : Below n W wr := ⟨h.os, h.tape, h.output, h.size, fun k hk => h.fr k (by have := h.lt; omega) (by omega)⟩
theorem Lb.at (h : Lb W wr bk B A x v1 v2 u ls) (hA : A.size = 256) : wr.cell? ⟨bk, 258, none⟩ = some v2 := (Ar.at' h.box 258).trans (mkC_hi hA _ _ _ _ 2)
theorem Lb.grown2 {w' : World} (h : Lb W wr bk B A x v1 v2 u ls) (hA : A.size = 256) (hg : wr.grownBy w' v2.ownBlock) : (∃ y, w'.cell? ⟨bk, 258, none⟩ = some y) ∧ w'.frozen? ⟨bk, 258, none⟩ = false := by
  have h1 : Ar w' bk (mkC A (.int .i64 x) v1 v2 u) 27 := (hg.block bk (by have := h.lt; have := h.base; omega) fun e => by have := (own_at h.o2 e.symm).2.1; have := h.lt; omega).trans h.box
  exact ⟨⟨_, (Ar.at' h1 258).trans (mkC_hi hA _ _ _ _ 2)⟩, Ar.frozen h1 258⟩
theorem Lb.first {W : World} {bk : Nat} {A : Array Value} {x : Int} {v1 u : Value} (h : Ar W bk (mkC A (.int .i64 x) v1 nilS u) 27) : Lb W W bk W.heap.size A x v1 nilS u [] :=
  ⟨rfl, rfl, rfl, Nat.le_refl _, h.lt, Nat.le_refl _, fun _ _ _ => rfl, h, OI.nil _ _⟩
/-- What lies elsewhere reads as it did. -/
theorem Lb.alike {X Y : Nat → Prop} {w'' : World} (h : Lb W wr bk B A x v1 v2 u ls) (hWB : W.heap.size ≤ B) (hXY : ∀ k, X k → Y k) (hbk : Y bk) (a : Alike X wr w'') : Alike Y W w'' :=
  ⟨a.os.trans h.os, a.tape.trans h.tape, a.output.trans h.output, Nat.le_trans h.size a.size, fun k h1 h2 => (a.block k (fun x => h1 (hXY k x)) (Nat.lt_of_lt_of_le h2 h.size)).trans (h.fr k (by omega) (fun e => h1 (e ▸ hbk)))⟩
/-- What is made is a machine, whatever becomes of X. -/
theorem Lb.rx {X Y : Nat → Prop} (h : Lb W wr bk B A x v1 v2 u ls) {f : Nat → Nat} (hA : IsA A f) (hf : ∀ i, i < 256 → f i < 256) {C : Array Value} {m : Mc} {tl : List ByteArray} (hm : Rx Y W C m) (hv1 : C[257]? = some v1) (hu : RxT Y W u tl)
    (hWB : W.heap.size ≤ B) (hXY : ∀ k, X k → Y k) (hbk : Y bk) (hXB : ∀ k, X k → k < B) : Rx X wr (mkC A (.int .i64 x) v1 v2 u) ⟨f, x, m.nx, ls, tl⟩ := fun w'' a => by
  have a2 := h.alike hWB hXY hbk a
  obtain ⟨v, e1, e2⟩ := (hm w'' a2).nx
  rw [hv1] at e1; cases e1
  exact mkC_is (m := ⟨f, x, m.nx, ls, tl⟩) hA hf e2 (h.o2.alike a hXB).is (hu w'' a2)
end
section
variable {W wr : World} {bk B : Nat} {A : Array Value} {x : Int} {v1 v2 u : Value} {ls : List Int}
theorem Lb.bx {Y : Nat → Prop} (h : Lb W wr bk B A x v1 v2 u ls) (hWB : W.heap.size ≤ B) (hbk : Y bk) {b : Nat} {C : Array Value} {m : Mc} (hx : Ar W b C 27) (hb : b ≠ bk) (hm : Rx Y W C m) : Bx wr b C m :=
  ⟨(h.fr b (by have := hx.lt; omega) hb).trans hx, hm wr (h.alike (X := Y) hWB (fun _ h => h) hbk (Alike.refl _ _))⟩
theorem Lb.ts {Y : Nat → Prop} (h : Lb W wr bk B A x v1 v2 u ls) (hWB : W.heap.size ≤ B) (hbk : Y bk) {v : Value} {l : List ByteArray} (hm : RxT Y W v l) : TS wr.heap.size wr v l :=
  hm wr (h.alike (X := Y) hWB (fun _ h => h) hbk (Alike.refl _ _))
end
section
variable {ops : Array Oper} {rest : List Oper} {o : Oper} {a : Act} {w : World} {Q : Exit → Act → World → Prop}
/-- One number more; what grew is told. -/
theorem wpList_append_int_g (hgd : o.guard = none) (s x : Operand) (ho : o.op = .call { callee := .builtin .append, args := #[s, x], argTypes := #[24, 24] })
    {base : Nat} {v : Value} {l : List Int} (hs : a.eval s = v) (hown : OI w base v l) (hbase : base ≤ w.heap.size) (ad : Addr) (c : Nat) (y : Int) (hx : a.eval x = .slice (some ad) 1 c) (hc : w.cell? ad = some (.int .i64 y)) (hsp : ad.add 0 = ad)
    (hbytes : l.length + 1 ≤ 17592186044416)
    (hK : ∀ v' w', OI w' base v' (l ++ [y]) → w.grownBy w' v.ownBlock → wpList Try.prog ops Q rest (a.put o.dst v') w') : wpList Try.prog ops Q (o :: rest) a w := by
  obtain ⟨i0, hi, hz0, hz1, hz2⟩ := info_parts info3
  refine wpList_append_own _ hgd s x 24 ho base 3 i0 (.int .i64 0) 1 8 Try.underlying24 hi hz0 hz1 hz2 rfl (by decide) v _ _ hs hown ad 1 c [.int .i64 y] hx rfl (fun j u hj => ?_) (fun u hu => ?_) (by unfold maxLen; omega) (by omega) hbase fun v' w' h1 h2 _ => hK v' w' ?_ h2
  · cases j with
    | zero => simp at hj; subst hj; rw [hsp]; exact hc
    | succ j => simp at hj
  · rw [List.mem_singleton] at hu; subst hu; rfl
  · show w'.ownsRow base 3 1 v' (l ++ [y]).length ((l ++ [y]).map (Value.int .i64))
    rw [List.length_append, List.map_append]; exact h1
end
theorem OS.one (w : World) (s : ByteArray) : OS (w.alloc (.cells #[.string s] 9)) w.heap.size (.slice (some ⟨w.heap.size, 0, none⟩) 1 1) [s] :=
  ⟨rfl, .inr ⟨w.heap.size, 1, #[.string s], rfl, Nat.le_refl _, Ar.new _ _ _, Nat.le_refl _, by unfold maxLen; omega, rfl, rfl⟩⟩
theorem OS.rx_at {X : Nat → Prop} {w : World} {v : Value} {l : List ByteArray} {b : Nat} (h : OS w b v l) (hz : Szs l) (hX : ∀ g, v.ownBlock = some g → ¬ X g) : RxT X w v l := fun w'' a =>
  OS.is (base := b) (own_keep h fun g hg => a.block g (hX g hg) (own_at h hg).2.2) hz
end Go.Proofs.Ytfhddbjojpmbcaa.DfaW
