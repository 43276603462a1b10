/- A machine that is being made row by row, its labels and names those of another one. -/
import Derived.Test.YthefhkgjadfhgaaDoorMade2
namespace Go.Proofs.YthefhkgjadfhgaaDoor.DfaW
set_option linter.unusedVariables false
set_option linter.unusedSimpArgs false
open Go.RowKit Go.Maps Go.Proofs.YthefhkgjadfhgaaDoor.PartM Go.Proofs.YthefhkgjadfhgaaDoor.PartW
/-- It lies in block bk; what lay ahead of B lies as it did. -/
structure Rw (W wr : World) (bk B : Nat) (A : Array Value) (x : Int) (v1 v2 u : Value) (Ms : List (List Int)) : Prop where
  os : wr.os = W.os
  tape : wr.tape = W.tape
  output : wr.output = W.output
  size : W.heap.size ≤ wr.heap.size
  lt : bk < B
  base : B ≤ wr.heap.size
  fr : ∀ k, k < B → k ≠ bk → wr.heap[k]? = W.heap[k]?
  box : Ar wr bk (mkC A (.int .i64 x) v1 v2 u) 27
  o1 : ∃ vs, wr.ownsRow B 24 1 v1 Ms.length vs ∧ ∀ i, i < Ms.length → ∃ vi, vs[i]? = some vi ∧ OI wr B vi (Ms.getD i [])
section
variable {W wr : World} {bk B : Nat} {A : Array Value} {x : Int} {v1 v2 u : Value} {Ms : List (List Int)}
theorem Rw.below {wr' : World} (h : Rw W wr bk B A x v1 v2 u Ms) (hb : Below wr.heap.size wr wr') : Rw W wr' bk B A x v1 v2 u Ms := by
  refine ⟨hb.os.trans h.os, hb.tape.trans h.tape, hb.output.trans h.output, Nat.le_trans h.size hb.size, h.lt, Nat.le_trans h.base hb.size, fun k k1 k2 => (hb.block k (by have := h.base; omega)).trans (h.fr k k1 k2), h.box.below hb, ?_⟩
  obtain ⟨vs, h1, h2⟩ := h.o1
  refine ⟨vs, own_keep h1 fun g hg => hb.block g (own_at h1 hg).2.2, fun i hi => ?_⟩
  obtain ⟨vi, h3, h4⟩ := h2 i hi
  exact ⟨vi, h3, h4.below hb⟩
/-- A row more. -/
theorem Rw.row {w' : World} (h : Rw W wr bk B A x v1 v2 u Ms) (hA : A.size = 256) {vs : List Value} {vi v1' : Value} {M : List Int} (hvs : ∀ i, i < Ms.length → ∃ vi, vs[i]? = some vi ∧ OI wr B vi (Ms.getD i [])) (ho1 : wr.ownsRow B 24 1 v1 Ms.length vs)
    (hi : OI wr B vi M) (ho : w'.ownsRow B 24 1 v1' (Ms.length + 1) (vs ++ [vi])) (hg : wr.grownBy w' v1.ownBlock) :
    Rw W (w'.setCell ⟨bk, 257, none⟩ v1') bk B A x v1' v2 u (Ms ++ [M]) := by
  have hne : ∀ k, k < B → some k ≠ v1.ownBlock := fun k hk e => by have := (own_at ho1 e.symm).2.1; omega
  have blk : ∀ k, k < wr.heap.size → k ≠ bk → some k ≠ v1.ownBlock → (w'.setCell ⟨bk, 257, none⟩ v1').heap[k]? = wr.heap[k]? := fun k k1 k2 k3 => (Below.heap_setCell _ ⟨bk, 257, none⟩ _ k k2).trans (hg.block k k1 k3)
  have hb := h.base
  have hlt := h.lt
  have oi : ∀ (v : Value) (l : List Int), OI wr B v l → OI (w'.setCell ⟨bk, 257, none⟩ v1') B v l := fun v l hv => own_keep hv fun g e => by
    have h1 := own_at hv e
    exact blk g h1.2.2 (by omega) (fun e2 => own_other hv ho1 (by decide) e e2.symm)
  refine ⟨hg.os.trans h.os, hg.tape.trans h.tape, hg.output.trans h.output, Nat.le_trans h.size (by have := hg.size; simp [World.setCell]; exact this), h.lt, Nat.le_trans hb (by have := hg.size; simp [World.setCell]; exact this), fun k k1 k2 => (blk k (by omega) k2 (hne k k1)).trans (h.fr k k1 k2), ?_, ⟨vs ++ [vi], ?_, fun i hi2 => ?_⟩⟩
  · have h1 : Ar w' bk (mkC A (.int .i64 x) v1 v2 u) 27 := (hg.block bk (by omega) (hne bk hlt)).trans h.box
    have h2 := h1.set 257 v1'
    rw [(set_hi hA _ _ _ _ _).2.1] at h2
    exact h2
  · rw [List.length_append]
    refine own_keep ho fun g e => Below.heap_setCell _ ⟨bk, 257, none⟩ _ g (fun e2 => ?_)
    have := (own_at ho e).2.1
    have e2 : g = bk := e2
    omega
  · rw [List.length_append, List.length_singleton] at hi2
    rcases Nat.lt_or_ge i Ms.length with h' | h'
    · obtain ⟨vj, h1, h2⟩ := hvs i h'
      refine ⟨vj, ?_, ?_⟩
      · rw [List.getElem?_append_left (List.getElem?_eq_some_iff.1 h1).1]; exact h1
      · rw [List.getD_eq_getElem?_getD, List.getElem?_append_left h', ← List.getD_eq_getElem?_getD]; exact oi _ _ h2
    · obtain rfl : i = Ms.length := by omega
      have hvl : vs.length = Ms.length := by have := ho1.1; simpa using this
      refine ⟨vi, by rw [← hvl]; simp, ?_⟩
      rw [List.getD_eq_getElem?_getD, List.getElem?_append_right (Nat.le_refl _)]
      simpa using oi _ _ hi
theorem Rw.blow (h : Rw W wr bk B A x v1 v2 u Ms) {n : Nat} (hn : n ≤ bk) : Below n W wr := ⟨h.os, h.tape, h.output, h.size, fun k hk => h.fr k (by have := h.lt; omega) (by omega)⟩
theorem Rw.at (h : Rw W wr bk B A x v1 v2 u Ms) (hA : A.size = 256) : wr.cell? ⟨bk, 257, none⟩ = some v1 := (Ar.at' h.box 257).trans (mkC_hi hA _ _ _ _ 1)
theorem Rw.grown1 {w' : World} (h : Rw W wr bk B A x v1 v2 u Ms) (hA : A.size = 256) (hg : wr.grownBy w' v1.ownBlock) : (∃ y, w'.cell? ⟨bk, 257, none⟩ = some y) ∧ w'.frozen? ⟨bk, 257, none⟩ = false := by
  obtain ⟨vs, ho1, _⟩ := h.o1
  have h1 : Ar w' bk (mkC A (.int .i64 x) v1 v2 u) 27 := (hg.block bk (by have := h.lt; have := h.base; omega) fun e => by have := (own_at ho1 e.symm).2.1; have := h.lt; omega).trans h.box
  exact ⟨⟨_, (Ar.at' h1 257).trans (mkC_hi hA _ _ _ _ 1)⟩, Ar.frozen h1 257⟩
theorem Rw.alike {X Y : Nat → Prop} {w'' : World} (h : Rw W wr bk B A x v1 v2 u Ms) (hWB : W.heap.size ≤ B) (hXY : ∀ k, X k → Y k) (hbk : Y bk) (a : Alike X wr w'') : Alike Y W w'' :=
  ⟨a.os.trans h.os, a.tape.trans h.tape, a.output.trans h.output, Nat.le_trans h.size a.size, fun k h1 h2 => (a.block k (fun x => h1 (hXY k x)) (Nat.lt_of_lt_of_le h2 h.size)).trans (h.fr k (by omega) (fun e => h1 (e ▸ hbk)))⟩
theorem Rw.bx {Y : Nat → Prop} (h : Rw W wr bk B A x v1 v2 u Ms) (hWB : W.heap.size ≤ B) (hbk : Y bk) {b : Nat} {C : Array Value} {m : Mc} (hx : Ar W b C 27) (hb : b ≠ bk) (hm : Rx Y W C m) : Bx wr b C m :=
  ⟨(h.fr b (by have := hx.lt; omega) hb).trans hx, hm wr (h.alike (X := Y) hWB (fun _ h => h) hbk (Alike.refl _ _))⟩
/-- What is made is a machine, whatever becomes of X. -/
theorem Rw.rx {X Y : Nat → Prop} (h : Rw W wr bk B A x v1 v2 u Ms) {f : Nat → Nat} (hA : IsA A f) (hf : ∀ i, i < 256 → f i < 256) {C : Array Value} {m : Mc} (hm : Rx Y W C m) (hv2 : C[258]? = some v2) (hv3 : C[259]? = some u)
    (hWB : W.heap.size ≤ B) (hXY : ∀ k, X k → Y k) (hbk : Y bk) (hXB : ∀ k, X k → k < B) : Rx X wr (mkC A (.int .i64 x) v1 v2 u) ⟨f, x, Ms, m.lb, m.nm⟩ := fun w'' a => by
  have a2 := h.alike hWB hXY hbk a
  obtain ⟨v, e1, e2⟩ := (hm w'' a2).nm
  rw [hv3] at e1; cases e1
  obtain ⟨v, e1, e3⟩ := (hm w'' a2).lb
  rw [hv2] at e1; cases e1
  have ok : ∀ {b : Nat} {e : TypeId} {s : Nat} {v : Value} {n : Nat} {xs : List Value}, B ≤ b → wr.ownsRow b e s v n xs → w''.ownsRow b e s v n xs := fun hb ho => own_keep ho fun g hg => a.block g (fun x => by have := hXB g x; have := (own_at ho hg).2.1; omega) (own_at ho hg).2.2
  refine mkC_is (m := ⟨f, x, Ms, m.lb, m.nm⟩) hA hf ?_ e3 e2
  obtain ⟨vs, k1, k2⟩ := h.o1
  have hl : vs.length = Ms.length := by have := k1.1; simpa using this
  refine ⟨vs, VS.of_owns (ok (Nat.le_refl _) k1) fun a c e => ?_, hl, fun i hi => ?_⟩
  · rcases k1.2 with ⟨e2, _⟩ | ⟨g, cap, cur, e2, _, _, _, hc, _⟩
    · rw [e2] at e; simp only [Value.slice.injEq] at e; have := e.2.2; omega
    · rw [e2] at e; simp only [Value.slice.injEq] at e; rw [← e.2.2]; exact hc
  · obtain ⟨vi, h3, h4⟩ := k2 i hi
    exact ⟨vi, h3, OI.is (base := B) (ok (Nat.le_refl _) h4)⟩
end
/-- The beginning. -/
theorem Rw.first {W : World} {bk : Nat} {A : Array Value} {x : Int} {v2 u : Value} (h : Ar W bk (mkC A (.int .i64 x) nilS v2 u) 27) : Rw W W bk W.heap.size A x nilS v2 u [] :=
  ⟨rfl, rfl, rfl, Nat.le_refl _, h.lt, Nat.le_refl _, fun _ _ _ => rfl, h, ⟨[], World.ownsRow_nil _ _ _ _, fun i hi => by simp at hi⟩⟩
/-- A machine of its classes, their number, its labels and names. -/
theorem build6 {A : Array Value} (hA : A.size = 256) (x : Int) (a1 : Option Addr) (n1 c1 : Nat) (a3 : Option Addr) (n3 c3 : Nat) (w : World) :
    (Instr.build 27 #[(0, .agg A), (1, .int .i64 x), (3, .slice a1 n1 c1), (4, .slice a3 n3 c3)]).run Tryd.prog w = .ok (.agg (mkC A (.int .i64 x) nilS (.slice a1 n1 c1) (.slice a3 n3 c3))) w := by
  refine run_buildD _ _ ?_ w
  have hz := zA_is.size
  have hf := fill_of hz hA (.int .i64 0) nilS nilS nilS
  simp [Instr.fill, placesD, Value.cells, mkC_size hz, mkC_size hA, set_hi hA, hA]
  have hf' : Array.foldl (fun cs x => cs.setIfInBounds x.snd x.fst) (mkC zA (Value.int IntKind.i64 0) nilS nilS nilS) A.zipIdx 0 256 = mkC A (.int .i64 0) nilS nilS nilS := by
    simpa [hA] using hf
  rw [hf', mkC_size hA, (set_hi hA _ _ _ _ _).1, (set_hi hA _ _ _ _ _).2.2.1, (set_hi hA _ _ _ _ _).2.2.2]
  exact ⟨by omega, by omega, by omega, rfl⟩
section
variable {ops : Array Oper} {rest : List Oper} {op : Oper} {a : Act} {w : World} {Q : Exit → Act → World → Prop}
theorem wpList_build6 (hg : op.guard = none) (p0 p1 p3 p4 : Operand) (ho : op.op = .build 27 #[(0, p0), (1, p1), (3, p3), (4, p4)]) {A : Array Value} (hA : A.size = 256) {x : Int} {a1 a3 : Option Addr} {n1 c1 n3 c3 : Nat} (h0 : a.eval p0 = .agg A) (h1 : a.eval p1 = .int .i64 x) (h2 : a.eval p3 = .slice a1 n1 c1) (h4 : a.eval p4 = .slice a3 n3 c3)
    (hK : wpList Tryd.prog ops Q rest (a.put op.dst (.agg (mkC A (.int .i64 x) nilS (.slice a1 n1 c1) (.slice a3 n3 c3)))) w) : wpList Tryd.prog ops Q (op :: rest) a w :=
  wpList_plain hg fun _ hK' => by
    have e : (execOp a.eval op).run Tryd.prog w = .ok (.value (.agg (mkC A (.int .i64 x) nilS (.slice a1 n1 c1) (.slice a3 n3 c3)))) w := by
      unfold execOp
      simp only [ho, List.map_toArray, List.map_cons, List.map_nil, h0, h1, h2, h4, Sem.run_bind, build6 hA, Result.andThen_ok]
      rfl
    unfold Oper.wp
    rw [e]
    exact hK' _ _ hK
end
end Go.Proofs.YthefhkgjadfhgaaDoor.DfaW
