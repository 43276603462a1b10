/- A machine that is being made, state by state: what lies beside it; a row, a label more. -/
import Derived.Test.YtfhddbjojpmbcaaMade
import Derived.Maps.AppendAt
namespace Go.Proofs.Ytfhddbjojpmbcaa.DfaW
set_option linter.unusedVariables false
open Go.RowKit Go.Maps Go.Proofs.Ytfhddbjojpmbcaa.PartM Go.Proofs.Ytfhddbjojpmbcaa.PartW
section
variable {W wr : World} {bk B : Nat} {A : Array Value} {x : Int} {v1 v2 u : Value} {Ms : List (List Int)} {ls : List Int}
theorem Kept.alike {X Y : Nat → Prop} {w'' : World} (h : Kept W wr bk B A x v1 v2 u Ms ls) (hWB : W.heap.size ≤ B) (hXY : ∀ k, X k → Y k) (hbk : Y bk) (a : Alike X wr w'') : Alike Y W w'' :=
  ⟨a.os.trans h.os, a.tape.trans h.tape, a.output.trans h.output, Nat.le_trans h.size a.size, fun k h1 h2 => (a.block k (fun x => h1 (hXY k x)) (Nat.lt_of_lt_of_le h2 h.size)).trans (h.fr k (by omega) (fun e => h1 (e ▸ hbk)))⟩
theorem Kept.bx {Y : Nat → Prop} (h : Kept W wr bk B A x v1 v2 u Ms ls) (hWB : W.heap.size ≤ B) (hbk : Y bk) {b : Nat} {C : Array Value} {m : Mc} (hx : Ar W b C 27) (hb : b ≠ bk) (hm : Rx Y W C m) : Bx wr b C m :=
  ⟨(h.fr b (by have := hx.lt; omega) hb).trans hx, hm wr (h.alike (X := Y) hWB (fun _ h => h) hbk (Alike.refl _ _))⟩
/-- What is made is a machine, whatever becomes of X. -/
theorem Kept.rx {X Y : Nat → Prop} (h : Kept W wr bk B A x v1 v2 u Ms ls) {f : Nat → Nat} (hA : IsA A f) (hf : ∀ i, i < 256 → f i < 256) {C : Array Value} {m : Mc} (hm : Rx Y W C m) (hv3 : C[259]? = some u)
    (hWB : W.heap.size ≤ B) (hXY : ∀ k, X k → Y k) (hbk : Y bk) (hXB : ∀ k, X k → k < B) : Rx X wr (mkC A (.int .i64 x) v1 v2 u) ⟨f, x, Ms, ls, m.nm⟩ := fun w'' a => by
  have a2 := h.alike hWB hXY hbk a
  obtain ⟨v, e1, e2⟩ := (hm w'' a2).nm
  rw [hv3] at e1; cases e1
  have ok : ∀ {b : Nat} {e : TypeId} {s : Nat} {v : Value} {n : Nat} {xs : List Value}, B ≤ b → wr.ownsRow b e s v n xs → w''.ownsRow b e s v n xs := fun hb ho => own_keep ho fun g hg => a.block g (fun x => by have := hXB g x; have := (own_at ho hg).2.1; omega) (own_at ho hg).2.2
  refine mkC_is (m := ⟨f, x, Ms, ls, m.nm⟩) hA hf ?_ (OI.is (base := B) (ok (Nat.le_refl _) h.o2)) e2
  obtain ⟨vs, k1, k2⟩ := h.o1
  have hl : vs.length = Ms.length := by have := k1.1; simpa using this
  refine ⟨vs, VS.of_owns (ok (Nat.le_refl _) k1) fun a c e => ?_, hl, fun i hi => ?_⟩
  · rcases k1.2 with ⟨e2, _⟩ | ⟨g, cap, cur, e2, _, _, _, hc, _⟩
    · rw [e2] at e; simp only [Value.slice.injEq] at e; have := e.2.2; omega
    · rw [e2] at e; simp only [Value.slice.injEq] at e; rw [← e.2.2]; exact hc
  · obtain ⟨vi, h3, h4, _⟩ := k2 i hi
    exact ⟨vi, h3, OI.is (base := B) (ok (Nat.le_refl _) h4)⟩
end
theorem infoR : (Try.prog.info? 24).map (fun i => (i.zero, i.size, i.bytes)) = some (some (.slice none 0 0), 1, 24) := by kernel_rfl
section
variable {ops : Array Oper} {rest : List Oper} {o : Oper} {a : Act} {w : World} {Q : Exit → Act → World → Prop}
/-- One number more; what grew, and where it lies, is told. -/
theorem wpList_append_int_at (hgd : o.guard = none) (s x : Operand) (ho : o.op = .call { callee := .builtin .append, args := #[s, x], argTypes := #[24, 24] })
    {base : Nat} {v : Value} {l : List Int} (hs : a.eval s = v) (hown : OI w base v l) (hbase : base ≤ w.heap.size) (ad : Addr) (c : Nat) (y : Int) (hx : a.eval x = .slice (some ad) 1 c) (hc : w.cell? ad = some (.int .i64 y)) (hsp : ad.add 0 = ad)
    (hbytes : l.length + 1 ≤ 17592186044416)
    (hK : ∀ v' w', OI w' base v' (l ++ [y]) → w.grownBy w' v.ownBlock → (v'.ownBlock = v.ownBlock ∨ v'.ownBlock = some w.heap.size) → wpList Try.prog ops Q rest (a.put o.dst v') w') : wpList Try.prog ops Q (o :: rest) a w := by
  obtain ⟨i0, hi, hz0, hz1, hz2⟩ := info_parts info3
  refine wpList_append_own_at w hgd s x 24 ho base 3 i0 (.int .i64 0) 1 8 Try.underlying24 hi hz0 hz1 hz2 rfl (by decide) v _ _ hs hown ad 1 c [.int .i64 y] hx rfl (fun j u hj => ?_) (fun u hu => ?_) (by unfold maxLen; omega) (by omega) hbase fun v' w' h1 h2 _ h4 => hK v' w' ?_ h2 h4
  · cases j with
    | zero => simp at hj; subst hj; rw [hsp]; exact hc
    | succ j => simp at hj
  · rw [List.mem_singleton] at hu; subst hu; rfl
  · show w'.ownsRow base 3 1 v' (l ++ [y]).length ((l ++ [y]).map (Value.int .i64))
    rw [List.length_append, List.map_append]; exact h1
/-- One row more. -/
theorem wpList_append_row (hgd : o.guard = none) (s x : Operand) (ho : o.op = .call { callee := .builtin .append, args := #[s, x], argTypes := #[23, 23] })
    {base n : Nat} {v : Value} {vs : List Value} (hs : a.eval s = v) (hown : w.ownsRow base 24 1 v n vs) (hbase : base ≤ w.heap.size) (ad : Addr) (c : Nat) {b0 : Option Addr} {n0 c0 : Nat} (hx : a.eval x = .slice (some ad) 1 c) (hc : w.cell? ad = some (.slice b0 n0 c0)) (hsp : ad.add 0 = ad)
    (hbytes : n + 1 ≤ 4398046511104)
    (hK : ∀ v' w', w'.ownsRow base 24 1 v' (n + 1) (vs ++ [.slice b0 n0 c0]) → w.grownBy w' v.ownBlock → wpList Try.prog ops Q rest (a.put o.dst v') w') : wpList Try.prog ops Q (o :: rest) a w := by
  obtain ⟨i0, hi, hz0, hz1, hz2⟩ := info_parts infoR
  refine wpList_append_own _ hgd s x 23 ho base 24 i0 (.slice none 0 0) 1 24 Try.underlying23 hi hz0 hz1 hz2 rfl (by decide) v _ _ hs hown ad 1 c [.slice b0 n0 c0] hx rfl (fun j u hj => ?_) (fun u hu => ?_) (by unfold maxLen; omega) (by omega) hbase fun v' w' h1 h2 _ => hK v' w' h1 h2
  · cases j with
    | zero => simp at hj; subst hj; rw [hsp]; exact hc
    | succ j => simp at hj
  · rw [List.mem_singleton] at hu; subst hu; rfl
end
theorem RS.cell {B : Nat} {w : World} {a : Option Addr} {n c : Nat} {ll : List (List Int)} (h : RS B w (.slice a n c) ll) {i : Nat} (hi : i < ll.length) : ∃ (b o : Nat) (vi : Value), a = some ⟨b, o, none⟩ ∧ b < B ∧ w.cell? ⟨b, o + i, none⟩ = some vi ∧ IS B w vi (ll.getD i []) := by
  obtain ⟨a', cap, he, _, _, g⟩ := h.open
  simp only [Value.slice.injEq] at he
  obtain ⟨rfl, _, _⟩ := he
  exact g i hi
end Go.Proofs.Ytfhddbjojpmbcaa.DfaW
