/- Machines in one state: as plain data, as values, in memory. -/
import Derived.Test.YtkghnjgioijgpaaEqArr
import Derived.Deep.MidRow
namespace Go.Proofs.Ytkghnjgioijgpaa.DfaW
set_option linter.unusedVariables false
open Go.RowKit Go.Maps Go.Proofs.Ytkghnjgioijgpaa.PartM Go.Proofs.Ytkghnjgioijgpaa.PartW
variable {P : Program}

/-- A slice whose elements, one cell each, all in blocks below B, are l. -/
def VS (B : Nat) (w : World) (v : Value) (l : List Value) : Prop :=
  ∃ a cap, v = .slice a l.length cap ∧ l.length ≤ cap ∧ cap ≤ maxLen ∧ ∀ i, i < l.length → ∃ b o : Nat, a = some ⟨b, o, none⟩ ∧ b < B ∧ w.cell? ⟨b, o + i, none⟩ = l[i]?
theorem VS.below {B : Nat} {w w' : World} {v : Value} {l : List Value} (h : VS B w v l) (hb : Below B w w') : VS B w' v l := by
  obtain ⟨a, cap, h1, h2, h3, h4⟩ := h
  exact ⟨a, cap, h1, h2, h3, fun i hi => by obtain ⟨b, o, h5, h6, h7⟩ := h4 i hi; exact ⟨b, o, h5, h6, by rw [hb.cell (p := ⟨b, o + i, none⟩) h6]; exact h7⟩⟩
theorem VS.up {B B' : Nat} {w : World} {v : Value} {l : List Value} (h : VS B w v l) (hb : B ≤ B') : VS B' w v l := by
  obtain ⟨a, cap, h1, h2, h3, h4⟩ := h
  exact ⟨a, cap, h1, h2, h3, fun i hi => by obtain ⟨b, o, h5, h6, h7⟩ := h4 i hi; exact ⟨b, o, h5, Nat.lt_of_lt_of_le h6 hb, h7⟩⟩
theorem VS.nil (B : Nat) (w : World) (a : Option Addr) : VS B w (.slice a 0 0) [] := ⟨a, 0, rfl, Nat.le_refl _, Nat.zero_le _, fun i hi => by simp at hi⟩
/-- Integers, texts, rows. -/
def IS (B : Nat) (w : World) (v : Value) (l : List Int) : Prop := VS B w v (l.map (Value.int .i64))
def TS (B : Nat) (w : World) (v : Value) (l : List ByteArray) : Prop := VS B w v (l.map Value.string) ∧ ∀ i, i < l.length → (l.getD i ByteArray.empty).size ≤ 9223372036854775807
def RS (B : Nat) (w : World) (v : Value) (ll : List (List Int)) : Prop := ∃ vs : List Value, VS B w v vs ∧ vs.length = ll.length ∧ ∀ i, i < ll.length → ∃ vi, vs[i]? = some vi ∧ IS B w vi (ll.getD i [])
theorem IS.below {B : Nat} {w w' : World} {v : Value} {l : List Int} (h : IS B w v l) (hb : Below B w w') : IS B w' v l := VS.below h hb
theorem IS.up {B B' : Nat} {w : World} {v : Value} {l : List Int} (h : IS B w v l) (hb : B ≤ B') : IS B' w v l := VS.up h hb
theorem TS.below {B : Nat} {w w' : World} {v : Value} {l : List ByteArray} (h : TS B w v l) (hb : Below B w w') : TS B w' v l := ⟨h.1.below hb, h.2⟩
theorem TS.up {B B' : Nat} {w : World} {v : Value} {l : List ByteArray} (h : TS B w v l) (hb : B ≤ B') : TS B' w v l := ⟨h.1.up hb, h.2⟩
theorem RS.below {B : Nat} {w w' : World} {v : Value} {l : List (List Int)} (h : RS B w v l) (hb : Below B w w') : RS B w' v l := by
  obtain ⟨vs, h1, h2, h3⟩ := h
  exact ⟨vs, h1.below hb, h2, fun i hi => by obtain ⟨vi, h4, h5⟩ := h3 i hi; exact ⟨vi, h4, h5.below hb⟩⟩
theorem RS.up {B B' : Nat} {w : World} {v : Value} {l : List (List Int)} (h : RS B w v l) (hb : B ≤ B') : RS B' w v l := by
  obtain ⟨vs, h1, h2, h3⟩ := h
  exact ⟨vs, h1.up hb, h2, fun i hi => by obtain ⟨vi, h4, h5⟩ := h3 i hi; exact ⟨vi, h4, h5.up hb⟩⟩
theorem IS.open {B : Nat} {w : World} {v : Value} {l : List Int} (h : IS B w v l) : ∃ a cap, v = .slice a l.length cap ∧ l.length ≤ cap ∧ cap ≤ maxLen ∧
    ∀ i, i < l.length → ∃ b o : Nat, a = some ⟨b, o, none⟩ ∧ b < B ∧ w.cell? ⟨b, o + i, none⟩ = some (.int .i64 (l.getD i 0)) := by
  obtain ⟨a, cap, h1, h2, h3, h4⟩ := h
  simp only [List.length_map] at h1 h2 h4
  exact ⟨a, cap, h1, h2, h3, fun i hi => by obtain ⟨b, o, h5, h6, h7⟩ := h4 i hi; exact ⟨b, o, h5, h6, by rw [h7]; simp [List.getD, hi]⟩⟩
theorem TS.open {B : Nat} {w : World} {v : Value} {l : List ByteArray} (h : TS B w v l) : ∃ a cap, v = .slice a l.length cap ∧ l.length ≤ cap ∧ cap ≤ maxLen ∧
    ∀ i, i < l.length → ∃ b o : Nat, a = some ⟨b, o, none⟩ ∧ b < B ∧ w.cell? ⟨b, o + i, none⟩ = some (.string (l.getD i ByteArray.empty)) := by
  obtain ⟨a, cap, h1, h2, h3, h4⟩ := h.1
  simp only [List.length_map] at h1 h2 h4
  exact ⟨a, cap, h1, h2, h3, fun i hi => by obtain ⟨b, o, h5, h6, h7⟩ := h4 i hi; exact ⟨b, o, h5, h6, by rw [h7]; simp [List.getD, hi]⟩⟩
theorem RS.open {B : Nat} {w : World} {v : Value} {l : List (List Int)} (h : RS B w v l) : ∃ a cap, v = .slice a l.length cap ∧ l.length ≤ cap ∧ cap ≤ maxLen ∧
    ∀ i, i < l.length → ∃ (b o : Nat) (vi : Value), a = some ⟨b, o, none⟩ ∧ b < B ∧ w.cell? ⟨b, o + i, none⟩ = some vi ∧ IS B w vi (l.getD i []) := by
  obtain ⟨vs, ⟨a, cap, h1, h2, h3, h4⟩, h5, h6⟩ := h
  rw [h5] at h1 h2 h4
  exact ⟨a, cap, h1, h2, h3, fun i hi => by obtain ⟨b, o, h7, h8, h9⟩ := h4 i hi; obtain ⟨vi, h10, h11⟩ := h6 i hi; exact ⟨b, o, vi, h7, h8, by rw [h9, h10], h11⟩⟩
/-- What the call owns. -/
theorem VS.of_owns {w : World} {base : Nat} {e : TypeId} {v : Value} {n : Nat} {l : List Value} (h : w.ownsRow base e 1 v n l) (hm : ∀ a c, v = .slice a n c → c ≤ maxLen) : VS w.heap.size w v l := by
  have hl : l.length = n := by have := h.1; simpa using this
  rcases h.2 with ⟨h1, h2⟩ | ⟨g, cap, cur, rfl, hg, hh, hn, hc, hs, hx⟩
  · rw [h2] at hl
    obtain rfl := List.length_eq_zero_iff.1 hl
    rw [h1]
    exact VS.nil _ _ _
  · refine ⟨_, cap, by rw [hl], by omega, hm _ _ rfl, fun i hi => ⟨g, 0, rfl, (Array.getElem?_eq_some_iff.1 hh).1, ?_⟩⟩
    have h' := h
    rw [Nat.zero_add, World.ownsRow.cellAt h' i (by omega)]

/-- A machine, as plain data. -/
structure Mc where
  of : Nat → Nat
  wd : Int
  nx : List (List Int)
  lb : List Int
  nm : List ByteArray
/-- C's cells are those of the machine m, which reads below B. -/
structure IsM (B : Nat) (w : World) (C : Array Value) (m : Mc) : Prop where
  size : C.size = 260
  of' : ∀ i, i < 256 → C[i]? = some (.int .u8 (m.of i : Int))
  oflt : ∀ i, i < 256 → m.of i < 256
  wd : C[256]? = some (.int .i64 m.wd)
  nx : ∃ v, C[257]? = some v ∧ RS B w v m.nx
  lb : ∃ v, C[258]? = some v ∧ IS B w v m.lb
  nm : ∃ v, C[259]? = some v ∧ TS B w v m.nm
theorem IsM.below {B : Nat} {w w' : World} {C : Array Value} {m : Mc} (h : IsM B w C m) (hb : Below B w w') : IsM B w' C m :=
  ⟨h.size, h.of', h.oflt, h.wd, (by obtain ⟨v, h1, h2⟩ := h.nx; exact ⟨v, h1, h2.below hb⟩), (by obtain ⟨v, h1, h2⟩ := h.lb; exact ⟨v, h1, h2.below hb⟩), (by obtain ⟨v, h1, h2⟩ := h.nm; exact ⟨v, h1, h2.below hb⟩)⟩
theorem IsM.up {B B' : Nat} {w : World} {C : Array Value} {m : Mc} (h : IsM B w C m) (hb : B ≤ B') : IsM B' w C m :=
  ⟨h.size, h.of', h.oflt, h.wd, (by obtain ⟨v, h1, h2⟩ := h.nx; exact ⟨v, h1, h2.up hb⟩), (by obtain ⟨v, h1, h2⟩ := h.lb; exact ⟨v, h1, h2.up hb⟩), (by obtain ⟨v, h1, h2⟩ := h.nm; exact ⟨v, h1, h2.up hb⟩)⟩
/-- The same at a later world, all of which may be spoken of. -/
theorem IsM.next {w w' : World} {C : Array Value} {m : Mc} (h : IsM w.heap.size w C m) (hb : Below w.heap.size w w') : IsM w'.heap.size w' C m := (h.below hb).up hb.size
/-- The classes' cells. -/
def ofC (C : Array Value) : Array Value := (C.toList.take 256).toArray
theorem IsM.isA {B : Nat} {w : World} {C : Array Value} {m : Mc} (h : IsM B w C m) : IsA (ofC C) m.of := by
  refine ⟨?_, fun i hi => ?_⟩
  · simp [ofC, h.size]
  · have h1 := h.of' i hi
    have h2 : i < C.size := by rw [h.size]; omega
    simp only [ofC, List.getElem?_toArray, List.getElem?_take, hi, if_true]
    rw [Array.getElem?_toList]
    exact h1
theorem IsM.range {B b : Nat} {w w' : World} {C : Array Value} {m : Mc} {t : TypeId} (h : IsM B w C m) (hb : Ar w' b C t) : w'.rangeAt b 0 (C.toList.take 256) := fun j v hj => by
  rw [Nat.zero_add, cell_of_row w' b j C t (0, 0) hb]
  by_cases hj2 : j < 256
  · rw [List.getElem?_take, if_pos hj2, Array.getElem?_toList] at hj
    exact hj
  · rw [List.getElem?_take, if_neg hj2] at hj; cases hj
theorem Ar.at' {w : World} {b : Nat} {C : Array Value} {t : TypeId} (h : Ar w b C t) (i : Nat) : w.cell? ⟨b, i, none⟩ = C[i]? := cell_of_row w b i C t (0, 0) h

section
variable {ops : Array Oper} {rest : List Oper} {op : Oper} {a : Act} {w : World} {Q : Exit → Act → World → Prop} {K : Act → World → Prop}
/-- A whole box is loaded. -/
theorem run_load_box (ty : TypeId) (x : Operand) (ho : op.op = .load ty x) {B : Nat} (hx : a.eval x = .pointer (some ⟨B, 0, none⟩)) {C : Array Value} {t : TypeId} (h : Ar w B C t) {d : TypeDesc}
    (hu : P.underlying ty = some d) (hd : (match d with | .struct _ | .array _ _ => true | _ => false) = true) (hi : (P.info? ty).map (·.size) = some C.size) : (execOp a.eval op).run P w = .ok (.value (.agg C)) w := by
  unfold execOp
  simp only [ho, hx, Instr.loadAt, Instr.sureAddr, Sem.run_bind, Sem.run_pure, Result.andThen_ok, run_loadVar_row w B t ty C (0, 0) d h hu hd hi]
theorem wpList_load_box (hg : op.guard = none) (ty : TypeId) (x : Operand) (ho : op.op = .load ty x) {B : Nat} (hx : a.eval x = .pointer (some ⟨B, 0, none⟩)) {C : Array Value} {t : TypeId} (h : Ar w B C t) {d : TypeDesc}
    (hu : P.underlying ty = some d) (hd : (match d with | .struct _ | .array _ _ => true | _ => false) = true) (hi : (P.info? ty).map (·.size) = some C.size) (hK : wpList P ops Q rest (a.put op.dst (.agg C)) w) : wpList P ops Q (op :: rest) a w :=
  wpList_plain hg fun _ hK' => by
    unfold Oper.wp
    rw [run_load_box ty x ho hx h hu hd hi]
    exact hK' _ _ hK
theorem wpList_load_box_g (hw : Region.wanted op (yielded ops a.tmps) = true) (ty : TypeId) (x : Operand) (ho : op.op = .load ty x) {B : Nat} (hx : a.eval x = .pointer (some ⟨B, 0, none⟩)) {C : Array Value} {t : TypeId} (h : Ar w B C t) {d : TypeDesc}
    (hu : P.underlying ty = some d) (hd : (match d with | .struct _ | .array _ _ => true | _ => false) = true) (hi : (P.info? ty).map (·.size) = some C.size) (hK : wpList P ops Q rest (a.put op.dst (.agg C)) w) : wpList P ops Q (op :: rest) a w :=
  wpList_step fun _ hK' => by
    rw [if_pos hw]
    unfold Oper.wp
    rw [run_load_box ty x ho hx h hu hd hi]
    exact hK' _ _ hK
end
theorem infoD : (Try.prog.info? 27).map (·.size) = some 260 := by kernel_rfl
end Go.Proofs.Ytkghnjgioijgpaa.DfaW
