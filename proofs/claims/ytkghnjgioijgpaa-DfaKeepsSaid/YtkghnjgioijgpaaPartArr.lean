/- Arrays of 256 small numbers: as values, in memory, held against each other. -/
import Derived.Test.YtkghnjgioijgpaaBase
import Derived.Test.YtkghnjgioijgpaaPartMath
import Derived.Deep.MidRow
import Derived.Deep.WholeRow
import Derived.Laws.ResultCell
import Derived.Maps.OwnSet
import Derived.Maps.OwnIn
namespace Go.Proofs.Ytkghnjgioijgpaa.PartW
set_option linter.unusedVariables false
open Go.RowKit Go.Maps Go.Proofs.Ytkghnjgioijgpaa.PartM
variable {P : Program}

/-- C's cells are 256 numbers of f. -/
structure IsA (C : Array Value) (f : Nat → Nat) : Prop where
  size : C.size = 256
  at' : ∀ i, i < 256 → C[i]? = some (.int .u8 (f i : Int))
theorem IsA.ext {C D : Array Value} {f g : Nat → Nat} (h : IsA C f) (k : IsA D g) (e : ∀ i, i < 256 → f i = g i) : C = D := by
  apply Array.ext_getElem?
  intro i
  by_cases hi : i < 256
  · rw [h.at' i hi, k.at' i hi, e i hi]
  · rw [Array.getElem?_eq_none (by rw [h.size]; omega), Array.getElem?_eq_none (by rw [k.size]; omega)]
theorem IsA.congr {C : Array Value} {f g : Nat → Nat} (h : IsA C f) (e : ∀ i, i < 256 → f i = g i) : IsA C g := ⟨h.size, fun i hi => by rw [h.at' i hi, e i hi]⟩
theorem IsA.one {C : Array Value} {f : Nat → Nat} (h : IsA C f) : C.all (·.oneCell') = true := by
  rw [Array.all_eq_true]
  intro i hi
  have := h.at' i (by rw [← h.size]; exact hi)
  rw [Array.getElem?_eq_getElem hi] at this
  injection this with this
  rw [this]; rfl
theorem IsA.set {C : Array Value} {f : Nat → Nat} (h : IsA C f) (k v : Nat) : IsA (C.setIfInBounds k (.int .u8 (v : Int))) (fun i => if i = k then v else f i) := by
  refine ⟨by rw [Array.size_setIfInBounds]; exact h.size, fun i hi => ?_⟩
  rw [Array.getElem?_setIfInBounds]
  by_cases e : k = i
  · subst e; simp [h.size, hi]
  · have e' : ¬ i = k := fun x => e x.symm
    simp [e, e', h.at' i hi]
theorem IsA.fn (f : Nat → Nat) : IsA (Array.ofFn (n := 256) fun i => Value.int .u8 (f i.1 : Int)) f := by
  refine ⟨by simp, fun i hi => ?_⟩
  rw [Array.getElem?_ofFn]; simp [hi]

/-- An array lies in block B. -/
abbrev Ar (w : World) (B : Nat) (C : Array Value) (t : TypeId) : Prop := w.heap[B]? = some (.cells C t (0, 0))
theorem Ar.lt {w : World} {B : Nat} {C : Array Value} {t : TypeId} (h : Ar w B C t) : B < w.heap.size := (Array.getElem?_eq_some_iff.1 h).1
theorem Ar.below {w w' : World} {B : Nat} {C : Array Value} {t : TypeId} (h : Ar w B C t) (hb : Below w.heap.size w w') : Ar w' B C t := (hb.block B h.lt).trans h
theorem Ar.new (w : World) (C : Array Value) (t : TypeId) : Ar (w.alloc (.cells C t)) w.heap.size C t := Array.getElem?_push_size
theorem Ar.alloc {w : World} {B : Nat} {C : Array Value} {t : TypeId} (h : Ar w B C t) (o : Obj) : Ar (w.alloc o) B C t := h.below ((Below.refl _ _).alloc (Nat.le_refl _) _)
theorem Ar.drew {w : World} {B : Nat} {C : Array Value} {t : TypeId} (h : Ar w B C t) : Ar w.drew B C t := h
theorem Ar.cell {w : World} {B : Nat} {C : Array Value} {t : TypeId} {f : Nat → Nat} (h : Ar w B C t) (hC : IsA C f) {i : Nat} (hi : i < 256) : w.cell? ⟨B, i, none⟩ = some (.int .u8 (f i : Int)) := by
  rw [cell_of_row w B i C t (0, 0) h]; exact hC.at' i hi
theorem Ar.frozen {w : World} {B : Nat} {C : Array Value} {t : TypeId} (h : Ar w B C t) (i : Nat) : w.frozen? ⟨B, i, none⟩ = false := by simp [World.frozen?, h]
theorem Ar.load {w : World} {B : Nat} {C : Array Value} {t : TypeId} (h : Ar w B C t) (hs : C.size = 256) : (loadCellsFrom ⟨B, 0, none⟩ 0 256 #[]).run P w = .ok C w := by
  have := run_loadCells_list (P := P) w ⟨B, 0, none⟩ C.toList (fun j v hv => by
    rw [Addr.add_mid, cell_of_row w B (0 + j) C t (0, 0) h, Nat.zero_add]
    simpa using hv)
  rw [Array.length_toList, hs] at this
  simpa [loadCells] using this
theorem Ar.set {w : World} {B : Nat} {C : Array Value} {t : TypeId} (h : Ar w B C t) (k : Nat) (v : Value) : Ar (w.setCell ⟨B, k, none⟩ v) B (C.setIfInBounds k v) t := by
  have hB := h.lt
  show (w.heap.modify B _)[B]? = _
  rw [Array.getElem?_modify]
  simp [h]
theorem Ar.other {w : World} {B : Nat} {C : Array Value} {t : TypeId} (h : Ar w B C t) {A : Addr} (hne : A.block ≠ B) (v : Value) : Ar (w.setCell A v) B C t := by
  show (w.heap.modify A.block _)[B]? = _
  rw [Array.getElem?_modify, if_neg (by simpa using hne)]; exact h
theorem Ar.store {w : World} {B : Nat} {C : Array Value} {t ty : TypeId} (h : Ar w B C t) (hs : C.size = 256) {D : Array Value} {f : Nat → Nat} (hD : IsA D f) (hi : (P.info? ty).map (·.size) = some 256) :
    (storeCells ⟨B, 0, none⟩ D.toList 0).run P w = .ok () (w.setRow B D) := by
  have := run_storeVar_row (P := P) w B t ty C D h (by rw [hD.size]; exact hi) (by rw [hs, hD.size]) hD.one
  cases hq : P.info? ty with
  | none => simp [hq] at hi
  | some i =>
    have hs : D.size = i.size := by rw [hD.size]; simpa [hq] using hi.symm
    simpa [storeVar, sizeOf, typeInfo, hq, Value.cells, hs] using this
theorem Ar.row {w : World} {B : Nat} {C : Array Value} {t : TypeId} (h : Ar w B C t) (D : Array Value) : Ar (w.setRow B D) B D t := by
  show (w.heap.modify B _)[B]? = _
  rw [Array.getElem?_modify]
  simp [h]
theorem heap_row (w : World) (B : Nat) (D : Array Value) {k : Nat} (hk : k ≠ B) : (w.setRow B D).heap[k]? = w.heap[k]? := by
  show (w.heap.modify B _)[k]? = _
  rw [Array.getElem?_modify, if_neg (fun e => hk e.symm)]
theorem size_row (w : World) (B : Nat) (D : Array Value) : (w.setRow B D).heap.size = w.heap.size := by
  show (w.heap.modify B _).size = _
  simp
theorem below_row {n : Nat} {w W : World} {B : Nat} (hb : Below n w W) (h : n ≤ B) (D : Array Value) : Below n w (W.setRow B D) :=
  hb.trans ⟨rfl, rfl, rfl, by rw [size_row]; exact Nat.le_refl _, fun k hk => heap_row _ _ _ (by omega)⟩

theorem Ar.loadVar {w : World} {B : Nat} {C : Array Value} {t ty : TypeId} {n : Nat} {e : TypeId} (h : Ar w B C t) (hs : C.size = 256) (hu : P.underlying ty = some (.array n e)) (hi : (P.info? ty).map (·.size) = some 256) :
    (loadVar ty ⟨B, 0, none⟩).run P w = .ok (.agg C) w := run_loadVar_row w B t ty C (0, 0) _ h hu rfl (by rw [hs]; exact hi)
section
variable {ops : Array Oper} {rest : List Oper} {op : Oper} {a : Act} {w : World} {Q : Exit → Act → World → Prop} {K : Act → World → Prop}
theorem run_load_arr (ty : TypeId) (x : Operand) (ho : op.op = .load ty x) {B : Nat} (hx : a.eval x = .pointer (some ⟨B, 0, none⟩)) {C : Array Value} {t : TypeId} {n : Nat} {e : TypeId} (h : Ar w B C t) (hs : C.size = 256)
    (hu : P.underlying ty = some (.array n e)) (hi : (P.info? ty).map (·.size) = some 256) : (execOp a.eval op).run P w = .ok (.value (.agg C)) w := by
  unfold execOp
  simp only [ho, hx, Instr.loadAt, Instr.sureAddr, Sem.run_bind, Sem.run_pure, Result.andThen_ok, h.loadVar hs hu hi]
theorem run_store_arr (ty : TypeId) (x y : Operand) (ho : op.op = .store ty x y) {B : Nat} (hx : a.eval x = .pointer (some ⟨B, 0, none⟩)) {C D : Array Value} (hy : a.eval y = .agg D) {t : TypeId} {f : Nat → Nat} (h : Ar w B C t) (hs : C.size = 256)
    (hD : IsA D f) (hi : (P.info? ty).map (·.size) = some 256) : (execOp a.eval op).run P w = .ok .skip (w.setRow B D) := by
  unfold execOp
  simp only [ho, hx, hy, Instr.storeAt, Instr.sureAddr, Sem.run_bind, Sem.run_pure, Result.andThen_ok, run_storeVar_row (P := P) w B t ty C D h (by rw [hD.size]; exact hi) (by rw [hs, hD.size]) hD.one]
theorem wp_load_arr (ty : TypeId) (x : Operand) (ho : op.op = .load ty x) {B : Nat} (hx : a.eval x = .pointer (some ⟨B, 0, none⟩)) {C : Array Value} {t : TypeId} {n : Nat} {e : TypeId} (h : Ar w B C t) (hs : C.size = 256)
    (hu : P.underlying ty = some (.array n e)) (hi : (P.info? ty).map (·.size) = some 256) (hK : K (a.put op.dst (.agg C)) w) : op.wp P a w K Q := by
  unfold Oper.wp execOp
  simp only [ho, hx, Instr.loadAt, Instr.sureAddr, Sem.run_bind, Sem.run_pure, Result.andThen_ok, h.loadVar hs hu hi]
  exact hK
theorem wpList_load_arr (hg : op.guard = none) (ty : TypeId) (x : Operand) (ho : op.op = .load ty x) {B : Nat} (hx : a.eval x = .pointer (some ⟨B, 0, none⟩)) {C : Array Value} {t : TypeId} {n : Nat} {e : TypeId} (h : Ar w B C t) (hs : C.size = 256)
    (hu : P.underlying ty = some (.array n e)) (hi : (P.info? ty).map (·.size) = some 256) (hK : wpList P ops Q rest (a.put op.dst (.agg C)) w) : wpList P ops Q (op :: rest) a w :=
  wpList_plain hg fun _ hK' => wp_load_arr ty x ho hx h hs hu hi (hK' _ _ hK)
theorem wpList_load_arr_g (hw : Region.wanted op (yielded ops a.tmps) = true) (ty : TypeId) (x : Operand) (ho : op.op = .load ty x) {B : Nat} (hx : a.eval x = .pointer (some ⟨B, 0, none⟩)) {C : Array Value} {t : TypeId} {n : Nat} {e : TypeId} (h : Ar w B C t) (hs : C.size = 256)
    (hu : P.underlying ty = some (.array n e)) (hi : (P.info? ty).map (·.size) = some 256) (hK : wpList P ops Q rest (a.put op.dst (.agg C)) w) : wpList P ops Q (op :: rest) a w :=
  wpList_step fun _ hK' => by rw [if_pos hw]; exact wp_load_arr ty x ho hx h hs hu hi (hK' _ _ hK)
theorem wp_store_arr (ty : TypeId) (x y : Operand) (ho : op.op = .store ty x y) {B : Nat} (hx : a.eval x = .pointer (some ⟨B, 0, none⟩)) {C D : Array Value} (hy : a.eval y = .agg D) {t : TypeId} {f : Nat → Nat} (h : Ar w B C t) (hs : C.size = 256)
    (hD : IsA D f) (hi : (P.info? ty).map (·.size) = some 256) (hK : K (a.put op.dst undef) (w.setRow B D)) : op.wp P a w K Q := by
  unfold Oper.wp execOp
  simp only [ho, hx, hy, Instr.storeAt, Instr.sureAddr, Sem.run_bind, Sem.run_pure, Result.andThen_ok, run_storeVar_row (P := P) w B t ty C D h (by rw [hD.size]; exact hi) (by rw [hs, hD.size]) hD.one]
  exact hK
theorem wpList_store_gen (hg : op.guard = none) (ty : TypeId) (x y : Operand) (ho : op.op = .store ty x y) {B : Nat} (hx : a.eval x = .pointer (some ⟨B, 0, none⟩)) {C D : Array Value} (hy : a.eval y = .agg D) {t : TypeId} (h : Ar w B C t) (hs : C.size = 256)
    (hd : D.size = 256) (h1 : D.all (·.oneCell') = true) (hi : (P.info? ty).map (·.size) = some 256) (hK : wpList P ops Q rest (a.put op.dst undef) (w.setRow B D)) : wpList P ops Q (op :: rest) a w :=
  wpList_plain hg fun _ hK' => by
    unfold Oper.wp execOp
    simp only [ho, hx, hy, Instr.storeAt, Instr.sureAddr, Sem.run_bind, Sem.run_pure, Result.andThen_ok, run_storeVar_row (P := P) w B t ty C D h (by rw [hd]; exact hi) (by rw [hs, hd]) h1]
    exact hK' _ _ hK
theorem wpList_store_arr (hg : op.guard = none) (ty : TypeId) (x y : Operand) (ho : op.op = .store ty x y) {B : Nat} (hx : a.eval x = .pointer (some ⟨B, 0, none⟩)) {C D : Array Value} (hy : a.eval y = .agg D) {t : TypeId} {f : Nat → Nat} (h : Ar w B C t) (hs : C.size = 256)
    (hD : IsA D f) (hi : (P.info? ty).map (·.size) = some 256) (hK : wpList P ops Q rest (a.put op.dst undef) (w.setRow B D)) : wpList P ops Q (op :: rest) a w :=
  wpList_plain hg fun _ hK' => wp_store_arr ty x y ho hx hy h hs hD hi (hK' _ _ hK)
end

theorem infoA : (Try.prog.info? 22).map (·.size) = some 256 := by kernel_rfl
theorem zeroA_info : (Try.prog.info? 22).map (fun i => (i.zero, i.size)) = some (some (.agg (Array.replicate 256 (.int .u8 0))), 256) := by kernel_rfl
theorem zeroA : ∃ Z, IsA Z (fun _ => 0) ∧ ∀ w, (zeroValue 22).run Try.prog w = .ok (.agg Z) w :=
  ⟨_, ⟨by simp, fun i hi => by rw [Array.getElem?_replicate]; simp [hi]⟩, (zero_of_info zeroA_info).1⟩
theorem hmf (fn : Fn) (first cap : Array Value) (w : World) : (Instr.makeFunc fn first cap).run Try.prog w = .ok (.func fn first cap) w := rfl
end Go.Proofs.Ytkghnjgioijgpaa.PartW
