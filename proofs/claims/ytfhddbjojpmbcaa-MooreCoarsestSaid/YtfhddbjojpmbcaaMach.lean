/- Machines as plain data; names; which may be; runs. -/
import Derived.Test.YtfhddbjojpmbcaaBasics
import Derived.Deep.MidRow
import Derived.LoopTactic
import Derived.Test.YtfhddbjojpmbcaaShelf
namespace Go.Proofs.Ytfhddbjojpmbcaa.DfaW
set_option linter.unusedVariables false
open Go.RowKit Go.Maps Go.Proofs.Ytfhddbjojpmbcaa.PartM Go.Proofs.Ytfhddbjojpmbcaa.PartW
variable {P : Program}

/-- A slice whose elements, one cell each, all in blocks below B, are l. -/
def VS (B : Nat) (w : World) (v : Value) (l : List Value) : Prop :=
  ∃ a cap, v = .slice a l.length cap ∧ l.length ≤ cap ∧ cap ≤ maxLen ∧ ∀ i, i < l.length → ∃ b o : Nat, a = some ⟨b, o, none⟩ ∧ b < B ∧ w.cell? ⟨b, o + i, none⟩ = l[i]?
theorem VS.below {B : Nat} {w w' : World} {v : Value} {l : List Value} (h : VS B w v l) (hb : Below B w w') : VS B w' v l := by
  obtain ⟨a, cap, h1, h2, h3, h4⟩ := h
  exact ⟨a, cap, h1, h2, h3, fun i hi => by obtain ⟨b, o, h5, h6, h7⟩ := h4 i hi; exact ⟨b, o, h5, h6, by rw [hb.cell (p := ⟨b, o + i, none⟩) h6]; exact h7⟩⟩
theorem VS.up {B B' : Nat} {w : World} {v : Value} {l : List Value} (h : VS B w v l) (hb : B ≤ B') : VS B' w v l := by
  obtain ⟨a, cap, h1, h2, h3, h4⟩ := h
  exact ⟨a, cap, h1, h2, h3, fun i hi => by obtain ⟨b, o, h5, h6, h7⟩ := h4 i hi; exact ⟨b, o, h5, Nat.lt_of_lt_of_le h6 hb, h7⟩⟩
theorem VS.nil (B : Nat) (w : World) (a : Option Addr) : VS B w (.slice a 0 0) [] := ⟨a, 0, rfl, Nat.le_refl _, Nat.zero_le _, fun i hi => by simp at hi⟩
/-- Integers, texts, rows. -/
def IS (B : Nat) (w : World) (v : Value) (l : List Int) : Prop := VS B w v (l.map (Value.int .i64))
def TS (B : Nat) (w : World) (v : Value) (l : List ByteArray) : Prop := VS B w v (l.map Value.string) ∧ ∀ i, i < l.length → (l.getD i ByteArray.empty).size ≤ 9223372036854775807
def RS (B : Nat) (w : World) (v : Value) (ll : List (List Int)) : Prop := ∃ vs : List Value, VS B w v vs ∧ vs.length = ll.length ∧ ∀ i, i < ll.length → ∃ vi, vs[i]? = some vi ∧ IS B w vi (ll.getD i [])
theorem IS.below {B : Nat} {w w' : World} {v : Value} {l : List Int} (h : IS B w v l) (hb : Below B w w') : IS B w' v l := VS.below h hb
theorem IS.up {B B' : Nat} {w : World} {v : Value} {l : List Int} (h : IS B w v l) (hb : B ≤ B') : IS B' w v l := VS.up h hb
theorem TS.below {B : Nat} {w w' : World} {v : Value} {l : List ByteArray} (h : TS B w v l) (hb : Below B w w') : TS B w' v l := ⟨h.1.below hb, h.2⟩
theorem TS.up {B B' : Nat} {w : World} {v : Value} {l : List ByteArray} (h : TS B w v l) (hb : B ≤ B') : TS B' w v l := ⟨h.1.up hb, h.2⟩
theorem RS.below {B : Nat} {w w' : World} {v : Value} {l : List (List Int)} (h : RS B w v l) (hb : Below B w w') : RS B w' v l := by
  obtain ⟨vs, h1, h2, h3⟩ := h
  exact ⟨vs, h1.below hb, h2, fun i hi => by obtain ⟨vi, h4, h5⟩ := h3 i hi; exact ⟨vi, h4, h5.below hb⟩⟩
theorem RS.up {B B' : Nat} {w : World} {v : Value} {l : List (List Int)} (h : RS B w v l) (hb : B ≤ B') : RS B' w v l := by
  obtain ⟨vs, h1, h2, h3⟩ := h
  exact ⟨vs, h1.up hb, h2, fun i hi => by obtain ⟨vi, h4, h5⟩ := h3 i hi; exact ⟨vi, h4, h5.up hb⟩⟩
theorem IS.open {B : Nat} {w : World} {v : Value} {l : List Int} (h : IS B w v l) : ∃ a cap, v = .slice a l.length cap ∧ l.length ≤ cap ∧ cap ≤ maxLen ∧
    ∀ i, i < l.length → ∃ b o : Nat, a = some ⟨b, o, none⟩ ∧ b < B ∧ w.cell? ⟨b, o + i, none⟩ = some (.int .i64 (l.getD i 0)) := by
  obtain ⟨a, cap, h1, h2, h3, h4⟩ := h
  simp only [List.length_map] at h1 h2 h4
  exact ⟨a, cap, h1, h2, h3, fun i hi => by obtain ⟨b, o, h5, h6, h7⟩ := h4 i hi; exact ⟨b, o, h5, h6, by rw [h7]; simp [List.getD, hi]⟩⟩
theorem TS.open {B : Nat} {w : World} {v : Value} {l : List ByteArray} (h : TS B w v l) : ∃ a cap, v = .slice a l.length cap ∧ l.length ≤ cap ∧ cap ≤ maxLen ∧
    ∀ i, i < l.length → ∃ b o : Nat, a = some ⟨b, o, none⟩ ∧ b < B ∧ w.cell? ⟨b, o + i, none⟩ = some (.string (l.getD i ByteArray.empty)) := by
  obtain ⟨a, cap, h1, h2, h3, h4⟩ := h.1
  simp only [List.length_map] at h1 h2 h4
  exact ⟨a, cap, h1, h2, h3, fun i hi => by obtain ⟨b, o, h5, h6, h7⟩ := h4 i hi; exact ⟨b, o, h5, h6, by rw [h7]; simp [List.getD, hi]⟩⟩
theorem RS.open {B : Nat} {w : World} {v : Value} {l : List (List Int)} (h : RS B w v l) : ∃ a cap, v = .slice a l.length cap ∧ l.length ≤ cap ∧ cap ≤ maxLen ∧
    ∀ i, i < l.length → ∃ (b o : Nat) (vi : Value), a = some ⟨b, o, none⟩ ∧ b < B ∧ w.cell? ⟨b, o + i, none⟩ = some vi ∧ IS B w vi (l.getD i []) := by
  obtain ⟨vs, ⟨a, cap, h1, h2, h3, h4⟩, h5, h6⟩ := h
  rw [h5] at h1 h2 h4
  exact ⟨a, cap, h1, h2, h3, fun i hi => by obtain ⟨b, o, h7, h8, h9⟩ := h4 i hi; obtain ⟨vi, h10, h11⟩ := h6 i hi; exact ⟨b, o, vi, h7, h8, by rw [h9, h10], h11⟩⟩
/-- What the call owns. -/
theorem VS.of_owns {w : World} {base : Nat} {e : TypeId} {v : Value} {n : Nat} {l : List Value} (h : w.ownsRow base e 1 v n l) (hm : ∀ a c, v = .slice a n c → c ≤ maxLen) : VS w.heap.size w v l := by
  have hl : l.length = n := by have := h.1; simpa using this
  rcases h.2 with ⟨h1, h2⟩ | ⟨g, cap, cur, rfl, hg, hh, hn, hc, hs, hx⟩
  · rw [h2] at hl
    obtain rfl := List.length_eq_zero_iff.1 hl
    rw [h1]
    exact VS.nil _ _ _
  · refine ⟨_, cap, by rw [hl], by omega, hm _ _ rfl, fun i hi => ⟨g, 0, rfl, (Array.getElem?_eq_some_iff.1 hh).1, ?_⟩⟩
    have h' := h
    rw [Nat.zero_add, World.ownsRow.cellAt h' i (by omega)]

/-- A machine, as plain data. -/
structure Mc where
  of : Nat → Nat
  wd : Int
  nx : List (List Int)
  lb : List Int
  nm : List ByteArray
/-- C's cells are those of the machine m, which reads below B. -/
structure IsM (B : Nat) (w : World) (C : Array Value) (m : Mc) : Prop where
  size : C.size = 260
  of' : ∀ i, i < 256 → C[i]? = some (.int .u8 (m.of i : Int))
  oflt : ∀ i, i < 256 → m.of i < 256
  wd : C[256]? = some (.int .i64 m.wd)
  nx : ∃ v, C[257]? = some v ∧ RS B w v m.nx
  lb : ∃ v, C[258]? = some v ∧ IS B w v m.lb
  nm : ∃ v, C[259]? = some v ∧ TS B w v m.nm
theorem IsM.below {B : Nat} {w w' : World} {C : Array Value} {m : Mc} (h : IsM B w C m) (hb : Below B w w') : IsM B w' C m :=
  ⟨h.size, h.of', h.oflt, h.wd, (by obtain ⟨v, h1, h2⟩ := h.nx; exact ⟨v, h1, h2.below hb⟩), (by obtain ⟨v, h1, h2⟩ := h.lb; exact ⟨v, h1, h2.below hb⟩), (by obtain ⟨v, h1, h2⟩ := h.nm; exact ⟨v, h1, h2.below hb⟩)⟩
theorem IsM.up {B B' : Nat} {w : World} {C : Array Value} {m : Mc} (h : IsM B w C m) (hb : B ≤ B') : IsM B' w C m :=
  ⟨h.size, h.of', h.oflt, h.wd, (by obtain ⟨v, h1, h2⟩ := h.nx; exact ⟨v, h1, h2.up hb⟩), (by obtain ⟨v, h1, h2⟩ := h.lb; exact ⟨v, h1, h2.up hb⟩), (by obtain ⟨v, h1, h2⟩ := h.nm; exact ⟨v, h1, h2.up hb⟩)⟩
/-- The same at a later world, all of which may be spoken of. -/
theorem IsM.next {w w' : World} {C : Array Value} {m : Mc} (h : IsM w.heap.size w C m) (hb : Below w.heap.size w w') : IsM w'.heap.size w' C m := (h.below hb).up hb.size
/-- The classes' cells. -/
def ofC (C : Array Value) : Array Value := (C.toList.take 256).toArray
theorem IsM.isA {B : Nat} {w : World} {C : Array Value} {m : Mc} (h : IsM B w C m) : IsA (ofC C) m.of := by
  refine ⟨?_, fun i hi => ?_⟩
  · simp [ofC, h.size]
  · have h1 := h.of' i hi
    have h2 : i < C.size := by rw [h.size]; omega
    simp only [ofC, List.getElem?_toArray, List.getElem?_take, hi, if_true]
    rw [Array.getElem?_toList]
    exact h1
theorem IsM.range {B b : Nat} {w w' : World} {C : Array Value} {m : Mc} {t : TypeId} (h : IsM B w C m) (hb : Ar w' b C t) : w'.rangeAt b 0 (C.toList.take 256) := fun j v hj => by
  rw [Nat.zero_add, cell_of_row w' b j C t (0, 0) hb]
  by_cases hj2 : j < 256
  · rw [List.getElem?_take, if_pos hj2, Array.getElem?_toList] at hj
    exact hj
  · rw [List.getElem?_take, if_neg hj2] at hj; cases hj
theorem Ar.at' {w : World} {b : Nat} {C : Array Value} {t : TypeId} (h : Ar w b C t) (i : Nat) : w.cell? ⟨b, i, none⟩ = C[i]? := cell_of_row w b i C t (0, 0) h

section
variable {ops : Array Oper} {rest : List Oper} {op : Oper} {a : Act} {w : World} {Q : Exit → Act → World → Prop} {K : Act → World → Prop}
/-- A whole box is loaded. -/
theorem run_load_box (ty : TypeId) (x : Operand) (ho : op.op = .load ty x) {B : Nat} (hx : a.eval x = .pointer (some ⟨B, 0, none⟩)) {C : Array Value} {t : TypeId} (h : Ar w B C t) {d : TypeDesc}
    (hu : P.underlying ty = some d) (hd : (match d with | .struct _ | .array _ _ => true | _ => false) = true) (hi : (P.info? ty).map (·.size) = some C.size) : (execOp a.eval op).run P w = .ok (.value (.agg C)) w := by
  unfold execOp
  simp only [ho, hx, Instr.loadAt, Instr.sureAddr, Sem.run_bind, Sem.run_pure, Result.andThen_ok, run_loadVar_row w B t ty C (0, 0) d h hu hd hi]
theorem wpList_load_box (hg : op.guard = none) (ty : TypeId) (x : Operand) (ho : op.op = .load ty x) {B : Nat} (hx : a.eval x = .pointer (some ⟨B, 0, none⟩)) {C : Array Value} {t : TypeId} (h : Ar w B C t) {d : TypeDesc}
    (hu : P.underlying ty = some d) (hd : (match d with | .struct _ | .array _ _ => true | _ => false) = true) (hi : (P.info? ty).map (·.size) = some C.size) (hK : wpList P ops Q rest (a.put op.dst (.agg C)) w) : wpList P ops Q (op :: rest) a w :=
  wpList_plain hg fun _ hK' => by
    unfold Oper.wp
    rw [run_load_box ty x ho hx h hu hd hi]
    exact hK' _ _ hK
theorem wpList_load_box_g (hw : Region.wanted op (yielded ops a.tmps) = true) (ty : TypeId) (x : Operand) (ho : op.op = .load ty x) {B : Nat} (hx : a.eval x = .pointer (some ⟨B, 0, none⟩)) {C : Array Value} {t : TypeId} (h : Ar w B C t) {d : TypeDesc}
    (hu : P.underlying ty = some d) (hd : (match d with | .struct _ | .array _ _ => true | _ => false) = true) (hi : (P.info? ty).map (·.size) = some C.size) (hK : wpList P ops Q rest (a.put op.dst (.agg C)) w) : wpList P ops Q (op :: rest) a w :=
  wpList_step fun _ hK' => by
    rw [if_pos hw]
    unfold Oper.wp
    rw [run_load_box ty x ho hx h hu hd hi]
    exact hK' _ _ hK
end
theorem infoD : (Try.prog.info? 27).map (·.size) = some 260 := by kernel_rfl
end Go.Proofs.Ytfhddbjojpmbcaa.DfaW
namespace Go.Proofs.Ytfhddbjojpmbcaa.DfaW
set_option linter.unusedVariables false
open Go.RowKit Go.Maps

def letterB (c : Nat) : Bool := (decide (97 ≤ c) && decide (c ≤ 122)) || (decide (65 ≤ c) && decide (c ≤ 90)) || decide (c = 95)
def digitB (c : Nat) : Bool := decide (48 ≤ c) && decide (c ≤ 57)
/-- May a byte stand in a name, at its beginning, behind it? -/
def mayB (c : Nat) (first : Bool) : Bool := letterB c || (!first && digitB c)
def byteAt (s : ByteArray) (k : Nat) : Nat := (s.data.toList.getD k 0).toNat
theorem byteAt_lt (s : ByteArray) (k : Nat) : byteAt s k < 256 := UInt8.toNat_lt _
def nameOk (s : ByteArray) : Bool := decide (1 ≤ s.size) && decide (s.size ≤ 32) && (List.range s.size).all fun i => mayB (byteAt s i) (i == 0)
theorem run_sidx (s : ByteArray) (k : Nat) (hk : k < s.size) (w : World) : (Instr.index 9 (.string s) (.int .i64 (k : Nat))).run Try.prog w = .ok (.int .u8 (byteAt s k : Nat)) w := by
  have h1 : (s.data.toList.getD k 0) = s[k] := by
    have hk2 : k < s.data.toList.length := by simpa using hk
    rw [List.getD_eq_getElem?_getD, List.getElem?_eq_getElem hk2]
    simp [ByteArray.getElem_eq_getElem_data]
  have h2 : ((k : Int) < s.size) := by omega
  unfold byteAt
  rw [h1]
  simp [Instr.index, go_sem, hk]

theorem letter_any (c : Nat) (w : World) : Calls Try.prog 60 #[.int .u8 c] w fun e w' => e = .returned (.bool (letterB c)) ∧ w = w' := by
  have HD := Lib.hid (show letterB c = ((decide (97 ≤ c) && decide (c ≤ 122)) || (decide (65 ≤ c) && decide (c ≤ 90)) || decide (c = 95)) from rfl)
  by_cases h1 : 97 ≤ c
  · by_cases h2 : c ≤ 122
    · go_enter Try.func60, Try.ntmps60
      go_wp2_with fail
      go_ret
      exact ⟨Base.ret_bool (by rw [HD.out, Bool.eq_iff_iff]; simp <;> omega), rfl⟩
    · have h3 : 65 ≤ c := by omega
      have h4 : ¬ c ≤ 90 := by omega
      have h5 : ((c : Int) == 95) = false := by simp; omega
      go_enter Try.func60, Try.ntmps60
      go_wp2_with fail
      go_ret
      exact ⟨Base.ret_bool (by rw [HD.out, Bool.eq_iff_iff]; simp <;> omega), rfl⟩
  · by_cases h3 : 65 ≤ c
    · by_cases h4 : c ≤ 90
      · go_enter Try.func60, Try.ntmps60
        go_wp2_with fail
        go_ret
        exact ⟨Base.ret_bool (by rw [HD.out, Bool.eq_iff_iff]; simp <;> omega), rfl⟩
      · by_cases h5 : c = 95
        · have h6 : ((c : Int) == 95) = true := by rw [h5]; rfl
          go_enter Try.func60, Try.ntmps60
          go_wp2_with fail
          go_ret
          exact ⟨Base.ret_bool (by rw [HD.out, Bool.eq_iff_iff]; simp <;> omega), rfl⟩
        · have h6 : ((c : Int) == 95) = false := by simp; omega
          go_enter Try.func60, Try.ntmps60
          go_wp2_with fail
          go_ret
          exact ⟨Base.ret_bool (by rw [HD.out, Bool.eq_iff_iff]; simp <;> omega), rfl⟩
    · have h6 : ((c : Int) == 95) = false := by simp; omega
      go_enter Try.func60, Try.ntmps60
      go_wp2_with fail
      go_ret
      exact ⟨Base.ret_bool (by rw [HD.out, Bool.eq_iff_iff]; simp <;> omega), rfl⟩
theorem digit_any (c : Nat) (w : World) : Calls Try.prog 61 #[.int .u8 c] w fun e w' => e = .returned (.bool (digitB c)) ∧ w = w' := by
  have HD := Lib.hid (show digitB c = (decide (48 ≤ c) && decide (c ≤ 57)) from rfl)
  by_cases h1 : 48 ≤ c
  · by_cases h2 : c ≤ 57
    · go_enter Try.func61, Try.ntmps61
      go_wp2_with fail
      go_ret
      exact ⟨Base.ret_bool (by rw [HD.out, Bool.eq_iff_iff]; simp <;> omega), rfl⟩
    · go_enter Try.func61, Try.ntmps61
      go_wp2_with fail
      go_ret
      exact ⟨Base.ret_bool (by rw [HD.out, Bool.eq_iff_iff]; simp <;> omega), rfl⟩
  · go_enter Try.func61, Try.ntmps61
    go_wp2_with fail
    go_ret
    exact ⟨Base.ret_bool (by rw [HD.out, Bool.eq_iff_iff]; simp <;> omega), rfl⟩
theorem may_any (c : Nat) (f : Bool) (w : World) : Calls Try.prog 57 #[.int .u8 c, .bool f] w fun e w' => e = .returned (.bool (mayB c f)) ∧ w = w' := by
  have HD := Lib.hid (show mayB c f = (((decide (97 ≤ c) && decide (c ≤ 122)) || (decide (65 ≤ c) && decide (c ≤ 90)) || decide (c = 95)) || (!f && (decide (48 ≤ c) && decide (c ≤ 57)))) from rfl)
  by_cases h7 : 48 ≤ c
  · by_cases h8 : c ≤ 57
    · go_enter Try.func57, Try.ntmps57
      go_wp2_with fail
      go_ret
      have e1 : ¬ 97 ≤ c := by omega
      have e2 : ¬ 65 ≤ c := by omega
      have e3 : ¬ c = 95 := by omega
      exact ⟨Base.ret_bool (by rw [HD.out]; simp [e1, e2, e3, h7, h8]), rfl⟩
    · by_cases h1 : 97 ≤ c
      · by_cases h2 : c ≤ 122
        · go_enter Try.func57, Try.ntmps57
          go_wp2_with fail
          go_ret
          exact ⟨Base.ret_bool (by rw [HD.out, Bool.eq_iff_iff]; simp <;> omega), rfl⟩
        · have h3 : 65 ≤ c := by omega
          have h4 : ¬ c ≤ 90 := by omega
          have h5 : ((c : Int) == 95) = false := by simp; omega
          go_enter Try.func57, Try.ntmps57
          go_wp2_with fail
          go_ret
          exact ⟨Base.ret_bool (by rw [HD.out, Bool.eq_iff_iff]; simp <;> omega), rfl⟩
      · by_cases h3 : 65 ≤ c
        · by_cases h4 : c ≤ 90
          · go_enter Try.func57, Try.ntmps57
            go_wp2_with fail
            go_ret
            exact ⟨Base.ret_bool (by rw [HD.out, Bool.eq_iff_iff]; simp <;> omega), rfl⟩
          · by_cases h5 : c = 95
            · have h6 : ((c : Int) == 95) = true := by rw [h5]; rfl
              go_enter Try.func57, Try.ntmps57
              go_wp2_with fail
              go_ret
              exact ⟨Base.ret_bool (by rw [HD.out, Bool.eq_iff_iff]; simp <;> omega), rfl⟩
            · have h6 : ((c : Int) == 95) = false := by simp; omega
              go_enter Try.func57, Try.ntmps57
              go_wp2_with fail
              go_ret
              exact ⟨Base.ret_bool (by rw [HD.out, Bool.eq_iff_iff]; simp <;> omega), rfl⟩
        · have h6 : ((c : Int) == 95) = false := by simp; omega
          go_enter Try.func57, Try.ntmps57
          go_wp2_with fail
          go_ret
          exact ⟨Base.ret_bool (by rw [HD.out, Bool.eq_iff_iff]; simp <;> omega), rfl⟩
  · have h1 : ¬ 97 ≤ c := by omega
    have h3 : ¬ 65 ≤ c := by omega
    have h6 : ((c : Int) == 95) = false := by simp; omega
    go_enter Try.func57, Try.ntmps57
    go_wp2_with fail
    go_ret
    exact ⟨Base.ret_bool (by rw [HD.out, Bool.eq_iff_iff]; simp <;> omega), rfl⟩

/-- How far a name goes. -/
def frontN (s : ByteArray) : Nat → Nat → Nat
  | k, 0 => k
  | k, n + 1 => if mayB (byteAt s k) (k == 0) then frontN s (k + 1) n else k
def AllTo (s : ByteArray) (k : Nat) : Prop := ∀ i, i < k → mayB (byteAt s i) (i == 0) = true
theorem nameOk_iff (s : ByteArray) : nameOk s = true ↔ 1 ≤ s.size ∧ s.size ≤ 32 ∧ AllTo s s.size := by
  unfold nameOk AllTo
  simp only [Bool.and_eq_true, decide_eq_true_eq, List.all_eq_true, List.mem_range, and_assoc]
theorem mayB_letter {c : Nat} {f : Bool} (h : letterB c = true) : mayB c f = true := by simp [mayB, h]
theorem mayB_no {c : Nat} {f : Bool} (h : letterB c = false) : mayB c f = (!f && digitB c) := by simp [mayB, h]
set_option maxHeartbeats 1000000 in
/-- A front: as far as the bytes may stand in a name. -/
theorem front_any (s : ByteArray) (hs : s.size ≤ 9223372036854775807) (w : World) : Calls Try.prog 50 #[.string s] w fun e w' =>
    (∃ k : Nat, e = .returned (.int .i64 k) ∧ k ≤ s.size ∧ AllTo s k ∧ (k < s.size → mayB (byteAt s k) (k == 0) = false)) ∧ w = w' := by
  have HS := Lib.hid (fun k hk w => run_sidx s k hk w)
  have hsz : (s.size : Int) ≤ 9223372036854775807 := by omega
  clear hs
  go_enter Try.func50, Try.ntmps50
  go_wp2_with fail
  go_loop [3] (fun i => ∃ k : Nat, k ≤ s.size ∧ i = .int .i64 k ∧ Hid (AllTo s k)) (fun i => s.size - (intOf i).toNat)
  case atStart => exact ⟨0, Nat.zero_le _, rfl, Lib.hid (fun i h => absurd h (Nat.not_lt_zero _))⟩
  case round =>
    obtain ⟨k, hk, rfl, HA⟩ := hrel
    by_cases hlt : k < s.size
    · have t0 : decide ((k : Int) < (s.size : Int)) = true := by simp; omega
      have hr : ∀ w, (Instr.index 9 (.string s) (.int .i64 (k : Nat))).run Try.prog w = .ok (.int .u8 (byteAt s k : Nat)) w := HS.out k hlt
      have HK := Lib.hid (show k < s.size from hlt)
      obtain ⟨c, hc⟩ : ∃ c, c = byteAt s k := ⟨_, rfl⟩
      rw [← hc] at hr
      have HC := Lib.hid hc
      clear hc hlt
      cases hl : letterB c with
      | true =>
        have HL := Lib.hid hl
        clear hl
        go_wp2_with (first | (go_at_call 60; refine (letter_any c _).mono ?_; rintro e w1 ⟨rfl, rfl⟩; rw [HL.out]) | (go_at_call 61; refine (digit_any c _).mono ?_; rintro e w1 ⟨rfl, rfl⟩))
        refine ⟨⟨k + 1, HK.out, by go_num, Lib.hid (fun i hi => ?_)⟩, by have := HK.out; simp [intOf]; omega⟩
        by_cases e : i = k
        · subst e; rw [← HC.out]; exact mayB_letter HL.out
        · exact HA.out i (by omega)
      | false =>
        have HL := Lib.hid hl
        clear hl
        by_cases h0 : k = 0
        · have t1 : ¬ 0 < k := by omega
          have H0 := Lib.hid h0
          clear h0
          go_wp2_with (first | (go_at_call 60; refine (letter_any c _).mono ?_; rintro e w1 ⟨rfl, rfl⟩; rw [HL.out]) | (go_at_call 61; refine (digit_any c _).mono ?_; rintro e w1 ⟨rfl, rfl⟩))
          go_ret
          exact ⟨⟨k, rfl, Nat.le_of_lt HK.out, HA.out, fun _ => by rw [← HC.out, mayB_no HL.out, H0.out]; rfl⟩, rfl⟩
        · have t1 : 0 < k := by omega
          have hk0 : (k == 0) = false := by simpa using h0
          have HK0 := Lib.hid hk0
          clear h0 hk0
          cases hd : digitB c with
          | true =>
            have HD := Lib.hid hd
            clear hd
            go_wp2_with (first | (go_at_call 60; refine (letter_any c _).mono ?_; rintro e w1 ⟨rfl, rfl⟩; rw [HL.out]) | (go_at_call 61; refine (digit_any c _).mono ?_; rintro e w1 ⟨rfl, rfl⟩; rw [HD.out]))
            refine ⟨⟨k + 1, HK.out, by go_num, Lib.hid (fun i hi => ?_)⟩, by have := HK.out; simp [intOf]; omega⟩
            by_cases e : i = k
            · subst e; rw [← HC.out, mayB_no HL.out, HK0.out, HD.out]; rfl
            · exact HA.out i (by omega)
          | false =>
            have HD := Lib.hid hd
            clear hd
            go_wp2_with (first | (go_at_call 60; refine (letter_any c _).mono ?_; rintro e w1 ⟨rfl, rfl⟩; rw [HL.out]) | (go_at_call 61; refine (digit_any c _).mono ?_; rintro e w1 ⟨rfl, rfl⟩; rw [HD.out]))
            go_ret
            exact ⟨⟨k, rfl, Nat.le_of_lt HK.out, HA.out, fun _ => by rw [← HC.out, mayB_no HL.out, HD.out]; simp⟩, rfl⟩
    · have hk2 : k = s.size := by omega
      have HK := Lib.hid hk2
      clear hk2
      go_wp2_with fail
      go_ret
      exact ⟨⟨k, rfl, hk, HA.out, fun h => by have := HK.out; omega⟩, rfl⟩
theorem Name_any (s : ByteArray) (hs : s.size ≤ 9223372036854775807) (w : World) : Calls Try.prog 34 #[.string s] w fun e w' => e = .returned (.bool (nameOk s)) ∧ w = w' := by
  have HF := Lib.hid (fun w => front_any s hs w)
  go_enter Try.func34, Try.ntmps34
  go_wp2_with fail
  refine (HF.out _).mono ?_
  rintro e w1 ⟨⟨k, rfl, h1, h2, h3⟩, rfl⟩
  have HH := Lib.hid (show AllTo s k ∧ (k < s.size → mayB (byteAt s k) (k == 0) = false) from ⟨h2, h3⟩)
  clear h2 h3
  have HN : nameOk s = (decide (1 ≤ k) && (decide (k ≤ 32) && decide (k = s.size))) := by
    rw [Bool.eq_iff_iff, nameOk_iff]
    simp only [Bool.and_eq_true, decide_eq_true_eq]
    constructor
    · rintro ⟨a, b, c⟩
      have : k = s.size := by
        rcases Nat.lt_or_ge k s.size with h | h
        · have := HH.out.2 h; rw [c k h] at this; cases this
        · omega
      omega
    · rintro ⟨a, b, c⟩
      rw [← c]
      exact ⟨a, b, HH.out.1⟩
  have HNN := Lib.hid HN
  clear HN
  by_cases p1 : 1 ≤ k
  · have t1 : 0 < k := by omega
    by_cases p2 : k ≤ 32
    · by_cases p3 : k = s.size
      · have t3 : ((k : Int) == (s.size : Int)) = true := by rw [p3]; simp
        go_wp2_with fail
        go_ret
        exact ⟨Base.ret_bool (by rw [HNN.out, Bool.eq_iff_iff]; simp <;> omega), rfl⟩
      · have t3 : ((k : Int) == (s.size : Int)) = false := by simp; omega
        go_wp2_with fail
        go_ret
        exact ⟨Base.ret_bool (by rw [HNN.out, Bool.eq_iff_iff]; simp <;> omega), rfl⟩
    · go_wp2_with fail
      go_ret
      exact ⟨Base.ret_bool (by rw [HNN.out, Bool.eq_iff_iff]; simp <;> omega), rfl⟩
  · have t1 : ¬ 0 < k := by omega
    go_wp2_with fail
    go_ret
    exact ⟨Base.ret_bool (by rw [HNN.out, Bool.eq_iff_iff]; simp <;> omega), rfl⟩
theorem refName_any (s : ByteArray) (hs : s.size ≤ 9223372036854775807) (w : World) : Calls Try.prog 41 #[.string s] w fun e w' => e = .returned (.bool (nameOk s)) ∧ w = w' := by
  have HS := Lib.hid (fun k hk w => run_sidx s k hk w)
  have hsz : (s.size : Int) ≤ 9223372036854775807 := by omega
  clear hs
  go_enter Try.func41, Try.ntmps41
  go_wp2_with fail
  go_loop [3] (fun i => ∃ k : Nat, k ≤ s.size ∧ i = .int .i64 k ∧ Hid (AllTo s k)) (fun i => s.size - (intOf i).toNat)
  case atStart => exact ⟨0, Nat.zero_le _, rfl, Lib.hid (fun i h => absurd h (Nat.not_lt_zero _))⟩
  case round =>
    obtain ⟨k, hk, rfl, HA⟩ := hrel
    by_cases hlt : k < s.size
    · have t0 : decide ((k : Int) < (s.size : Int)) = true := by simp; omega
      have hr : ∀ w, (Instr.index 9 (.string s) (.int .i64 (k : Nat))).run Try.prog w = .ok (.int .u8 (byteAt s k : Nat)) w := HS.out k hlt
      have HK := Lib.hid (show k < s.size from hlt)
      obtain ⟨c, hc⟩ : ∃ c, c = byteAt s k := ⟨_, rfl⟩
      rw [← hc] at hr
      have HC := Lib.hid hc
      clear hc hlt
      have hb : ((k : Int) == 0) = (k == 0) := by rw [Bool.eq_iff_iff]; simp
      obtain ⟨f, hf⟩ : ∃ f, f = (k == 0) := ⟨_, rfl⟩
      rw [← hf] at hb
      have HF := Lib.hid hf
      clear hf
      cases hm : mayB c f with
      | true =>
        have HM := Lib.hid hm
        clear hm
        go_wp2_with (go_at_call 57; refine (may_any c f _).mono ?_; rintro e w1 ⟨rfl, rfl⟩; rw [HM.out])
        refine ⟨⟨k + 1, HK.out, by go_num, Lib.hid (fun i hi => ?_)⟩, by have := HK.out; simp [intOf]; omega⟩
        by_cases e : i = k
        · subst e; rw [← HC.out, ← HF.out]; exact HM.out
        · exact HA.out i (by omega)
      | false =>
        have HM := Lib.hid hm
        clear hm
        go_wp2_with (go_at_call 57; refine (may_any c f _).mono ?_; rintro e w1 ⟨rfl, rfl⟩; rw [HM.out])
        go_ret
        refine ⟨Base.ret_bool ?_, rfl⟩
        symm
        rw [Bool.eq_false_iff]
        intro h
        have := ((nameOk_iff s).1 h).2.2 k HK.out
        rw [← HC.out, ← HF.out, HM.out] at this
        cases this
    · have hk2 : k = s.size := by omega
      subst hk2
      have HN : nameOk s = (decide (1 ≤ s.size) && decide (s.size ≤ 32)) := by
        rw [Bool.eq_iff_iff, nameOk_iff]
        simp only [Bool.and_eq_true, decide_eq_true_eq]
        exact ⟨fun h => ⟨h.1, h.2.1⟩, fun h => ⟨h.1, h.2, HA.out⟩⟩
      have HNN := Lib.hid HN
      clear HN hlt
      by_cases p1 : 1 ≤ s.size
      · by_cases p2 : s.size ≤ 32
        · go_wp2_with fail
          go_ret
          exact ⟨Base.ret_bool (by rw [HNN.out, Bool.eq_iff_iff]; simp <;> omega), rfl⟩
        · go_wp2_with fail
          go_ret
          exact ⟨Base.ret_bool (by rw [HNN.out, Bool.eq_iff_iff]; simp <;> omega), rfl⟩
      · go_wp2_with fail
        go_ret
        exact ⟨Base.ret_bool (by rw [HNN.out, Bool.eq_iff_iff]; simp <;> omega), rfl⟩
end Go.Proofs.Ytfhddbjojpmbcaa.DfaW
namespace Go.Proofs.Ytfhddbjojpmbcaa.DfaW
set_option linter.unusedVariables false
open Go.RowKit Go.Maps
theorem below_drewN {B : Nat} {a w : World} (h : Below B a w) (n : Nat) : Below B a (w.drewN n) := ⟨h.os, h.tape, h.output, h.size, h.block⟩
/-- The cells of a slice that is not empty, all in one place. -/
theorem IS.cells {B : Nat} {w : World} {a : Option Addr} {cap : Nat} {l : List Int} (h : ∀ i, i < l.length → ∃ b o : Nat, a = some ⟨b, o, none⟩ ∧ b < B ∧ w.cell? ⟨b, o + i, none⟩ = some (.int .i64 (l.getD i 0))) (h0 : 0 < l.length) :
    ∃ b o : Nat, a = some ⟨b, o, none⟩ ∧ b < B ∧ ∀ j, j < l.length → w.cell? ⟨b, o + j, none⟩ = some (.int .i64 (l.getD j 0)) := by
  obtain ⟨b, o, h1, h2, _⟩ := h 0 h0
  refine ⟨b, o, h1, h2, fun j hj => ?_⟩
  obtain ⟨b', o', h3, _, h4⟩ := h j hj
  rw [h1] at h3
  simp only [Option.some.injEq, Addr.mk.injEq, and_true] at h3
  rw [h3.1, h3.2]; exact h4
theorem TS.cells {B : Nat} {w : World} {a : Option Addr} {cap : Nat} {l : List ByteArray} (h : ∀ i, i < l.length → ∃ b o : Nat, a = some ⟨b, o, none⟩ ∧ b < B ∧ w.cell? ⟨b, o + i, none⟩ = some (.string (l.getD i ByteArray.empty))) (h0 : 0 < l.length) :
    ∃ b o : Nat, a = some ⟨b, o, none⟩ ∧ b < B ∧ ∀ j, j < l.length → w.cell? ⟨b, o + j, none⟩ = some (.string (l.getD j ByteArray.empty)) := by
  obtain ⟨b, o, h1, h2, _⟩ := h 0 h0
  refine ⟨b, o, h1, h2, fun j hj => ?_⟩
  obtain ⟨b', o', h3, _, h4⟩ := h j hj
  rw [h1] at h3
  simp only [Option.some.injEq, Addr.mk.injEq, and_true] at h3
  rw [h3.1, h3.2]; exact h4
theorem max63 {n : Nat} (h : n ≤ maxLen) : n ≤ 9223372036854775807 := h
theorem ContainsS_pre {B : Nat} {w : World} {a : Option Addr} {cap : Nat} {l : List ByteArray} (h : TS B w (.slice a l.length cap) l) (n c : Nat) (hn : n ≤ l.length) (x : ByteArray) :
    Calls Try.prog 35 #[.slice a n c, .string x] w fun e w' => (∃ b, e = .returned (.bool b) ∧ (b = true ↔ x ∈ l.take n)) ∧ w = w' := by
  obtain ⟨a', cap', he, h1, h2, h3⟩ := h.open
  simp only [Value.slice.injEq, true_and] at he
  obtain ⟨rfl, rfl⟩ := he
  rcases Nat.eq_zero_or_pos n with h0 | h0
  · subst h0
    exact (Try.slices_Contains_string_empty a c x w).mono fun e w' ⟨a, b⟩ => ⟨⟨_, a, by simp⟩, b.symm⟩
  · obtain ⟨b, o, rfl, hb, hc⟩ := TS.cells (cap := cap) h3 (by omega)
    have := Try.slices_Contains_string b o n c l x w hn (by unfold maxLen at h2; omega) hc
    exact this.mono fun e w' ⟨a, b⟩ => ⟨⟨_, a, Lib.containsS_iff _ _⟩, b.symm⟩
end Go.Proofs.Ytfhddbjojpmbcaa.DfaW
namespace Go.Proofs.Ytfhddbjojpmbcaa.DfaW
set_option linter.unusedVariables false
open Go.RowKit Go.Maps

/-- What is told is whether p. -/
def Says (e : Ending) (p : Prop) : Prop := ∃ b, e = .returned (.bool b) ∧ (b = true ↔ p)
theorem Says.yes {p : Prop} (h : p) : Says (.returned (.bool true)) p := ⟨true, rfl, ⟨fun _ => h, fun _ => rfl⟩⟩
theorem Says.no {p : Prop} (h : ¬ p) : Says (.returned (.bool false)) p := ⟨false, rfl, ⟨fun e => (by cases e), fun x => absurd x h⟩⟩
theorem Says.of {b : Bool} {p : Prop} (h : b = true ↔ p) : Says (.returned (.bool b)) p := ⟨b, rfl, h⟩
theorem Says.elim {e : Ending} {p : Prop} (h : Says e p) : (e = .returned (.bool true) ∧ p) ∨ (e = .returned (.bool false) ∧ ¬ p) := by
  obtain ⟨b, h1, h2⟩ := h
  cases b with
  | true => exact .inl ⟨h1, h2.1 rfl⟩
  | false => exact .inr ⟨h1, fun x => by have := h2.2 x; cases this⟩
/-- What is told is a number that is not below 0 just if p. -/
def Finds (e : Ending) (p : Prop) : Prop := ∃ k : Int, e = .returned (.int .i64 k) ∧ (0 ≤ k ↔ p)
def WrongIn (n : Int) (l : List Int) : Prop := ∃ i, i < l.length ∧ ¬ (0 ≤ l.getD i 0 ∧ l.getD i 0 ≤ n)
def RowOk (n wd : Int) (r : List Int) : Prop := (r.length : Int) = wd ∧ ∀ i, i < r.length → 0 ≤ r.getD i 0 ∧ r.getD i 0 < n
def RowsOk (n wd : Int) (nx : List (List Int)) : Prop := (nx.length : Int) = n ∧ ∀ j, j < nx.length → RowOk n wd (nx.getD j [])
def LabelsOk (n : Int) (l : List Int) : Prop := 1 ≤ l.length ∧ l.length ≤ 65536 ∧ ∀ i, i < l.length → 0 ≤ l.getD i 0 ∧ l.getD i 0 ≤ n
def NamesOk (l : List ByteArray) : Prop := l.length ≤ 64 ∧ ∀ i, i < l.length → nameOk (l.getD i ByteArray.empty) = true ∧ l.getD i ByteArray.empty ∉ l.take i

theorem within_any (s n : Int) (w : World) : Calls Try.prog 32 #[.int .i64 s, .int .i64 n] w fun e w' => e = .returned (.bool (decide (0 ≤ s ∧ s < n))) ∧ w = w' := by
  by_cases h1 : 0 ≤ s
  · by_cases h2 : s < n
    · go_enter Try.func32, Try.ntmps32
      go_wp2_with fail
      go_ret
      exact ⟨Base.ret_bool (by rw [Bool.eq_iff_iff]; simp <;> omega), rfl⟩
    · go_enter Try.func32, Try.ntmps32
      go_wp2_with fail
      go_ret
      exact ⟨Base.ret_bool (by rw [Bool.eq_iff_iff]; simp <;> omega), rfl⟩
  · go_enter Try.func32, Try.ntmps32
    go_wp2_with fail
    go_ret
    exact ⟨Base.ret_bool (by rw [Bool.eq_iff_iff]; simp <;> omega), rfl⟩
set_option maxHeartbeats 1000000 in
theorem rightRows_any {v : Value} {nx : List (List Int)} (n wd : Int) (w : World) (h : RS w.heap.size w v nx) :
    Calls Try.prog 23 #[v, .int .i64 n, .int .i64 wd] w fun e w' => Says e (RowsOk n wd nx) ∧ w = w' := by
  obtain ⟨a, cap, rfl, h1, h2, h3⟩ := h.open
  have HC := Lib.hid h3
  obtain ⟨L, hL⟩ : ∃ L, L = nx.length := ⟨_, rfl⟩
  have hm : (L : Int) ≤ 9223372036854775807 := by unfold maxLen at h2; omega
  have HR := Lib.hid (show RowsOk n wd nx ↔ (L : Int) = n ∧ ∀ j, j < L → RowOk n wd (nx.getD j []) by rw [hL]; exact Iff.rfl)
  rw [← hL] at HC ⊢
  clear h h1 h2 h3 hL
  by_cases hq : (L : Int) = n
  · have t0 : ((L : Int) != n) = false := by simp [hq]
    have HQ := Lib.hid hq
    clear hq
    go_enter Try.func23, Try.ntmps23
    go_wp2_with fail
    go_loop [17] (fun i => ∃ k : Nat, k ≤ L ∧ i = .int .i64 k ∧ Hid (∀ j, j < k → RowOk n wd (nx.getD j []))) (fun i => L - (intOf i).toNat)
    case atStart => exact ⟨0, Nat.zero_le _, rfl, Lib.hid fun j hj => absurd hj (Nat.not_lt_zero _)⟩
    case round =>
      obtain ⟨k, hk, rfl, HA⟩ := hrel
      by_cases hlt : k < L
      · obtain ⟨b, o, vi, rfl, hb, hc, hv⟩ := HC.out k hlt
        obtain ⟨a2, cap2, rfl, g1, g2, g3⟩ := hv.open
        obtain ⟨r, hr⟩ : ∃ r, r = nx.getD k [] := ⟨_, rfl⟩
        obtain ⟨R, hR⟩ : ∃ R, R = r.length := ⟨_, rfl⟩
        have hmR : (R : Int) ≤ 9223372036854775807 := by unfold maxLen at g2; rw [← hr, ← hR] at g1; omega
        rw [← hr, ← hR] at g3
        rw [← hr, ← hR] at hc
        have HG := Lib.hid g3
        have HRR := Lib.hid (show r = nx.getD k [] ∧ R = r.length from ⟨hr, hR⟩)
        have HLT := Lib.hid hlt
        clear hv g1 g2 g3 hr hR hb
        by_cases hw : (R : Int) = wd
        · have t1 : ((R : Int) != wd) = false := by simp [hw]
          have HW := Lib.hid hw
          clear hw
          go_wp2_with fail
          go_loop [27] (fun i => ∃ j : Nat, j ≤ R ∧ i = .int .i64 j ∧ Hid (∀ i, i < j → 0 ≤ r.getD i 0 ∧ r.getD i 0 < n)) (fun i => R - (intOf i).toNat)
          case atStart => exact ⟨0, Nat.zero_le _, rfl, Lib.hid fun j hj => absurd hj (Nat.not_lt_zero _)⟩
          case round =>
            obtain ⟨j, hj, rfl, HB⟩ := hrel
            clear hc
            by_cases hlj : j < R
            · obtain ⟨b2, o2, rfl, _, hc2⟩ := HG.out j hlj
              obtain ⟨x, hxe⟩ : ∃ x, x = r.getD j 0 := ⟨_, rfl⟩
              rw [← hxe] at hc2
              have HXE := Lib.hid hxe
              have HW2 := Lib.hid (fun w => within_any x n w)
              have HLJ := Lib.hid hlj
              clear hxe
              by_cases hx : 0 ≤ x ∧ x < n
              · have HX := Lib.hid hx
                have HD := Lib.hid (decide_eq_true hx)
                clear hx
                go_wp2_with fail
                refine (HW2.out _).mono ?_
                rintro e w1 ⟨rfl, rfl⟩
                rw [HD.out]
                go_wp2_with fail
                refine ⟨⟨j + 1, hlj, by go_num, Lib.hid fun i hi => ?_⟩, by simp [intOf]; omega⟩
                by_cases e : i = j
                · subst e; rw [← HXE.out]; exact HX.out
                · exact HB.out i (by omega)
              · have HX := Lib.hid hx
                have HD := Lib.hid (decide_eq_false hx)
                clear hx
                go_wp2_with fail
                refine (HW2.out _).mono ?_
                rintro e w1 ⟨rfl, rfl⟩
                rw [HD.out]
                go_wp2_with fail
                go_ret
                refine ⟨Says.no fun h => ?_, rfl⟩
                have := (HR.out.1 h).2 k HLT.out
                rw [← HRR.out.1] at this
                exact HX.out (by rw [HXE.out]; exact this.2 j (by rw [← HRR.out.2]; exact HLJ.out))
            · have hjR : j = R := by omega
              have HRK := Lib.hid (show RowOk n wd r from ⟨by rw [← HRR.out.2]; exact HW.out, fun i hi => HB.out i (by rw [hjR, HRR.out.2]; exact hi)⟩)
              clear hjR
              go_wp2_with fail
              refine ⟨⟨k + 1, HLT.out, by go_num, Lib.hid fun i hi => ?_⟩, by have := HLT.out; simp [intOf]; omega⟩
              by_cases e : i = k
              · subst e; rw [← HRR.out.1]; exact HRK.out
              · exact HA.out i (by omega)
        · have t1 : ((R : Int) != wd) = true := by simp [hw]
          have HW := Lib.hid hw
          clear hw
          go_wp2_with fail
          go_ret
          refine ⟨Says.no fun h => ?_, rfl⟩
          have := (HR.out.1 h).2 k HLT.out
          rw [← HRR.out.1] at this
          exact absurd (by rw [HRR.out.2]; exact this.1) HW.out
      · have hkL : k = L := by omega
        subst hkL
        go_wp2_with fail
        go_ret
        exact ⟨Says.yes (HR.out.2 ⟨HQ.out, HA.out⟩), rfl⟩
  · have t0 : ((L : Int) != n) = true := by simp [hq]
    have HQ := Lib.hid hq
    clear hq
    go_enter Try.func23, Try.ntmps23
    go_wp2_with fail
    go_ret
    exact ⟨Says.no fun h => absurd (HR.out.1 h).1 HQ.out, rfl⟩

/-! ### Labels -/
theorem wrong_any (x n : Int) (B : Nat) (w : World) (h : w.cell? ⟨B, 0, none⟩ = some (.int .i64 n)) :
    Calls Try.prog 36 #[.int .i64 x, .pointer (some ⟨B, 0, none⟩)] w fun e w' => e = .returned (.bool (!decide (0 ≤ x ∧ x ≤ n))) ∧ w = w' := by
  by_cases h1 : 0 ≤ x
  · by_cases h2 : x ≤ n
    · go_enter Try.func36, Try.ntmps36
      go_wp2_with fail
      go_ret
      exact ⟨Base.ret_bool (by rw [Bool.eq_iff_iff]; simp <;> omega), rfl⟩
    · go_enter Try.func36, Try.ntmps36
      go_wp2_with fail
      go_ret
      exact ⟨Base.ret_bool (by rw [Bool.eq_iff_iff]; simp <;> omega), rfl⟩
  · go_enter Try.func36, Try.ntmps36
    go_wp2_with fail
    go_ret
    exact ⟨Base.ret_bool (by rw [Bool.eq_iff_iff]; simp <;> omega), rfl⟩
set_option maxHeartbeats 1000000 in
theorem IndexFunc_any {v : Value} {l : List Int} (n : Int) (B : Nat) (w : World) (hB : w.cell? ⟨B, 0, none⟩ = some (.int .i64 n)) {Bo : Nat} (h : IS Bo w v l) :
    Calls Try.prog 52 #[v, .func (.func 36) #[] #[.pointer (some ⟨B, 0, none⟩)]] w fun e w' => Finds e (WrongIn n l) ∧ w = w' := by
  obtain ⟨a, cap, rfl, h1, h2, h3⟩ := h.open
  have HC := Lib.hid h3
  obtain ⟨L, hL⟩ : ∃ L, L = l.length := ⟨_, rfl⟩
  have hm : (L : Int) ≤ 9223372036854775807 := by unfold maxLen at h2; omega
  have HW := Lib.hid (fun x => wrong_any x n B w hB)
  have HLL := Lib.hid hL
  rw [← hL] at HC
  rw [show (Value.slice a l.length cap) = .slice a L cap by rw [hL]]
  clear h h1 h2 h3 hL hB
  go_enter Try.func52, Try.ntmps52
  go_wp2_with fail
  go_loop [8] (fun i => ∃ k : Nat, k ≤ L ∧ i = .int .i64 k ∧ Hid (∀ j, j < k → 0 ≤ l.getD j 0 ∧ l.getD j 0 ≤ n)) (fun i => L - (intOf i).toNat)
  case atStart => exact ⟨0, Nat.zero_le _, rfl, Lib.hid fun j hj => absurd hj (Nat.not_lt_zero _)⟩
  case round =>
    obtain ⟨k, hk, rfl, HA⟩ := hrel
    by_cases hlt : k < L
    · obtain ⟨b, o, rfl, hb, hc⟩ := HC.out k hlt
      obtain ⟨x, hxe⟩ : ∃ x, x = l.getD k 0 := ⟨_, rfl⟩
      rw [← hxe] at hc
      have HXE := Lib.hid hxe
      clear hxe
      by_cases hx : 0 ≤ x ∧ x ≤ n
      · have HX := Lib.hid hx
        have HD := Lib.hid (decide_eq_true hx)
        clear hx hb
        go_wp2_with fail
        refine (HW.out _).mono ?_
        rintro e w1 ⟨rfl, rfl⟩
        rw [HD.out]
        go_wp2_with fail
        refine ⟨⟨k + 1, hlt, by go_num, Lib.hid fun i hi => ?_⟩, by simp [intOf]; omega⟩
        by_cases e : i = k
        · subst e; rw [← HXE.out]; exact HX.out
        · exact HA.out i (by omega)
      · have HX := Lib.hid (show ¬ (0 ≤ l.getD k 0 ∧ l.getD k 0 ≤ n) by rw [← HXE.out]; exact hx)
        have HD := Lib.hid (decide_eq_false hx)
        clear hx hb
        go_wp2_with fail
        refine (HW.out _).mono ?_
        rintro e w1 ⟨rfl, rfl⟩
        rw [HD.out]
        go_wp2_with fail
        go_ret
        exact ⟨⟨_, rfl, ⟨fun _ => ⟨k, by rw [← HLL.out]; exact hlt, HX.out⟩, fun _ => by omega⟩⟩, rfl⟩
    · have hkL : k = L := by omega
      subst hkL
      go_wp2_with fail
      go_ret
      exact ⟨⟨_, rfl, ⟨fun h => absurd h (by decide), fun ⟨i, hi, hn⟩ => absurd (HA.out i (by rw [HLL.out]; exact hi)) hn⟩⟩, rfl⟩
theorem ContainsFunc_any {v : Value} {l : List Int} (n : Int) (B : Nat) (w : World) (hB : w.cell? ⟨B, 0, none⟩ = some (.int .i64 n)) {Bo : Nat} (h : IS Bo w v l) :
    Calls Try.prog 37 #[v, .func (.func 36) #[] #[.pointer (some ⟨B, 0, none⟩)]] w fun e w' => Says e (WrongIn n l) ∧ w = w' := by
  have HI := Lib.hid (IndexFunc_any n B w hB h)
  clear hB h
  go_enter Try.func37, Try.ntmps37
  go_wp2_with fail
  refine HI.out.mono ?_
  rintro e w1 ⟨⟨k, rfl, hk⟩, rfl⟩
  have HK := Lib.hid hk
  clear hk
  go_wp2_with fail
  go_ret
  exact ⟨Says.of (by rw [decide_eq_true_iff]; exact HK.out), rfl⟩
set_option maxHeartbeats 1000000 in
theorem rightLabels_any {v : Value} {l : List Int} (n : Int) (w : World) (h : IS w.heap.size w v l) :
    Calls Try.prog 22 #[v, .int .i64 n] w fun e w' => Says e (LabelsOk n l) ∧ Below w.heap.size w w' := by
  have hb0 : Below w.heap.size w (w.alloc (.cells #[.int .i64 n] 3)) := (Below.refl _ _).alloc (Nat.le_refl _) _
  have hc0 : (w.alloc (.cells #[.int .i64 n] 3)).cell? ⟨w.heap.size, 0, none⟩ = some (.int .i64 n) := by rw [World.cell?_alloc_new]; rfl
  have HF := Lib.hid (ContainsFunc_any n w.heap.size _ hc0 (h.below hb0))
  have HB := Lib.hid hb0
  obtain ⟨a, cap, rfl, h1, h2, h3⟩ := h.open
  obtain ⟨L, hL⟩ : ∃ L, L = l.length := ⟨_, rfl⟩
  have HR := Lib.hid (show LabelsOk n l ↔ 1 ≤ L ∧ L ≤ 65536 ∧ ¬ WrongIn n l by
    rw [hL]
    unfold LabelsOk
    constructor
    · rintro ⟨x, y, z⟩; exact ⟨x, y, fun ⟨i, hi, hn⟩ => hn (z i hi)⟩
    · rintro ⟨x, y, z⟩; exact ⟨x, y, fun i hi => Classical.byContradiction fun hn => z ⟨i, hi, hn⟩⟩)
  have hmf : ∀ (fn : Fn) (first cap : Array Value) (w : World), (Instr.makeFunc fn first cap).run Try.prog w = .ok (.func fn first cap) w := fun _ _ _ _ => rfl
  rw [← hL] at HF ⊢
  clear h h1 h2 h3 hb0 hc0
  clear hL
  by_cases p1 : 1 ≤ L
  · by_cases p2 : L ≤ 65536
    · go_enter Try.func22, Try.ntmps22
      go_wp2_with fail
      refine HF.out.mono ?_
      rintro e w1 ⟨⟨b, rfl, hb⟩, rfl⟩
      have HBB := Lib.hid hb
      clear hb
      go_wp2_with fail
      go_ret
      refine ⟨Says.of ?_, HB.out⟩
      rw [HR.out, ← HBB.out]
      cases b <;> simp [p1, p2]
    · go_enter Try.func22, Try.ntmps22
      go_wp2_with fail
      go_ret
      exact ⟨Says.of ⟨fun h => (by simp at h <;> omega), fun h => absurd (HR.out.1 h).2.1 p2⟩, HB.out⟩
  · go_enter Try.func22, Try.ntmps22
    go_wp2_with fail
    go_ret
    exact ⟨Says.of ⟨fun h => (by simp at h <;> omega), fun h => absurd (HR.out.1 h).1 p1⟩, HB.out⟩

/-! ### Names -/
set_option maxHeartbeats 1000000 in
theorem rightNames_any {v : Value} {l : List ByteArray} (w : World) (h : TS w.heap.size w v l) :
    Calls Try.prog 21 #[v] w fun e w' => Says e (NamesOk l) ∧ w = w' := by
  have HT := Lib.hid h
  have hs := h.2
  obtain ⟨a, cap, rfl, h1, h2, h3⟩ := h.open
  have HC := Lib.hid h3
  obtain ⟨L, hL⟩ : ∃ L, L = l.length := ⟨_, rfl⟩
  have HR := Lib.hid (show NamesOk l ↔ L ≤ 64 ∧ ∀ i, i < L → nameOk (l.getD i ByteArray.empty) = true ∧ l.getD i ByteArray.empty ∉ l.take i by rw [hL]; exact Iff.rfl)
  have HPRE := Lib.hid (fun (n c : Nat) (hn : n ≤ L) x => ContainsS_pre h n c (by omega) x)
  have hcap : L ≤ cap := by omega
  have hcapm : (cap : Int) ≤ 9223372036854775807 := by unfold maxLen at h2; omega
  have HS := Lib.hid (fun i (hi : i < L) => hs i (by omega))
  rw [← hL] at HC HT ⊢
  clear h h1 h2 h3 hL hs
  by_cases p : L ≤ 64
  · have HP := Lib.hid p
    go_enter Try.func21, Try.ntmps21
    go_wp2_with fail
    go_loop [10] (fun i => ∃ k : Nat, k ≤ L ∧ i = .int .i64 k ∧ Hid (∀ j, j < k → nameOk (l.getD j ByteArray.empty) = true ∧ l.getD j ByteArray.empty ∉ l.take j)) (fun i => L - (intOf i).toNat)
    case atStart => exact ⟨0, Nat.zero_le _, rfl, Lib.hid fun j hj => absurd hj (Nat.not_lt_zero _)⟩
    case round =>
      obtain ⟨k, hk, rfl, HA⟩ := hrel
      by_cases hlt : k < L
      · obtain ⟨b, o, rfl, hb, hc⟩ := HC.out k hlt
        have HLT := Lib.hid hlt
        have HN := Lib.hid (fun w => Name_any (l.getD k ByteArray.empty) (HS.out k hlt) w)
        obtain ⟨x, hx⟩ : ∃ x, x = l.getD k ByteArray.empty := ⟨_, rfl⟩
        rw [← hx] at hc HN
        have HX := Lib.hid hx
        clear hx hb
        cases hok : nameOk x with
        | true =>
          have HOK := Lib.hid hok
          clear hok
          go_wp2_with fail
          refine (HN.out _).mono ?_
          rintro e w1 ⟨rfl, rfl⟩
          rw [HOK.out]
          go_wp2_with fail
          refine (HPRE.out k cap hk x).mono ?_
          rintro e w1 ⟨⟨b2, rfl, hb2⟩, rfl⟩
          cases b2 with
          | true =>
            have HM := Lib.hid (hb2.1 rfl)
            clear hb2
            go_wp2_with fail
            go_ret
            refine ⟨Says.no fun h => ?_, rfl⟩
            have := ((HR.out.1 h).2 k HLT.out).2
            rw [← HX.out] at this
            exact absurd HM.out this
          | false =>
            have HM := Lib.hid (show x ∉ l.take k from fun h => by have := hb2.2 h; cases this)
            clear hb2
            go_wp2_with fail
            refine ⟨⟨k + 1, HLT.out, by go_num, Lib.hid fun i hi => ?_⟩, by have := HLT.out; simp [intOf]; omega⟩
            by_cases e : i = k
            · subst e; rw [← HX.out]; exact ⟨HOK.out, HM.out⟩
            · exact HA.out i (by omega)
        | false =>
          have HOK := Lib.hid hok
          clear hok
          go_wp2_with fail
          refine (HN.out _).mono ?_
          rintro e w1 ⟨rfl, rfl⟩
          rw [HOK.out]
          go_wp2_with fail
          go_ret
          refine ⟨Says.no fun h => ?_, rfl⟩
          have := ((HR.out.1 h).2 k HLT.out).1
          rw [← HX.out, HOK.out] at this
          cases this
      · have hkL : k = L := by omega
        subst hkL
        go_wp2_with fail
        go_ret
        exact ⟨Says.yes (HR.out.2 ⟨HP.out, HA.out⟩), rfl⟩
  · go_enter Try.func21, Try.ntmps21
    go_wp2_with fail
    go_ret
    exact ⟨Says.no fun h => absurd (HR.out.1 h).1 p, rfl⟩
end Go.Proofs.Ytfhddbjojpmbcaa.DfaW
namespace Go.Proofs.Ytfhddbjojpmbcaa.PartW
set_option linter.unusedVariables false
open Go.RowKit Go.Maps Go.Proofs.Ytfhddbjojpmbcaa.PartM

set_option maxRecDepth 100000 in
theorem Right_any {C : Array Value} {f : Nat → Nat} (hC : IsA C f) (hf : ∀ b, b < 256 → f b < 256) (n : Int) (w : World) :
    Calls Try.prog 20 #[.agg C, .int .i64 n] w fun e w' => e = .returned (.bool (sameA f (nm (byKey f)) && (n == (rk (byKey f) 256 : Nat)))) ∧ Below w.heap.size w w' := by
  obtain ⟨Z, hZ, hz⟩ := zeroA
  have HZ := Lib.hid hZ; have HC := Lib.hid hC
  have hb0 : Below w.heap.size w (w.alloc (.cells C 22)) := (Below.refl _ w).alloc (Nat.le_refl _) _
  have HB0 := Lib.hid hb0
  have HNO := Lib.hid (Norm_any hC hf (w.alloc (.cells C 22)))
  have HR0 := Lib.hid (Ar.new w C 22)
  clear hZ hC hf hb0
  go_enter Try.func20, Try.ntmps20
  go_wp2_with (refine wpList_load_arr rfl 22 (.tmp 2) rfl rfl HR0.out HC.out.size Try.underlying22 infoA ?_)
  refine HNO.out.mono ?_
  rintro e w1 ⟨Y, rfl, hY, hb1⟩
  have HY := Lib.hid hY
  have HR1 := Lib.hid (HR0.out.below hb1)
  have HB1 := Lib.hid (HB0.out.trans (hb1.mono HB0.out.size))
  have heq := eqArr HC.out hY
  obtain ⟨b, hb⟩ : ∃ b, b = sameA f (nm (byKey f)) := ⟨_, rfl⟩
  rw [← hb] at heq
  have HBB := Lib.hid hb
  clear hY hb1 hb
  have ha := HR1.out.alloc (.cells Y 22)
  have hay := Ar.new w1 Y 22
  have HA := Lib.hid ha; have HAY := Lib.hid hay
  have hb2 := HB1.out.alloc HB1.out.size (.cells Y 22)
  have HB2 := Lib.hid hb2
  clear ha hay hb2
  cases b
  · go_wp2_with (first | (refine wpList_store_arr rfl 22 (.tmp 5) (.tmp 10) rfl rfl rfl (Ar.new w1 Z 22) HZ.out.size HY.out infoA ?_; rw [World.setRow_alloc_new]) | (refine wpList_load_arr rfl 22 (.tmp 2) rfl rfl HA.out HC.out.size Try.underlying22 infoA ?_) | (refine wpList_load_arr rfl 22 (.tmp 5) rfl rfl HAY.out HY.out.size Try.underlying22 infoA ?_))
    go_ret
    exact ⟨by rw [← HBB.out]; rfl, HB2.out⟩
  · go_wp2_with (first | (refine wpList_store_arr rfl 22 (.tmp 5) (.tmp 10) rfl rfl rfl (Ar.new w1 Z 22) HZ.out.size HY.out infoA ?_; rw [World.setRow_alloc_new]) | (refine wpList_load_arr rfl 22 (.tmp 2) rfl rfl HA.out HC.out.size Try.underlying22 infoA ?_) | (refine wpList_load_arr rfl 22 (.tmp 5) rfl rfl HAY.out HY.out.size Try.underlying22 infoA ?_))
    go_ret
    exact ⟨by rw [← HBB.out, Bool.true_and]; rfl, HB2.out⟩
end Go.Proofs.Ytfhddbjojpmbcaa.PartW
namespace Go.Proofs.Ytfhddbjojpmbcaa.DfaW
set_option linter.unusedVariables false
open Go.RowKit Go.Maps Go.Proofs.Ytfhddbjojpmbcaa.PartM Go.Proofs.Ytfhddbjojpmbcaa.PartW

/-- Whether a machine may be. -/
structure Ok (m : Mc) : Prop where
  cls : sameA m.of (PartM.nm (byKey m.of)) = true
  wd : m.wd = (rk (byKey m.of) 256 : Nat)
  nms : NamesOk m.nm
  lbs : LabelsOk (m.nm.length : Nat) m.lb
  rws : RowsOk (m.lb.length : Nat) m.wd m.nx
/-- A machine's box, and what lies in it. -/
structure Bx (w : World) (b : Nat) (C : Array Value) (m : Mc) : Prop where
  ar : Ar w b C 27
  is : IsM w.heap.size w C m
theorem Bx.below {w w' : World} {b : Nat} {C : Array Value} {m : Mc} (h : Bx w b C m) (hb : Below w.heap.size w w') : Bx w' b C m := ⟨h.ar.below hb, h.is.next hb⟩
theorem Bx.new {w : World} {C : Array Value} {m : Mc} (h : IsM w.heap.size w C m) : Bx (w.alloc (.cells C 27)) w.heap.size C m := ⟨Ar.new _ _ _, h.next ((Below.refl _ _).alloc (Nat.le_refl _) _)⟩
theorem Bx.alloc {w : World} {b : Nat} {C : Array Value} {m : Mc} (h : Bx w b C m) (o : Obj) : Bx (w.alloc o) b C m := h.below ((Below.refl _ _).alloc (Nat.le_refl _) _)
theorem Bx.drew {w : World} {b : Nat} {C : Array Value} {m : Mc} (h : Bx w b C m) : Bx w.drew b C m := h.below (Below.refl _ _).drew
theorem Bx.wd {w : World} {b : Nat} {C : Array Value} {m : Mc} (h : Bx w b C m) : w.cell? ⟨b, 256, none⟩ = some (.int .i64 m.wd) := (Ar.at' h.ar 256).trans h.is.wd
theorem Bx.nx {w : World} {b : Nat} {C : Array Value} {m : Mc} (h : Bx w b C m) : ∃ v, w.cell? ⟨b, 257, none⟩ = some v ∧ RS w.heap.size w v m.nx := by
  obtain ⟨v, h1, h2⟩ := h.is.nx; exact ⟨v, (Ar.at' h.ar 257).trans h1, h2⟩
theorem Bx.lb {w : World} {b : Nat} {C : Array Value} {m : Mc} (h : Bx w b C m) : ∃ v, w.cell? ⟨b, 258, none⟩ = some v ∧ IS w.heap.size w v m.lb := by
  obtain ⟨v, h1, h2⟩ := h.is.lb; exact ⟨v, (Ar.at' h.ar 258).trans h1, h2⟩
theorem Bx.nm {w : World} {b : Nat} {C : Array Value} {m : Mc} (h : Bx w b C m) : ∃ v, w.cell? ⟨b, 259, none⟩ = some v ∧ TS w.heap.size w v m.nm := by
  obtain ⟨v, h1, h2⟩ := h.is.nm; exact ⟨v, (Ar.at' h.ar 259).trans h1, h2⟩
theorem IsM.box {w : World} {B : Nat} {C : Array Value} {m : Mc} (h : IsM B w C m) : (Try.prog.info? 27).map (·.size) = some C.size := by rw [h.size]; exact infoD
theorem IsM.ofsize {w : World} {B : Nat} {C : Array Value} {m : Mc} (h : IsM B w C m) : (Try.prog.info? 22).map (·.size) = some (C.toList.take 256).length := by
  rw [infoA]; simp [h.size]
section
variable {ops : Array Oper} {rest : List Oper} {op : Oper} {a : Act} {w : World} {Q : Exit → Act → World → Prop} {K : Act → World → Prop}
/-- The classes are loaded out of a machine's box. -/
theorem run_load_of (x : Operand) (ho : op.op = .load 22 x) {b : Nat} (hx : a.eval x = .pointer (some ⟨b, 0, none⟩)) {C : Array Value} {m : Mc} (h : Bx w b C m) : (execOp a.eval op).run Try.prog w = .ok (.value (.agg (ofC C))) w := by
  unfold execOp
  simp only [ho, hx, Instr.loadAt, Instr.sureAddr, Sem.run_bind, Sem.run_pure, Result.andThen_ok, run_loadVar_mid w b 0 22 (C.toList.take 256) _ (h.is.range h.ar) Try.underlying22 rfl h.is.ofsize]
  rfl
theorem wpList_load_of (hg : op.guard = none) (x : Operand) (ho : op.op = .load 22 x) {b : Nat} (hx : a.eval x = .pointer (some ⟨b, 0, none⟩)) {C : Array Value} {m : Mc} (h : Bx w b C m)
    (hK : wpList Try.prog ops Q rest (a.put op.dst (.agg (ofC C))) w) : wpList Try.prog ops Q (op :: rest) a w :=
  wpList_plain hg fun _ hK' => by
    unfold Oper.wp
    rw [run_load_of x ho hx h]
    exact hK' _ _ hK
theorem wpList_load_of_g (hw : Region.wanted op (yielded ops a.tmps) = true) (x : Operand) (ho : op.op = .load 22 x) {b : Nat} (hx : a.eval x = .pointer (some ⟨b, 0, none⟩)) {C : Array Value} {m : Mc} (h : Bx w b C m)
    (hK : wpList Try.prog ops Q rest (a.put op.dst (.agg (ofC C))) w) : wpList Try.prog ops Q (op :: rest) a w :=
  wpList_step fun _ hK' => by
    rw [if_pos hw]
    unfold Oper.wp
    rw [run_load_of x ho hx h]
    exact hK' _ _ hK
theorem run_load_dfa (x : Operand) (ho : op.op = .load 27 x) {b : Nat} (hx : a.eval x = .pointer (some ⟨b, 0, none⟩)) {C : Array Value} {m : Mc} (h : Bx w b C m) : (execOp a.eval op).run Try.prog w = .ok (.value (.agg C)) w :=
  run_load_box 27 x ho hx h.ar Try.underlying27 rfl h.is.box
theorem wpList_load_dfa (hg : op.guard = none) (x : Operand) (ho : op.op = .load 27 x) {b : Nat} (hx : a.eval x = .pointer (some ⟨b, 0, none⟩)) {C : Array Value} {m : Mc} (h : Bx w b C m)
    (hK : wpList Try.prog ops Q rest (a.put op.dst (.agg C)) w) : wpList Try.prog ops Q (op :: rest) a w :=
  wpList_plain hg fun _ hK' => by
    unfold Oper.wp
    rw [run_load_dfa x ho hx h]
    exact hK' _ _ hK
end

set_option maxRecDepth 100000 in
set_option maxHeartbeats 2000000 in
theorem RightD_any {C : Array Value} {m : Mc} (w : World) (h : IsM w.heap.size w C m) :
    Calls Try.prog 7 #[.agg C] w fun e w' => Says e (Ok m) ∧ Below w.heap.size w w' := by
  have hx := Bx.new h
  have hb0 : Below w.heap.size w (w.alloc (.cells C 27)) := (Below.refl _ _).alloc (Nat.le_refl _) _
  have x1 := hx.wd
  have HP := Lib.hid (fun w => Right_any h.isA h.oflt m.wd w)
  obtain ⟨q, hq⟩ : ∃ q, q = (sameA m.of (PartM.nm (byKey m.of)) && (m.wd == (rk (byKey m.of) 256 : Nat))) := ⟨_, rfl⟩
  rw [← hq] at HP
  have HQ := Lib.hid hq
  have HX := Lib.hid hx
  have HB0 := Lib.hid hb0
  clear h hx hb0 hq
  go_enter Try.func7, Try.ntmps7
  go_wp2_with (refine wpList_load_of rfl (.tmp 3) rfl rfl HX.out ?_)
  refine (HP.out _).mono ?_
  rintro e w1 ⟨rfl, hb1⟩
  have hX1 := HX.out.below hb1
  have HX1 := Lib.hid hX1
  have HB1 := Lib.hid (HB0.out.trans (hb1.mono HB0.out.size))
  clear hb1 x1
  cases q with
  | false =>
    clear hX1
    go_wp2_with fail
    go_ret
    refine ⟨Says.no fun h => ?_, HB1.out⟩
    have := HQ.out
    rw [h.cls, h.wd] at this
    simp at this
  | true =>
    obtain ⟨v3, x3, hv3⟩ := hX1.nm
    have HN := Lib.hid (rightNames_any w1 hv3)
    clear hX1
    obtain ⟨a3, c3, rfl, _, hm3, _⟩ := hv3.open
    have hm3' : (m.nm.length : Int) ≤ 9223372036854775807 := by unfold maxLen at hm3; omega
    clear hv3 hm3
    go_wp2_with fail
    refine HN.out.mono ?_
    rintro e w2 ⟨hs, rfl⟩
    rcases hs.elim with ⟨rfl, hn⟩ | ⟨rfl, hn⟩
    · have H1 := Lib.hid hn
      clear hn hs
      obtain ⟨v2, x2, hv2⟩ := HX1.out.lb
      have HL := Lib.hid (rightLabels_any (m.nm.length : Nat) w1 hv2)
      obtain ⟨a2, c2, rfl, _, hm2, _⟩ := hv2.open
      have hm2' : (m.lb.length : Int) ≤ 9223372036854775807 := by unfold maxLen at hm2; omega
      clear hv2 hm2
      go_wp2_with fail
      refine HL.out.mono ?_
      rintro e w2 ⟨hs, hb2⟩
      have hX2 := HX1.out.below hb2
      have HB2 := Lib.hid (HB1.out.trans (hb2.mono HB1.out.size))
      clear hb2
      rcases hs.elim with ⟨rfl, hn⟩ | ⟨rfl, hn⟩
      · have H2 := Lib.hid hn
        clear hn hs x2 x3
        obtain ⟨v1, x1, hv1⟩ := hX2.nx
        obtain ⟨v2, x2, hv2⟩ := hX2.lb
        have x0 := hX2.wd
        have HR := Lib.hid (rightRows_any (m.lb.length : Nat) m.wd w2 hv1)
        obtain ⟨a2, c2, rfl, _, _, _⟩ := hv2.open
        clear hv1 hv2 hX2
        go_wp2_with fail
        refine HR.out.mono ?_
        rintro e w3 ⟨hs, rfl⟩
        rcases hs.elim with ⟨rfl, hn⟩ | ⟨rfl, hn⟩
        · have H3 := Lib.hid hn
          clear hn hs
          go_wp2_with fail
          go_ret
          have := HQ.out.symm
          simp only [Bool.and_eq_true, beq_iff_eq] at this
          exact ⟨Says.yes ⟨this.1, this.2, H1.out, H2.out, H3.out⟩, HB2.out⟩
        · have H3 := Lib.hid hn
          clear hn hs
          go_wp2_with fail
          go_ret
          exact ⟨Says.no fun h => H3.out h.rws, HB2.out⟩
      · have H2 := Lib.hid hn
        clear hn hs hX2
        go_wp2_with fail
        go_ret
        exact ⟨Says.no fun h => H2.out h.lbs, HB2.out⟩
    · have H1 := Lib.hid hn
      clear hn hs
      go_wp2_with fail
      go_ret
      exact ⟨Says.no fun h => H1.out h.nms, HB1.out⟩
end Go.Proofs.Ytfhddbjojpmbcaa.DfaW
namespace Go.Proofs.Ytfhddbjojpmbcaa.DfaW
set_option linter.unusedVariables false
open Go.RowKit Go.Maps Go.Proofs.Ytfhddbjojpmbcaa.PartM Go.Proofs.Ytfhddbjojpmbcaa.PartW

/-- Where a row leads from a state, by a class. -/
def at2 (nx : List (List Int)) (s c : Nat) : Nat := ((nx.getD s []).getD c 0).toNat
/-- The state behind, by a byte. -/
def step (m : Mc) (s : Nat) (b : Nat) : Nat := at2 m.nx s (m.of b)
def run (m : Mc) (bs : List Nat) : Nat := bs.foldl (step m) 0
def lab (m : Mc) (s : Nat) : Nat := (m.lb.getD s 0).toNat
/-- The name of a label. -/
def nameOf (m : Mc) (k : Nat) : ByteArray := if k = 0 then ByteArray.empty else m.nm.getD (k - 1) ByteArray.empty
theorem Ok.len {m : Mc} (h : Ok m) : m.nx.length = m.lb.length := by have := h.rws.1; omega
theorem Ok.row {m : Mc} (h : Ok m) {s : Nat} (hs : s < m.lb.length) : ((m.nx.getD s []).length : Int) = m.wd := (h.rws.2 s (by rw [h.len]; exact hs)).1
theorem Ok.cell {m : Mc} (h : Ok m) {s c : Nat} (hs : s < m.lb.length) (hc : (c : Int) < m.wd) : (m.nx.getD s []).getD c 0 = (at2 m.nx s c : Nat) ∧ at2 m.nx s c < m.lb.length := by
  have h1 := h.row hs
  have h2 := (h.rws.2 s (by rw [h.len]; exact hs)).2 c (by omega)
  unfold at2
  omega
theorem Ok.cls' {m : Mc} (h : Ok m) {b : Nat} (hb : b < 256) : (m.of b : Int) < m.wd := by
  have h1 := (sameA_iff _ _).1 h.cls b hb
  rw [h1, h.wd]
  have := nm_lt (byKey_eqv m.of) hb
  omega
theorem Ok.step {m : Mc} (h : Ok m) {s b : Nat} (hs : s < m.lb.length) (hb : b < 256) : (m.nx.getD s []).getD (m.of b) 0 = (step m s b : Nat) ∧ step m s b < m.lb.length := h.cell hs (h.cls' hb)
theorem Ok.zero {m : Mc} (h : Ok m) : 0 < m.lb.length := h.lbs.1
theorem run_lt {m : Mc} (h : Ok m) {bs : List Nat} (hb : ∀ b ∈ bs, b < 256) : ∀ s, s < m.lb.length → bs.foldl (step m) s < m.lb.length := by
  induction bs with
  | nil => intro s hs; exact hs
  | cons b bs ih =>
    intro s hs
    exact ih (fun b' hb' => hb b' (List.mem_cons_of_mem _ hb')) _ (h.step hs (hb b (List.mem_cons_self ..))).2
theorem Ok.lab {m : Mc} (h : Ok m) {s : Nat} (hs : s < m.lb.length) : m.lb.getD s 0 = (lab m s : Nat) ∧ lab m s ≤ m.nm.length := by
  have := h.lbs.2.2 s hs
  unfold DfaW.lab
  omega

/-- What is read of one step, at whatever world that has grown out of W0. -/
theorem read_step {W0 W : World} {b : Nat} {C : Array Value} {m : Mc} (hx : Bx W0 b C m) (hk : Ok m) (hb : Below W0.heap.size W0 W) {s c : Nat} (hs : s < m.lb.length) (hc : c < 256) :
    ∃ (b1 o1 c1 b2 o2 c2 n : Nat), W.cell? ⟨b, 257, none⟩ = some (.slice (some ⟨b1, o1, none⟩) m.lb.length c1) ∧ W.cell? ⟨b1, o1 + s, none⟩ = some (.slice (some ⟨b2, o2, none⟩) n c2) ∧ m.of c < n ∧ n ≤ 256 ∧
      W.cell? ⟨b, c, none⟩ = some (.int .u8 (m.of c : Nat)) ∧ W.cell? ⟨b2, o2 + m.of c, none⟩ = some (.int .i64 (step m s c : Nat)) := by
  obtain ⟨v1, x1, hv1⟩ := hx.nx
  obtain ⟨a1, c1, rfl, p1, p2, p3⟩ := hv1.open
  obtain ⟨b1, o1, vi, rfl, h1, h2, h3⟩ := p3 s (by rw [hk.len]; exact hs)
  obtain ⟨ar, cr, rfl, q1, q2, q3⟩ := h3.open
  have hcl := hk.cls' hc
  have hrow := hk.row hs
  obtain ⟨b2, o2, rfl, g1, g2⟩ := q3 (m.of c) (by omega)
  have hst := (hk.step hs hc).1
  have hbl := hx.ar.lt
  refine ⟨b1, o1, c1, b2, o2, cr, _, ?_, (hb.cell (p := ⟨b1, _, none⟩) h1).trans h2, by omega, ?_, ?_, ?_⟩
  · rw [← hk.len]; exact (hb.cell (p := ⟨b, _, none⟩) hbl).trans x1
  · have := rk_le (E := byKey m.of) 256
    have := hk.wd
    omega
  · exact ((hb.cell (p := ⟨b, _, none⟩) hbl).trans (Ar.at' hx.ar c)).trans (hx.is.of' c hc)
  · rw [← hst]; exact (hb.cell (p := ⟨b2, _, none⟩) g1).trans g2
open Classical in
/-- What is told of a step, a word's end, its label, its name. -/
noncomputable def toV (m : Mc) (s : Int) (c : Nat) : Int := if Ok m ∧ 0 ≤ s ∧ s < (m.lb.length : Int) then (step m s.toNat c : Int) else -1
open Classical in
noncomputable def runV (m : Mc) (bs : List Nat) : Int := if Ok m then (run m bs : Int) else -1
open Classical in
noncomputable def tellV (m : Mc) (bs : List Nat) : Int := if Ok m then (lab m (run m bs) : Int) else 0
open Classical in
noncomputable def nameV (m : Mc) (bs : List Nat) : ByteArray := if Ok m then nameOf m (lab m (run m bs)) else ByteArray.empty
theorem toV_no {m : Mc} {s : Int} {c : Nat} (h : ¬ Ok m) : toV m s c = -1 := if_neg fun x => h x.1
theorem toV_out {m : Mc} {s : Int} {c : Nat} (h : ¬ (0 ≤ s ∧ s < (m.lb.length : Int))) : toV m s c = -1 := if_neg fun x => h x.2
theorem toV_yes {m : Mc} {s c : Nat} (h : Ok m) (hs : s < m.lb.length) : toV m s c = (step m s c : Nat) := if_pos ⟨h, by omega, by omega⟩
theorem runV_no {m : Mc} {bs : List Nat} (h : ¬ Ok m) : runV m bs = -1 := if_neg h
theorem runV_yes {m : Mc} {bs : List Nat} (h : Ok m) : runV m bs = (run m bs : Nat) := if_pos h
theorem tellV_no {m : Mc} {bs : List Nat} (h : ¬ Ok m) : tellV m bs = 0 := if_neg h
theorem tellV_yes {m : Mc} {bs : List Nat} (h : Ok m) : tellV m bs = (lab m (run m bs) : Nat) := if_pos h
theorem nameV_no {m : Mc} {bs : List Nat} (h : ¬ Ok m) : nameV m bs = ByteArray.empty := if_neg h
theorem nameV_yes {m : Mc} {bs : List Nat} (h : Ok m) : nameV m bs = nameOf m (lab m (run m bs)) := if_pos h

/-- A slice of bytes. -/
def BS (B : Nat) (w : World) (v : Value) (l : List Nat) : Prop := VS B w v (l.map fun (b : Nat) => Value.int .u8 (b : Int)) ∧ ∀ b ∈ l, b < 256
theorem BS.open {B : Nat} {w : World} {v : Value} {l : List Nat} (h : BS B w v l) : ∃ a cap, v = .slice a l.length cap ∧ l.length ≤ cap ∧ cap ≤ maxLen ∧
    ∀ i, i < l.length → ∃ b o : Nat, a = some ⟨b, o, none⟩ ∧ b < B ∧ w.cell? ⟨b, o + i, none⟩ = some (.int .u8 (l.getD i 0 : Nat)) := by
  obtain ⟨a, cap, h1, h2, h3, h4⟩ := h.1
  simp only [List.length_map] at h1 h2 h4
  exact ⟨a, cap, h1, h2, h3, fun i hi => by obtain ⟨b, o, h5, h6, h7⟩ := h4 i hi; exact ⟨b, o, h5, h6, by rw [h7]; simp [List.getD, hi]⟩⟩
theorem BS.below {B : Nat} {w w' : World} {v : Value} {l : List Nat} (h : BS B w v l) (hb : Below B w w') : BS B w' v l := ⟨h.1.below hb, h.2⟩
theorem BS.up {B B' : Nat} {w : World} {v : Value} {l : List Nat} (h : BS B w v l) (hb : B ≤ B') : BS B' w v l := ⟨h.1.up hb, h.2⟩
theorem BS.next {w w' : World} {v : Value} {l : List Nat} (h : BS w.heap.size w v l) (hb : Below w.heap.size w w') : BS w'.heap.size w' v l := (h.below hb).up hb.size
theorem BS.lt {B : Nat} {w : World} {v : Value} {l : List Nat} (h : BS B w v l) {i : Nat} (hi : i < l.length) : l.getD i 0 < 256 := by
  rw [List.getD_eq_getElem?_getD, List.getElem?_eq_getElem hi]
  exact h.2 _ (List.getElem_mem hi)
theorem take_snoc (l : List Nat) {j : Nat} (hj : j < l.length) : l.take (j + 1) = l.take j ++ [l.getD j 0] := by
  rw [List.take_succ_eq_append_getElem hj, List.getD_eq_getElem?_getD, List.getElem?_eq_getElem hj]; rfl
theorem run_snoc (m : Mc) (bs : List Nat) (b : Nat) : run m (bs ++ [b]) = step m (run m bs) b := by simp [run]

end Go.Proofs.Ytfhddbjojpmbcaa.DfaW
