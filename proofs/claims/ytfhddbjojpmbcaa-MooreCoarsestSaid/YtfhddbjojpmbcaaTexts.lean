/- Lists of texts of the call's own: what is put behind them, their tails; lists of numbers likewise. -/
import Derived.Test.YtfhddbjojpmbcaaQuoMath
import Derived.Test.YtfhddbjojpmbcaaSameL
import Derived.Laws.AppendOwnNone
import Derived.OwnWalk
import Derived.Outline
namespace Go.Proofs.Ytfhddbjojpmbcaa.DfaW
set_option linter.unusedVariables false
open Go.RowKit Go.Maps Go.Proofs.Ytfhddbjojpmbcaa.PartW

theorem owns_base {w : World} {b b' : Nat} {e : TypeId} {s : Nat} {v : Value} {n : Nat} {xs : List Value} (h : w.ownsRow b e s v n xs) (hb : b' ≤ b) : w.ownsRow b' e s v n xs := by
  obtain ⟨h1, h2⟩ := h
  refine ⟨h1, h2.imp id ?_⟩
  rintro ⟨g, cap, cur, rfl, hg, hr⟩
  exact ⟨g, cap, cur, rfl, Nat.le_trans hb hg, hr⟩
theorem info3 : (Try.prog.info? 3).map (fun i => (i.zero, i.size, i.bytes)) = some (some (.int .i64 0), 1, 8) := by kernel_rfl
theorem infoS : (Try.prog.info? 9).map (fun i => (i.zero, i.size, i.bytes)) = some (some (.string ByteArray.empty), 1, 16) := by kernel_rfl
/-- All texts of a list have a length that is an int. -/
def Szs (l : List ByteArray) : Prop := ∀ x ∈ l, x.size ≤ 9223372036854775807
theorem Szs.at {l : List ByteArray} (h : Szs l) : ∀ i, i < l.length → (l.getD i ByteArray.empty).size ≤ 9223372036854775807 := fun i hi => by
  rw [List.getD_eq_getElem?_getD, List.getElem?_eq_getElem hi]; exact h _ (List.getElem_mem _)
theorem TS.szs {B : Nat} {w : World} {v : Value} {l : List ByteArray} (h : TS B w v l) : Szs l := fun x hx => by
  obtain ⟨i, hi, rfl⟩ := List.mem_iff_getElem.1 hx
  have := h.2 i hi
  rw [List.getD_eq_getElem?_getD, List.getElem?_eq_getElem hi] at this; exact this
theorem takeT_snoc (l : List ByteArray) {j : Nat} (hj : j < l.length) : l.take (j + 1) = l.take j ++ [l.getD j ByteArray.empty] := by
  rw [List.take_succ_eq_append_getElem hj, List.getD_eq_getElem?_getD, List.getElem?_eq_getElem hj]; rfl
/-- A list of the call's own. -/
def OI (w : World) (base : Nat) (v : Value) (l : List Int) : Prop := w.ownsRow base 3 1 v l.length (l.map (Value.int .i64))
theorem OI.is {w : World} {base : Nat} {v : Value} {l : List Int} (h : OI w base v l) : IS w.heap.size w v l := by
  have hl := h.1
  rcases h.2 with ⟨h1, h2⟩ | ⟨g, cap, cur, rfl, hg, hh, hn, hc, hs, hx⟩
  · obtain rfl := List.length_eq_zero_iff.1 h2
    rw [h1]
    exact VS.nil _ _ _
  · refine ⟨_, cap, by rw [List.length_map], by rw [List.length_map]; omega, hc, fun i hi => ⟨g, 0, rfl, (Array.getElem?_eq_some_iff.1 hh).1, ?_⟩⟩
    rw [List.length_map] at hi
    have h' := h
    rw [Nat.zero_add, World.ownsRow.cellAt h' i (by omega)]
theorem OI.below {w w' : World} {base : Nat} {v : Value} {l : List Int} (h : OI w base v l) (hb : Below w.heap.size w w') : OI w' base v l := by
  obtain ⟨h1, h2⟩ := h
  refine ⟨h1, ?_⟩
  rcases h2 with h2 | ⟨g, cap, cur, rfl, hg, hgh, hr⟩
  · exact .inl h2
  · exact .inr ⟨g, cap, cur, rfl, hg, by rw [hb.block g (Array.getElem?_eq_some_iff.1 hgh).1]; exact hgh, hr⟩
theorem OI.len {w : World} {base : Nat} {v : Value} {l : List Int} (h : OI w base v l) : ∃ a c, v = .slice a l.length c ∧ l.length ≤ c ∧ c ≤ maxLen := by
  obtain ⟨a, c, h1, h2, h3, _⟩ := h.is.open
  exact ⟨a, c, h1, h2, h3⟩
theorem OI.nil (w : World) (base : Nat) : OI w base (.slice none 0 0) [] := World.ownsRow_nil w base _ _
theorem OI.empty (w : World) : OI (w.alloc (.cells #[] 3)) w.heap.size (.slice (some ⟨w.heap.size, 0, none⟩) 0 0) [] :=
  ⟨rfl, .inr ⟨w.heap.size, 0, #[], rfl, Nat.le_refl _, Ar.new _ _ _, Nat.le_refl _, Nat.zero_le _, rfl, rfl⟩⟩
theorem below_own {B n : Nat} {w w' : World} {v : Value} {xs : List Value} {e : TypeId} {k : Nat} (hB : B ≤ w.heap.size) (hown : w.ownsRow B e k v n xs) (hg : w.grownBy w' v.ownBlock) : Below B w w' := by
  refine (Below.refl B w).grown hg hB (fun j hj => ?_)
  rcases hown.2 with ⟨h1, _⟩ | ⟨g, cap, _, h1, h2, _⟩
  · rw [h1] at hj; cases hj
  · rw [h1] at hj; cases hj; exact h2
/-- A list of texts of the call's own. -/
def OS (w : World) (base : Nat) (v : Value) (l : List ByteArray) : Prop := w.ownsRow base 9 1 v l.length (l.map (Value.string))
theorem OS.vs {w : World} {base : Nat} {v : Value} {l : List ByteArray} (h : OS w base v l) : VS w.heap.size w v (l.map Value.string) := by
  have hl := h.1
  rcases h.2 with ⟨h1, h2⟩ | ⟨g, cap, cur, rfl, hg, hh, hn, hc, hs, hx⟩
  · obtain rfl := List.length_eq_zero_iff.1 h2
    rw [h1]
    exact VS.nil _ _ _
  · refine ⟨_, cap, by rw [List.length_map], by rw [List.length_map]; omega, hc, fun i hi => ⟨g, 0, rfl, (Array.getElem?_eq_some_iff.1 hh).1, ?_⟩⟩
    rw [List.length_map] at hi
    have h' := h
    rw [Nat.zero_add, World.ownsRow.cellAt h' i (by omega)]
theorem OS.below {w w' : World} {base : Nat} {v : Value} {l : List ByteArray} (h : OS w base v l) (hb : Below w.heap.size w w') : OS w' base v l := by
  obtain ⟨h1, h2⟩ := h
  refine ⟨h1, ?_⟩
  rcases h2 with h2 | ⟨g, cap, cur, rfl, hg, hgh, hr⟩
  · exact .inl h2
  · exact .inr ⟨g, cap, cur, rfl, hg, by rw [hb.block g (Array.getElem?_eq_some_iff.1 hgh).1]; exact hgh, hr⟩
theorem OS.is {w : World} {base : Nat} {v : Value} {l : List ByteArray} (h : OS w base v l) (hs : Szs l) : TS w.heap.size w v l := ⟨h.vs, hs.at⟩
theorem OS.len {w : World} {base : Nat} {v : Value} {l : List ByteArray} (h : OS w base v l) : ∃ a c, v = .slice a l.length c ∧ l.length ≤ c ∧ c ≤ maxLen := by
  obtain ⟨a, c, h1, h2, h3, _⟩ := h.vs
  rw [List.length_map] at h1 h2
  exact ⟨a, c, h1, h2, h3⟩
theorem OS.nil (w : World) (base : Nat) : OS w base (.slice none 0 0) [] := World.ownsRow_nil w base _ _
theorem OS.empty (w : World) : OS (w.alloc (.cells #[] 9)) w.heap.size (.slice (some ⟨w.heap.size, 0, none⟩) 0 0) [] :=
  ⟨rfl, .inr ⟨w.heap.size, 0, #[], rfl, Nat.le_refl _, Ar.new _ _ _, Nat.le_refl _, Nat.zero_le _, rfl, rfl⟩⟩
section
variable {ops : Array Oper} {rest : List Oper} {o : Oper} {a : Act} {w : World} {Q : Exit → Act → World → Prop}
/-- One number more. -/
theorem wpList_append_int (hgd : o.guard = none) (s x : Operand) (ho : o.op = .call { callee := .builtin .append, args := #[s, x], argTypes := #[24, 24] })
    {base : Nat} {v : Value} {l : List Int} (hs : a.eval s = v) (hown : OI w base v l) (hbase : base ≤ w.heap.size) (ad : Addr) (c : Nat) (y : Int) (hx : a.eval x = .slice (some ad) 1 c) (hc : w.cell? ad = some (.int .i64 y)) (hsp : ad.add 0 = ad)
    (hbytes : l.length + 1 ≤ 17592186044416)
    (hK : ∀ v' w', OI w' base v' (l ++ [y]) → Below base w w' → wpList Try.prog ops Q rest (a.put o.dst v') w') : wpList Try.prog ops Q (o :: rest) a w := by
  obtain ⟨i0, hi, hz0, hz1, hz2⟩ := info_parts info3
  refine wpList_append_own _ hgd s x 24 ho base 3 i0 (.int .i64 0) 1 8 Try.underlying24 hi hz0 hz1 hz2 rfl (by decide) v _ _ hs hown ad 1 c [.int .i64 y] hx rfl (fun j u hj => ?_) (fun u hu => ?_) (by unfold maxLen; omega) (by omega) hbase fun v' w' h1 h2 _ => hK v' w' ?_ (below_own hbase hown h2)
  · cases j with
    | zero => simp at hj; subst hj; rw [hsp]; exact hc
    | succ j => simp at hj
  · rw [List.mem_singleton] at hu; subst hu; rfl
  · show w'.ownsRow base 3 1 v' (l ++ [y]).length ((l ++ [y]).map (Value.int .i64))
    rw [List.length_append, List.map_append]; exact h1
/-- A list more. -/
theorem wpList_append_ints (hgd : o.guard = none) (s x : Operand) (ho : o.op = .call { callee := .builtin .append, args := #[s, x], argTypes := #[24, 24] })
    {base B : Nat} {v vx : Value} {l m : List Int} (hs : a.eval s = v) (hown : OI w base v l) (hbase : base ≤ w.heap.size) (hx : a.eval x = vx) (hm : IS B w vx m) (hnil : ∀ n c, vx = .slice none n c → c = 0) (hbytes : l.length + m.length ≤ 17592186044416)
    (hK : ∀ v' w', OI w' base v' (l ++ m) → Below base w w' → wpList Try.prog ops Q rest (a.put o.dst v') w') : wpList Try.prog ops Q (o :: rest) a w := by
  obtain ⟨i0, hi, hz0, hz1, hz2⟩ := info_parts info3
  obtain ⟨ad, cap, rfl, h1, h2, h3⟩ := hm.open
  rcases Nat.eq_zero_or_pos m.length with h0 | h0
  · obtain rfl := List.length_eq_zero_iff.1 h0
    cases ad with
    | none =>
      obtain rfl := hnil _ _ rfl
      refine wpList_append_own_none hgd s x 24 ho base 3 i0 1 Try.underlying24 hi v _ _ hs hown hx (hK v w ?_ (Below.refl _ _))
      rw [List.append_nil]; exact hown
    | some ad =>
      refine wpList_append_own _ hgd s x 24 ho base 3 i0 (.int .i64 0) 1 8 Try.underlying24 hi hz0 hz1 hz2 rfl (by decide) v _ _ hs hown ad 0 cap [] hx rfl (fun j u hj => by simp at hj) (by simp) (by unfold maxLen; simp at hbytes; omega) (by simp at hbytes; omega) hbase fun v' w' h1 h2 _ => hK v' w' ?_ (below_own hbase hown h2)
      rw [List.append_nil]
      show w'.ownsRow base 3 1 v' l.length _
      simpa using h1
  · obtain ⟨b, off, rfl, _, hc⟩ := IS.cells (cap := cap) h3 h0
    refine wpList_append_own _ hgd s x 24 ho base 3 i0 (.int .i64 0) 1 8 Try.underlying24 hi hz0 hz1 hz2 rfl (by decide) v _ _ hs hown ⟨b, off, none⟩ m.length cap (m.map (Value.int .i64)) hx (by simp) (fun j u hj => ?_) (fun u hu => ?_) (by unfold maxLen; omega) (by omega) hbase fun v' w' h1 h2 _ => hK v' w' ?_ (below_own hbase hown h2)
    · have hj2 := (List.getElem?_eq_some_iff.1 hj).1
      rw [List.length_map] at hj2
      rw [Addr.add_mid, hc j hj2, ← hj]
      simp [List.getD, hj2]
    · simp only [List.mem_map] at hu
      obtain ⟨c, _, rfl⟩ := hu
      rfl
    · show w'.ownsRow base 3 1 v' (l ++ m).length ((l ++ m).map (Value.int .i64))
      rw [List.length_append, List.map_append]; exact h1
end
section
variable {ops : Array Oper} {rest : List Oper} {o : Oper} {a : Act} {w : World} {Q : Exit → Act → World → Prop}
/-- One text more. -/
theorem wpList_append_text (hgd : o.guard = none) (s x : Operand) (ho : o.op = .call { callee := .builtin .append, args := #[s, x], argTypes := #[25, 25] })
    {base : Nat} {v : Value} {l : List ByteArray} (hs : a.eval s = v) (hown : OS w base v l) (hbase : base ≤ w.heap.size) (ad : Addr) (c : Nat) (y : ByteArray) (hx : a.eval x = .slice (some ad) 1 c) (hc : w.cell? ad = some (.string y)) (hsp : ad.add 0 = ad)
    (hbytes : l.length + 1 ≤ 8796093022208)
    (hK : ∀ v' w', OS w' base v' (l ++ [y]) → Below base w w' → wpList Try.prog ops Q rest (a.put o.dst v') w') : wpList Try.prog ops Q (o :: rest) a w := by
  obtain ⟨i0, hi, hz0, hz1, hz2⟩ := info_parts infoS
  refine wpList_append_own _ hgd s x 25 ho base 9 i0 (.string ByteArray.empty) 1 16 Try.underlying25 hi hz0 hz1 hz2 rfl (by decide) v _ _ hs hown ad 1 c [.string y] hx rfl (fun j u hj => ?_) (fun u hu => ?_) (by unfold maxLen; omega) (by omega) hbase fun v' w' h1 h2 _ => hK v' w' ?_ (below_own hbase hown h2)
  · cases j with
    | zero => simp at hj; subst hj; rw [hsp]; exact hc
    | succ j => simp at hj
  · rw [List.mem_singleton] at hu; subst hu; rfl
  · show w'.ownsRow base 9 1 v' (l ++ [y]).length ((l ++ [y]).map (Value.string))
    rw [List.length_append, List.map_append]; exact h1
/-- A list of texts more. -/
theorem wpList_append_texts (hgd : o.guard = none) (s x : Operand) (ho : o.op = .call { callee := .builtin .append, args := #[s, x], argTypes := #[25, 25] })
    {base B : Nat} {v vx : Value} {l m : List ByteArray} (hs : a.eval s = v) (hown : OS w base v l) (hbase : base ≤ w.heap.size) (hx : a.eval x = vx) (hm : TS B w vx m) (hnil : ∀ n c, vx = .slice none n c → c = 0) (hbytes : l.length + m.length ≤ 8796093022208)
    (hK : ∀ v' w', OS w' base v' (l ++ m) → Below base w w' → wpList Try.prog ops Q rest (a.put o.dst v') w') : wpList Try.prog ops Q (o :: rest) a w := by
  obtain ⟨i0, hi, hz0, hz1, hz2⟩ := info_parts infoS
  obtain ⟨ad, cap, rfl, h1, h2, h3⟩ := hm.open
  rcases Nat.eq_zero_or_pos m.length with h0 | h0
  · obtain rfl := List.length_eq_zero_iff.1 h0
    cases ad with
    | none =>
      obtain rfl := hnil _ _ rfl
      refine wpList_append_own_none hgd s x 25 ho base 9 i0 1 Try.underlying25 hi v _ _ hs hown hx (hK v w ?_ (Below.refl _ _))
      rw [List.append_nil]; exact hown
    | some ad =>
      refine wpList_append_own _ hgd s x 25 ho base 9 i0 (.string ByteArray.empty) 1 16 Try.underlying25 hi hz0 hz1 hz2 rfl (by decide) v _ _ hs hown ad 0 cap [] hx rfl (fun j u hj => by simp at hj) (by simp) (by unfold maxLen; simp at hbytes; omega) (by simp at hbytes; omega) hbase fun v' w' h1 h2 _ => hK v' w' ?_ (below_own hbase hown h2)
      rw [List.append_nil]
      show w'.ownsRow base 9 1 v' l.length _
      simpa using h1
  · obtain ⟨b, off, rfl, _, hc⟩ := TS.cells (cap := cap) h3 h0
    refine wpList_append_own _ hgd s x 25 ho base 9 i0 (.string ByteArray.empty) 1 16 Try.underlying25 hi hz0 hz1 hz2 rfl (by decide) v _ _ hs hown ⟨b, off, none⟩ m.length cap (m.map (Value.string)) hx (by simp) (fun j u hj => ?_) (fun u hu => ?_) (by unfold maxLen; omega) (by omega) hbase fun v' w' h1 h2 _ => hK v' w' ?_ (below_own hbase hown h2)
    · have hj2 := (List.getElem?_eq_some_iff.1 hj).1
      rw [List.length_map] at hj2
      rw [Addr.add_mid, hc j hj2, ← hj]
      simp [List.getD, hj2]
    · simp only [List.mem_map] at hu
      obtain ⟨c, _, rfl⟩ := hu
      rfl
    · show w'.ownsRow base 9 1 v' (l ++ m).length ((l ++ m).map (Value.string))
      rw [List.length_append, List.map_append]; exact h1
end
/-- The tail of a list of the call's own. -/
theorem tailT_is {w : World} {base : Nat} {a : Option Addr} {n cap : Nat} {l : List ByteArray} (h : OS w base (.slice a n cap) l) (hz : Szs l) (hn : n = l.length) {i : Nat} (hi : i ≤ n) :
    ∃ a' c', (∀ W, (Instr.slice 25 (.slice a n cap) (some (.int .i64 (i : Nat))) none none).run Try.prog W = .ok (.slice a' (n - i) c') W) ∧ (a' = none → c' = 0) ∧
      ∀ W, Below w.heap.size w W → TS W.heap.size W (.slice a' (n - i) c') (l.drop i) := by
  have ht : Try.prog.underlying 25 = some (.slice 9) := Try.underlying25
  have ht' : Try.prog.underlying 25 = some (.slice (Try.prog.elem 25)) := by simp [Program.elem, ht]
  have he : Try.prog.elem 25 = 9 := by simp [Program.elem, ht]
  subst hn
  rcases h.2 with ⟨h1, h2⟩ | ⟨g, cap', cur, h1, hg, hh, hle, hc, hs, hx⟩
  · simp only [Value.slice.injEq] at h1
    obtain ⟨rfl, h3, rfl⟩ := h1
    obtain rfl : l = [] := List.length_eq_zero_iff.1 h2
    obtain rfl : i = 0 := by simpa using hi
    refine ⟨none, 0, fun W => ?_, fun _ => rfl, fun W _ => by rw [List.drop_nil]; exact ⟨VS.nil _ _ _, fun i hi => by simp at hi⟩⟩
    rw [run_slice_l W 25 _ _ _ ht' .i64 _ (by omega) (by omega), he, Try.sizeOf9]
    simp [Result.andThen, sliced]
  · simp only [Value.slice.injEq] at h1
    obtain ⟨rfl, h3, rfl⟩ := h1
    by_cases hic : cap = i
    · refine ⟨some ⟨g, 0, none⟩, cap - i, fun W => ?_, fun h => (by cases h), fun W _ => ?_⟩
      · rw [run_slice_l W 25 _ _ _ ht' .i64 _ (by omega) (by omega), he, Try.sizeOf9]
        simp [Result.andThen, sliced, hic]
      · have e1 : l.drop i = [] := List.drop_of_length_le (by omega)
        rw [e1, show l.length - i = 0 by omega, show cap - i = 0 by omega]
        exact ⟨VS.nil _ _ _, fun i hi => by simp at hi⟩
    · refine ⟨some ⟨g, i, none⟩, cap - i, fun W => ?_, fun h => (by cases h), fun W hb => ?_⟩
      · rw [run_slice_l W 25 _ _ _ ht' .i64 _ (by omega) (by omega), he, Try.sizeOf9]
        by_cases h0 : i = 0
        · subst h0
          simp [Result.andThen, sliced, Addr.add]
        · simp [Result.andThen, sliced, Addr.add, hic, h0]
      · refine ⟨⟨_, cap - i, by simp, by simp; omega, by omega, fun j hj => ⟨g, i, rfl, ?_, ?_⟩⟩, Szs.at fun x hx => hz x (List.mem_of_mem_drop hx)⟩
        · exact Nat.lt_of_lt_of_le (Array.getElem?_eq_some_iff.1 hh).1 hb.size
        · rw [List.length_map, List.length_drop] at hj
          rw [hb.cell (p := ⟨g, i + j, none⟩) (Array.getElem?_eq_some_iff.1 hh).1, World.ownsRow.cellAt (show w.ownsRow base 9 1 (.slice (some ⟨g, 0, none⟩) l.length cap) l.length _ from h) (i + j) (by omega)]
          simp
end Go.Proofs.Ytfhddbjojpmbcaa.DfaW
