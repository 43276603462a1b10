/- A slice of the call's own that begins anywhere in its block: what is taken off ahead, what is put on behind. -/
import Derived.Test.YtkghnjgioijgpaaItLaw
import Derived.ArgAppend
namespace Go.Proofs.Ytkghnjgioijgpaa.DfaW
set_option linter.unusedVariables false
open Go.RowKit Go.Maps Go.Proofs.Ytkghnjgioijgpaa.PartW
variable {P : Program}

/-- v's elements, one cell each, are l; its block is the call's own, from base on, of cells of type e. -/
def Win (w : World) (base : Nat) (e : TypeId) (v : Value) (l : List Value) : Prop :=
  ∃ a cap, v = .slice a l.length cap ∧ l.length ≤ cap ∧ cap ≤ maxLen ∧ (a = none → cap = 0) ∧ (0 < cap → ∃ (g off : Nat) (cur : Array Value), a = some ⟨g, off, none⟩ ∧ base ≤ g ∧ w.heap[g]? = some (.cells cur e (0, 0)) ∧ off + cap ≤ cur.size ∧ ∀ i, i < l.length → cur[off + i]? = l[i]?)
/-- Only blocks of cells of type e, from base on, have changed, and new ones have come. -/
structure WinStep (base : Nat) (e : TypeId) (w w' : World) : Prop where
  os : w'.os = w.os
  tape : w'.tape = w.tape
  output : w'.output = w.output
  size : w.heap.size ≤ w'.heap.size
  keep : ∀ k, k < w.heap.size → (k < base ∨ ¬ ∃ cs, w.heap[k]? = some (.cells cs e (0, 0))) → w'.heap[k]? = w.heap[k]?
theorem WinStep.below {base : Nat} {e : TypeId} {w w' : World} (h : WinStep base e w w') (hb : base ≤ w.heap.size) : Below base w w' := ⟨h.os, h.tape, h.output, h.size, fun k hk => h.keep k (by omega) (.inl hk)⟩
theorem Win.same {w w' : World} {base : Nat} {e : TypeId} {v : Value} {l : List Value} (h : Win w base e v l) (hk : ∀ k cs, base ≤ k → w.heap[k]? = some (.cells cs e (0, 0)) → w'.heap[k]? = w.heap[k]?) : Win w' base e v l := by
  obtain ⟨a, cap, h1, h2, h3, h3', h4⟩ := h
  refine ⟨a, cap, h1, h2, h3, h3', fun h0 => ?_⟩
  obtain ⟨g, off, cur, g1, g2, g3, g4, g5⟩ := h4 h0
  exact ⟨g, off, cur, g1, g2, (hk g cur g2 g3).trans g3, g4, g5⟩
/-- The first element. -/
theorem Win.first {w : World} {base : Nat} {e : TypeId} {v x : Value} {l : List Value} (h : Win w base e v (x :: l)) : ∃ (g off cap : Nat), v = .slice (some ⟨g, off, none⟩) (l.length + 1) (cap + 1) ∧ w.cell? ⟨g, off, none⟩ = some x ∧ l.length ≤ cap ∧ cap + 1 ≤ maxLen ∧
    ∀ o', (0 < cap → o' = off + 1) → Win w base e (.slice (some ⟨g, o', none⟩) l.length cap) l := by
  obtain ⟨a, cap, h1, h2, h3, h3', h4⟩ := h
  simp only [List.length_cons] at h1 h2
  obtain ⟨g, off, cur, rfl, g2, g3, g4, g5⟩ := h4 (by omega)
  refine ⟨g, off, cap - 1, by rw [h1, show cap - 1 + 1 = cap by omega], ?_, by omega, by omega, fun o' ho => ⟨_, cap - 1, rfl, by omega, by omega, fun h => (by cases h), fun h0 => ?_⟩⟩
  · rw [cell_of_row w g off cur e (0, 0) g3]
    have := g5 0 (by simp)
    simpa using this
  · obtain rfl := ho h0
    refine ⟨g, off + 1, cur, rfl, g2, g3, by omega, fun i hi => ?_⟩
    have := g5 (i + 1) (by simp; omega)
    rw [show off + 1 + i = off + (i + 1) by omega, this]
    simp
theorem Win.len {w : World} {base : Nat} {e : TypeId} {v : Value} {l : List Value} (h : Win w base e v l) : ∃ a cap, v = .slice a l.length cap := by
  obtain ⟨a, cap, h1, _⟩ := h
  exact ⟨a, cap, h1⟩
theorem Win.of_owns {w : World} {base : Nat} {e : TypeId} {v : Value} {n : Nat} {l : List Value} (h : w.ownsRow base e 1 v n l) (hm : n ≤ maxLen) : Win w base e v l := by
  have hl : l.length = n := by have := h.1; simpa using this
  rcases h.2 with ⟨h1, h2⟩ | ⟨g, cap, cur, rfl, hg, hh, hn, hc, hs, hx⟩
  · rw [h2] at hl
    obtain rfl := List.length_eq_zero_iff.1 hl
    exact ⟨none, 0, h1, Nat.le_refl _, Nat.zero_le _, fun _ => rfl, fun h => absurd h (by omega)⟩
  · refine ⟨_, cap, by rw [hl], by omega, hc, fun h => (by cases h), fun _ => ⟨g, 0, cur, rfl, hg, hh, by omega, fun i hi => ?_⟩⟩
    have := World.ownsRow.cellAt h i (by omega)
    rw [cell_of_row w g i cur e (0, 0) hh] at this
    rw [Nat.zero_add]; exact this
theorem set_at (cur : Array Value) (off n : Nat) (x : Value) (l : List Value) (hn : l.length = n) (hs : off + n < cur.size) (h : ∀ i, i < n → cur[off + i]? = l[i]?) :
    ∀ i, i < n + 1 → (cur.setIfInBounds (off + n) x)[off + i]? = (l ++ [x])[i]? := fun i hi => by
  rw [Array.getElem?_setIfInBounds]
  by_cases e : i = n
  · subst e
    rw [if_pos rfl, if_pos (by omega), List.getElem?_append_right (by omega), hn]
    simp
  · rw [if_neg (by omega), h i (by omega), List.getElem?_append_left (by omega)]
theorem run_append_win (w : World) (base : Nat) (t ty e : TypeId) (i : TypeInfo) (z : Value) (bytes : Nat) (ht : P.underlying t = some (.slice e)) (hi : P.info? e = some i) (hz : i.zero = some z)
    (hsize : i.size = 1) (hby : i.bytes = bytes) (hzs : z.cells.size = 1) {v : Value} {l : List Value} (h : Win w base e v l) (hb : base ≤ w.heap.size)
    (ad : Addr) (c : Nat) (x : Value) (hc : w.cell? ad = some x) (hsp : ad.add 0 = ad) (h1 : x.oneCell' = true) (h63 : l.length + 1 ≤ maxLen) (hbytes : (l.length + 1) * bytes ≤ 140737488355328) :
    ∃ v' w', (Builtin.append_ #[t, t] ty #[v, .slice (some ad) 1 c]).run P w = .ok v' w' ∧ Win w' base e v' (l ++ [x]) ∧ WinStep base e w w' := by
  obtain ⟨a, cap, rfl, g1, g2, g3', g3⟩ := h
  by_cases hroom : l.length + 1 ≤ cap
  · obtain ⟨g, off, cur, rfl, g4, g5, g6, g7⟩ := g3 (by omega)
    have hnews : ∀ j u, [x][j]? = some u → w.cell? (ad.add j) = some u := fun j u hu => by
      cases j with
      | zero => simp at hu; subst hu; rw [hsp]; exact hc
      | succ j => simp at hu
    have hr := run_append_room_cells (P := P) w t ty e i ht hi g off l.length cap ad 1 c [x] (by rw [hsize]; rfl) hnews (by intro u hu; simp at hu; subst hu; exact h1) hroom
      (fun j hj => by
        obtain rfl : j = 0 := by simpa using hj
        rw [hsize, Nat.mul_one, Nat.add_zero, cell_of_row w g _ cur e (0, 0) g5, Array.getElem?_eq_getElem (by omega)]
        rfl)
      (fun j hj => by simp [World.frozen?, g5])
    rw [hsize, Nat.mul_one] at hr
    have hset : w.setCells g (off + l.length) [x] = w.setCell ⟨g, off + l.length, none⟩ x := rfl
    rw [hset] at hr
    have har : Ar (w.setCell ⟨g, off + l.length, none⟩ x) g (cur.setIfInBounds (off + l.length) x) e := Ar.set g5 _ _
    refine ⟨_, _, hr, ⟨_, cap, by simp, by simpa using hroom, g2, fun h => (by cases h), fun _ => ⟨g, off, _, rfl, g4, har, by simpa using g6, ?_⟩⟩, ⟨rfl, rfl, rfl, by simp [World.setCell], fun k hk hor => ?_⟩⟩
    · have := set_at cur off l.length x l rfl (by omega) g7
      simpa using this
    · refine Below.heap_setCell _ ⟨g, _, none⟩ _ k (fun e => ?_)
      rcases hor with h | h
      · have : k = g := e
        omega
      · exact h ⟨cur, by rw [show k = g from e]; exact g5⟩
  · have hnews : ∀ j u, [x][j]? = some u → w.cell? (ad.add j) = some u := fun j u hu => by
      cases j with
      | zero => simp at hu; subst hu; rw [hsp]; exact hc
      | succ j => simp at hu
    have fin : ∀ v' w', w'.ownsRow w.heap.size e 1 v' (l.length + 1) (l ++ [x]) → w.grownBy w' none → Win w' base e v' (l ++ [x]) ∧ WinStep base e w w' := fun v' w' ho hg => by
      refine ⟨?_, ⟨hg.os, hg.tape, hg.output, hg.size, fun k hk _ => hg.block k hk (fun e => (by cases e))⟩⟩
      obtain ⟨a2, cap2, k1, k2, k3, k3', k4⟩ := Win.of_owns ho (by simpa using h63)
      exact ⟨a2, cap2, k1, k2, k3, k3', fun h0 => by obtain ⟨g, off, cur, m1, m2, m3⟩ := k4 h0; exact ⟨g, off, cur, m1, Nat.le_trans hb m2, m3⟩⟩
    cases a with
    | none =>
      obtain rfl := g3' rfl
      obtain rfl : l = [] := List.length_eq_zero_iff.1 (by omega)
      obtain ⟨v', w', hrun, r1, r2, _⟩ := run_append_own (P := P) w w.heap.size t ty e i z 1 bytes ht hi hz hsize hby hzs (by decide) (.slice none 0 0) 0 [] (World.ownsRow_nil w _ e 1) ad 1 c [x] rfl hnews (by intro u hu; simp at hu; subst hu; exact h1) (by simpa using h63) (by simpa using hbytes) (Nat.le_refl _)
      obtain ⟨f1, f2⟩ := fin v' w' (by simpa using r1) r2
      exact ⟨v', w', hrun, f1, f2⟩
    | some b =>
      have holds : ∀ j u, l[j]? = some u → w.cell? (b.add j) = some u := fun j u hu => by
        have hj := (List.getElem?_eq_some_iff.1 hu).1
        obtain ⟨g, off, cur, m1, m2, m3, m4, m5⟩ := g3 (by omega)
        simp only [Option.some.injEq] at m1
        subst m1
        rw [Addr.add_mid, cell_of_row w g _ cur e (0, 0) m3, m5 j hj]
        exact hu
      obtain ⟨v', w', hrun, r1, r2⟩ := run_append_arg_grows (P := P) w t ty e i z 1 bytes ht hi hz hsize hby hzs (by decide) b l.length cap l (by simp) holds ad 1 c [x] rfl hnews (by omega) h63 hbytes
      obtain ⟨f1, f2⟩ := fin v' w' r1 r2
      exact ⟨v', w', hrun, f1, f2⟩
/-- The same, for the walk. -/
theorem wpListIn_append_win {F : Fence} {n : Nat} (w : World) {ops : Array Oper} {rest : List Oper} {o : Oper} {a : Act} {Q : Exit → Act → World → Prop}
    (hg : o.guard = none) (s x : Operand) (t : TypeId) (hop : o.op = Op.call { callee := Callee.builtin Builtin.append, args := #[s, x], argTypes := #[t, t] })
    (base : Nat) (e : TypeId) (i : TypeInfo) (z : Value) (bytes : Nat) (h1 : P.underlying t = some (.slice e)) (h2 : P.info? e = some i) (h3 : i.zero = some z) (h4 : i.size = 1) (h5 : i.bytes = bytes) (h6 : z.cells.size = 1)
    {v : Value} {l : List Value} (hs : a.eval s = v) (h : Win w base e v l) (hb : base ≤ w.heap.size) (ad : Addr) (c : Nat) (u : Value) (hx : a.eval x = .slice (some ad) 1 c) (hc : w.cell? ad = some u) (hsp : ad.add 0 = ad) (h1c : u.oneCell' = true)
    (b1 : l.length + 1 ≤ maxLen) (b2 : (l.length + 1) * bytes ≤ 140737488355328)
    (hK : ∀ v' w', Win w' base e v' (l ++ [u]) → WinStep base e w w' → wpListIn F n P ops Q rest (a.put o.dst v') w') : wpListIn F n P ops Q (o :: rest) a w := by
  refine wpListIn_plain hg fun K hK' => ?_
  obtain ⟨v', w', hrun, r1, r2⟩ := run_append_win (P := P) w base t o.type e i z bytes h1 h2 h3 h4 h5 h6 h hb ad c u hc hsp h1c b1 b2
  unfold Oper.wpIn
  refine ⟨?_, ?_⟩
  · simp [Oper.about, hop, resolve, Target.leads, Sem.run_pure]
  · rw [Oper.semAt_plain F _ _ (by rw [hop]; intro c hc'; cases hc')]
    simp [execOp, hop, resolve, invoke, builtin, hs, hx, hrun, Result.andThen]
    exact hK' _ _ (hK v' w' r1 r2)
end Go.Proofs.Ytkghnjgioijgpaa.DfaW
