/- Walks of the document's sets: Has, Same, Meets. -/
import Derived.Test.YtgmeomhddpmpbaaDoorRefMath
namespace Go.Proofs.YtgmeomhddpmpbaaDoor.BitsW
set_option linter.unusedVariables false
open Go.RowKit Go.Shelf Go.Proofs.YtgmeomhddpmpbaaDoor.SetM

theorem take_snoc (l : List Nat) (j : Nat) (h : j < l.length) : l.take (j + 1) = l.take j ++ [l.getD j 0] := by
  rw [List.take_succ_eq_append_getElem h, List.getD_eq_getElem?_getD, List.getElem?_eq_getElem h]; rfl
theorem split_at (l : List Nat) (j : Nat) (h : j < l.length) : l = l.take j ++ l.getD j 0 :: l.drop (j + 1) := by
  rw [List.getD_eq_getElem?_getD, List.getElem?_eq_getElem h]
  show l = l.take j ++ l[j] :: l.drop (j + 1)
  rw [← List.drop_eq_getElem_cons h, List.take_append_drop]
/-- A slice that reads as a list of numbers. -/
def NSl (w : World) (v : Value) (l : List Nat) : Prop :=
  ∃ a cap, v = .slice a l.length cap ∧ ∀ j, j < l.length → ∃ b : Nat, a = some ⟨b, 0, none⟩ ∧ w.cell? ⟨b, j, none⟩ = some (i64 (l.getD j 0)) ∧ ∃ cur z, w.heap[b]? = some (.cells cur 3 z)
theorem NSl.but {w w' : World} {B : Nat} {r : Option Nat} {v : Value} {l : List Nat} (h : NSl w v l) (hb : But B r w w') (hB : ∀ b, v.ownBlock = some b → b < B ∧ r ≠ some b) : NSl w' v l := by
  obtain ⟨a, cap, rfl, hc⟩ := h
  refine ⟨a, cap, rfl, fun j hj => ?_⟩
  obtain ⟨b, rfl, h2, cur, z, h5⟩ := hc j hj
  obtain ⟨h3, h4⟩ := hB b (by simp [Value.ownBlock])
  exact ⟨b, rfl, (hb.cell (p := ⟨b, j, none⟩) h3 (fun e => h4 e.symm)).trans h2, cur, z, (hb.block b h3 (fun e => h4 e.symm)).trans h5⟩
theorem NSl.below {w w' : World} {v : Value} {l : List Nat} (h : NSl w v l) (hb : Below w.heap.size w w') : NSl w' v l := by
  obtain ⟨a, cap, rfl, hc⟩ := h
  refine ⟨a, cap, rfl, fun j hj => ?_⟩
  obtain ⟨b, rfl, h2, cur, z, h5⟩ := hc j hj
  exact ⟨b, rfl, (hb.cell (p := ⟨b, j, none⟩) (World.block_lt_of_cell? _ _ h2)).trans h2, cur, z, (hb.block b (World.block_lt_of_cell? _ _ h2)).trans h5⟩
theorem nsl_of {w : World} {base : Nat} {v : Value} {l : List Nat} (h : w.ownsRow base 3 1 v l.length (l.map i64)) : NSl w v l := by
  rcases h.2 with ⟨h1, h2⟩ | ⟨g, cap, cur, rfl, hg, hh, hn, hc, hs, hx⟩
  · exact ⟨none, 0, by rw [h1, h2], fun j hj => by omega⟩
  · refine ⟨_, cap, rfl, fun j hj => ⟨g, rfl, ?_, cur, _, hh⟩⟩
    rw [World.ownsRow.cellAt h j (by omega)]
    simp [hj]
/-- The document's set as a value. -/
abbrev RV (n : Nat) (v : Value) : Value := .agg #[.int .i64 n, v]
/-- Its box. -/
def Box2 (W : World) (B n : Nat) (v : Value) : Prop := W.heap[B]? = some (.cells #[.int .i64 n, v] 30 (0, 0))
theorem Box2.lt {W : World} {B n : Nat} {v : Value} (h : Box2 W B n v) : B < W.heap.size := (Array.getElem?_eq_some_iff.1 h).1
theorem Box2.c0 {W : World} {B n : Nat} {v : Value} (h : Box2 W B n v) : W.cell? ⟨B, 0, none⟩ = some (.int .i64 n) := by simp [World.cell?, show W.heap[B]? = _ from h]
theorem Box2.c1 {W : World} {B n : Nat} {v : Value} (h : Box2 W B n v) : W.cell? ⟨B, 1, none⟩ = some v := by simp [World.cell?, show W.heap[B]? = _ from h]
theorem Box2.f0 {W : World} {B n : Nat} {v : Value} (h : Box2 W B n v) : W.frozen? ⟨B, 0, none⟩ = false := by simp [World.frozen?, show W.heap[B]? = _ from h]
theorem Box2.f1 {W : World} {B n : Nat} {v : Value} (h : Box2 W B n v) : W.frozen? ⟨B, 1, none⟩ = false := by simp [World.frozen?, show W.heap[B]? = _ from h]
theorem Box2.new (W : World) (n : Nat) (v : Value) : Box2 (W.alloc (.cells #[.int .i64 n, v] 30)) W.heap.size n v := World.alloc_heap_new W _
theorem Box2.below {W W' : World} {B n : Nat} {v : Value} (h : Box2 W B n v) (hb : Below W.heap.size W W') : Box2 W' B n v := (hb.block B h.lt).trans h
theorem Box2.alloc {W : World} {B n : Nat} {v : Value} (h : Box2 W B n v) (o : Obj) : Box2 (W.alloc o) B n v := h.below ((Below.refl _ _).alloc (Nat.le_refl _) o)
theorem Box2.drew {W : World} {B n : Nat} {v : Value} (h : Box2 W B n v) : Box2 W.drew B n v := h

set_option maxHeartbeats 1000000 in
theorem refHas_any (n : Nat) (v : Value) (l : List Nat) (i : Int) (w : World) (h : NSl w v l) (hl : l.length ≤ 2000000) :
    Calls Tryd.prog 20 #[RV n v, .int .i64 i] w fun e w' => e = .returned (.bool (lhas l i)) ∧ Below w.heap.size w w' := by
  have hb0 : Below w.heap.size w (w.alloc (.cells #[.int .i64 n, v] 30)) := (Below.refl _ _).alloc (Nat.le_refl _) _
  have h0 := h.below hb0
  obtain ⟨a, cap, rfl, hc⟩ := h0
  have hx0 := Box2.new w n (.slice a l.length cap)
  clear h
  have HC := Lib.hid hc; have HX := Lib.hid hx0; have HB := Lib.hid hb0
  clear hc hx0 hb0
  have c1 := HX.out.c1
  generalize hm : l.length = m at *
  have HM := Lib.hid hm
  clear hm
  go_enter Tryd.func20, Tryd.ntmps20
  go_wp2_with fail
  generalize w.alloc (.cells #[.int .i64 n, .slice a m cap] 30) = W0 at *
  obtain ⟨B, hB⟩ : ∃ B, B = w.heap.size := ⟨_, rfl⟩
  have HBB := Lib.hid hB
  rw [← hB] at c1 ⊢
  clear hB
  go_loopw [5] (fun k wr => ∃ j : Nat, j ≤ m ∧ k = .int .i64 j ∧ Hid (lhas (l.take j) i = false) ∧ wr = W0) (fun k _ => m - (intOf k).toNat)
  case atStart => exact ⟨0, Nat.zero_le _, rfl, Lib.hid rfl, rfl⟩
  case round =>
    obtain ⟨j, hj, rfl, HL, rfl⟩ := hrel
    by_cases hlt : j < m
    · have hjl : j < l.length := by rw [HM.out]; exact hlt
      obtain ⟨b, rfl, hcj, _⟩ := HC.out j hlt
      have HT := Lib.hid (take_snoc l j hjl)
      have HQ := Lib.hid (split_at l j hjl)
      generalize l.getD j 0 = x at *
      cases hx : ((x : Int) == i)
      · have HXI := Lib.hid hx
        go_wp2_with fail
        exact ⟨⟨j + 1, by omega, by go_num, Lib.hid (by rw [HT.out, lhas_snoc, HL.out, HXI.out]; rfl), trivial⟩, by simp [intOf]; omega⟩
      · have HXI := Lib.hid hx
        have HR := Lib.hid (show lhas l i = true by rw [HQ.out]; simp only [lhas, List.any_append, List.any_cons, HXI.out]; simp)
        go_wp2_with fail
        go_ret
        exact ⟨by rw [HR.out]; rfl, HB.out⟩
    · have HR := Lib.hid (show lhas l i = false by have := HL.out; rwa [List.take_of_length_le (by rw [HM.out]; omega)] at this)
      go_wp2_with fail
      go_ret
      exact ⟨by rw [HR.out]; rfl, HB.out⟩
set_option maxHeartbeats 1000000 in
theorem refSame_any (v u : Value) (l m : List Nat) (w : World) (h : NSl w v l) (h' : NSl w u m) (hl : l.length ≤ 2000000) (hm : m.length ≤ 2000000) :
    Calls Tryd.prog 16 #[v, u] w fun e w' => e = .returned (.bool (l == m)) ∧ Below w.heap.size w w' := by
  obtain ⟨a, cap, rfl, hc⟩ := h
  obtain ⟨a', cap', rfl, hc'⟩ := h'
  have HC := Lib.hid hc; have HC' := Lib.hid hc'
  clear hc hc'
  by_cases hne : l.length = m.length
  · have HN := Lib.hid hne
    rw [← hne]
    have t0 : ((l.length : Int) != (l.length : Int)) = false := by simp
    generalize hq : l.length = k at *
    have HK := Lib.hid hq
    have HK' := Lib.hid hne
    clear hq hne
    go_enter Tryd.func16, Tryd.ntmps16
    go_wp2_with fail
    go_loopw [5] (fun i wr => ∃ j : Nat, j ≤ k ∧ i = .int .i64 j ∧ Hid (l.take j = m.take j) ∧ Below w.heap.size w wr) (fun i _ => k - (intOf i).toNat)
    case atStart => exact ⟨0, Nat.zero_le _, rfl, Lib.hid rfl, Below.refl _ _⟩
    case round =>
      obtain ⟨j, hj, rfl, HL, hb⟩ := hrel
      by_cases hlt : j < k
      · have hjl : j < l.length := by rw [HK.out]; exact hlt
        have hjm : j < m.length := by rw [← HK'.out]; exact hlt
        obtain ⟨b, rfl, hcj, _⟩ := HC.out j hlt
        obtain ⟨b', rfl, hcj', _⟩ := HC'.out j hjm
        have d1 := (hb.cell (p := ⟨b, j, none⟩) (World.block_lt_of_cell? _ _ hcj)).trans hcj
        have d2 := (hb.cell (p := ⟨b', j, none⟩) (World.block_lt_of_cell? _ _ hcj')).trans hcj'
        have hji : (j : Int) < (k : Int) := by omega
        have hj0 : (0 : Int) ≤ (j : Int) := by omega
        have HT := Lib.hid (take_snoc l j hjl)
        have HT' := Lib.hid (take_snoc m j hjm)
        have HE := Lib.hid (show l = m → l.getD j 0 = m.getD j 0 from fun e => by rw [e])
        generalize l.getD j 0 = x at *
        generalize m.getD j 0 = y at *
        have HBd := Lib.hid hb
        clear hb hcj hcj'
        by_cases hxy : x = y
        · subst hxy
          have t1 : ((x : Int) != (x : Int)) = false := by simp
          go_wp2_with fail
          go_quiet (fail)
          go_wp2_with fail
          exact ⟨⟨j + 1, by omega, by go_num, Lib.hid (by rw [HT.out, HT'.out, HL.out]), HBd.out.trans ⟨rfl, rfl, rfl, Nat.le_refl _, fun _ _ => rfl⟩⟩, by simp [intOf]; omega⟩
        · have t1 : ((x : Int) != (y : Int)) = true := by simp; omega
          have HR := Lib.hid (show (l == m) = false by rw [beq_eq_false_iff_ne]; exact fun e => hxy (HE.out e))
          clear hxy
          go_wp2_with fail
          go_quiet (fail)
          go_wp2_with fail
          go_ret
          exact ⟨by rw [HR.out]; rfl, HBd.out.trans ⟨rfl, rfl, rfl, Nat.le_refl _, fun _ _ => rfl⟩⟩
      · have HR := Lib.hid (show (l == m) = true by
          have := HL.out
          rw [List.take_of_length_le (by rw [HK.out]; omega), List.take_of_length_le (by rw [← HK'.out]; omega)] at this
          rw [this]; simp)
        go_wp2_with fail
        go_ret
        exact ⟨by rw [HR.out]; rfl, hb⟩
  · have HR := Lib.hid (show (l == m) = false by rw [beq_eq_false_iff_ne]; exact fun e => hne (by rw [e]))
    have t0 : ((l.length : Int) != (m.length : Int)) = true := by simp; omega
    clear hne
    generalize l.length = k at *
    generalize m.length = k' at *
    go_enter Tryd.func16, Tryd.ntmps16
    go_wp2_with fail
    go_ret
    exact ⟨by rw [HR.out]; rfl, Below.refl _ _⟩
end Go.Proofs.YtgmeomhddpmpbaaDoor.BitsW
