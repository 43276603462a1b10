/- Walks: Copy. -/
import Derived.Test.YtogdjgfgmdphgaaDoorLies
import Derived.Laws.OwnMore
import Derived.RangeFuncBox
namespace Go.Proofs.YtogdjgfgmdphgaaDoor.TreeW
set_option linter.unusedVariables false
open Go.RowKit Go.Proofs.YtogdjgfgmdphgaaDoor.TreeM

/-- Block b is open: N cells of nodes, none frozen. -/
def Open (W : World) (b N : Nat) : Prop := ∃ cur, W.heap[b]? = some (.cells cur 28 (0, 0)) ∧ cur.size = N
theorem Open.lt {W : World} {b N : Nat} (h : Open W b N) : b < W.heap.size := by obtain ⟨c, h, _⟩ := h; exact (Array.getElem?_eq_some_iff.1 h).1
theorem Open.frozen {W : World} {b N : Nat} (h : Open W b N) (o : Nat) : W.frozen? ⟨b, o, none⟩ = false := by
  obtain ⟨c, h, _⟩ := h; simp [World.frozen?, h]
theorem Open.cell {W : World} {b N : Nat} (h : Open W b N) (o : Nat) (ho : o < N) : ∃ u, W.cell? ⟨b, o, none⟩ = some u := by
  obtain ⟨c, h, hs⟩ := h
  exact ⟨c[o]'(by omega), by simp [World.cell?, h]⟩
theorem Open.new (w : World) (n : Nd) (v : Value) : Open (w.alloc (.cells #[.int .i64 n.K, .int .u64 n.a, .int .u64 n.b, .int .u64 n.c, .int .u64 n.d, v, .int .i64 n.L, .int .i64 n.H] 28)) w.heap.size 8 := ⟨_, World.alloc_heap_new w _, rfl⟩
theorem Open.grown {W W' : World} {b N : Nat} (h : Open W b N) {row : Option Nat} (hg : W.grownBy W' row) (hne : some b ≠ row) : Open W' b N := by
  obtain ⟨c, h1, h2⟩ := h
  exact ⟨c, (hg.block b (Array.getElem?_eq_some_iff.1 h1).1 hne).trans h1, h2⟩
theorem Open.below {W W' : World} {b N m : Nat} (h : Open W b N) (hm : b < m) (hb : Below m W W') : Open W' b N := by
  obtain ⟨c, h1, h2⟩ := h
  exact ⟨c, (hb.block b hm).trans h1, h2⟩
theorem Open.set {W : World} {b N : Nat} (h : Open W b N) (c o : Nat) (v : Value) : Open (W.setCell ⟨c, o, none⟩ v) b N := by
  obtain ⟨cur, h1, h2⟩ := h
  by_cases e : b = c
  · subst e
    obtain ⟨hlt, hk⟩ := Array.getElem?_eq_some_iff.1 h1
    refine ⟨cur.setIfInBounds o v, ?_, by simpa using h2⟩
    show (W.heap.modify b _)[b]? = _
    rw [Array.getElem?_eq_getElem (by rw [Array.size_modify]; exact hlt), Array.getElem_modify_self, hk]
    rfl
  · exact ⟨cur, (Below.heap_setCell W ⟨c, o, none⟩ v b e).trans h1, h2⟩

/-- A node stored. -/
abbrev put8 (W : World) (g o : Nat) (n : Nd) (v : Value) : World :=
  (((((((W.setCell ⟨g, o, none⟩ (.int .i64 n.K)).setCell ⟨g, o + 1, none⟩ (.int .u64 n.a)).setCell ⟨g, o + 2, none⟩ (.int .u64 n.b)).setCell ⟨g, o + 3, none⟩ (.int .u64 n.c)).setCell ⟨g, o + 4, none⟩ (.int .u64 n.d)).setCell ⟨g, o + 5, none⟩ v).setCell ⟨g, o + 6, none⟩ (.int .i64 n.L)).setCell ⟨g, o + 7, none⟩ (.int .i64 n.H)
theorem cell_set' (W : World) (B i j : Nat) (v : Value) (h : i ≠ j) : (W.setCell ⟨B, i, none⟩ v).cell? ⟨B, j, none⟩ = W.cell? ⟨B, j, none⟩ :=
  World.cell?_setCell_other W ⟨B, i, none⟩ ⟨B, j, none⟩ v (fun e => h (by injection e))
theorem cell_off (W : World) (B C i j : Nat) (v : Value) (h : B ≠ C) : (W.setCell ⟨B, i, none⟩ v).cell? ⟨C, j, none⟩ = W.cell? ⟨C, j, none⟩ :=
  World.cell?_setCell_other W ⟨B, i, none⟩ ⟨C, j, none⟩ v (fun e => h (by injection e))
theorem cell_same (W : World) {b N : Nat} (h : Open W b N) (o : Nat) (ho : o < N) (v : Value) : (W.setCell ⟨b, o, none⟩ v).cell? ⟨b, o, none⟩ = some v := by
  obtain ⟨u, hu⟩ := h.cell o ho
  exact World.cell?_setCell_same _ _ _ hu
theorem Open.put8 {W : World} {b N : Nat} (h : Open W b N) (g o : Nat) (n : Nd) (v : Value) : Open (put8 W g o n v) b N := by
  refine Open.set ?_ _ _ _; refine Open.set ?_ _ _ _; refine Open.set ?_ _ _ _; refine Open.set ?_ _ _ _; refine Open.set ?_ _ _ _; refine Open.set ?_ _ _ _; refine Open.set ?_ _ _ _; exact h.set _ _ _
theorem put8_off (W : World) (g o : Nat) (n : Nd) (v : Value) (c p : Nat) (h : g ≠ c) : (put8 W g o n v).cell? ⟨c, p, none⟩ = W.cell? ⟨c, p, none⟩ := by
  rw [cell_off _ _ _ _ _ _ h, cell_off _ _ _ _ _ _ h, cell_off _ _ _ _ _ _ h, cell_off _ _ _ _ _ _ h, cell_off _ _ _ _ _ _ h, cell_off _ _ _ _ _ _ h, cell_off _ _ _ _ _ _ h, cell_off _ _ _ _ _ _ h]
theorem put8_apart (W : World) (g o : Nat) (n : Nd) (v : Value) (p : Nat) (h : p < o ∨ o + 8 ≤ p) : (put8 W g o n v).cell? ⟨g, p, none⟩ = W.cell? ⟨g, p, none⟩ := by
  rw [cell_set' _ _ _ _ _ (by omega), cell_set' _ _ _ _ _ (by omega), cell_set' _ _ _ _ _ (by omega), cell_set' _ _ _ _ _ (by omega), cell_set' _ _ _ _ _ (by omega), cell_set' _ _ _ _ _ (by omega), cell_set' _ _ _ _ _ (by omega), cell_set' _ _ _ _ _ (by omega)]
theorem put8_node {W : World} {g N : Nat} (h : Open W g N) (o : Nat) (ho : o + 8 ≤ N) (n : Nd) (v : Value) : NodeAt (put8 W g o n v) g o n v := by
  have h0 := h.set g o (.int .i64 n.K)
  have h1 := h0.set g (o + 1) (.int .u64 n.a)
  have h2 := h1.set g (o + 2) (.int .u64 n.b)
  have h3 := h2.set g (o + 3) (.int .u64 n.c)
  have h4 := h3.set g (o + 4) (.int .u64 n.d)
  have h5 := h4.set g (o + 5) v
  have h6 := h5.set g (o + 6) (.int .i64 n.L)
  refine ⟨?_, ?_, ?_, ?_, ?_, ?_, ?_, ?_⟩
  · rw [cell_set' _ _ _ _ _ (by omega), cell_set' _ _ _ _ _ (by omega), cell_set' _ _ _ _ _ (by omega), cell_set' _ _ _ _ _ (by omega), cell_set' _ _ _ _ _ (by omega), cell_set' _ _ _ _ _ (by omega), cell_set' _ _ _ _ _ (by omega)]
    exact cell_same _ h _ (by omega) _
  · rw [cell_set' _ _ _ _ _ (by omega), cell_set' _ _ _ _ _ (by omega), cell_set' _ _ _ _ _ (by omega), cell_set' _ _ _ _ _ (by omega), cell_set' _ _ _ _ _ (by omega), cell_set' _ _ _ _ _ (by omega)]
    exact cell_same _ h0 _ (by omega) _
  · rw [cell_set' _ _ _ _ _ (by omega), cell_set' _ _ _ _ _ (by omega), cell_set' _ _ _ _ _ (by omega), cell_set' _ _ _ _ _ (by omega), cell_set' _ _ _ _ _ (by omega)]
    exact cell_same _ h1 _ (by omega) _
  · rw [cell_set' _ _ _ _ _ (by omega), cell_set' _ _ _ _ _ (by omega), cell_set' _ _ _ _ _ (by omega), cell_set' _ _ _ _ _ (by omega)]
    exact cell_same _ h2 _ (by omega) _
  · rw [cell_set' _ _ _ _ _ (by omega), cell_set' _ _ _ _ _ (by omega), cell_set' _ _ _ _ _ (by omega)]
    exact cell_same _ h3 _ (by omega) _
  · rw [cell_set' _ _ _ _ _ (by omega), cell_set' _ _ _ _ _ (by omega)]
    exact cell_same _ h4 _ (by omega) _
  · rw [cell_set' _ _ _ _ _ (by omega)]
    exact cell_same _ h5 _ (by omega) _
  · exact cell_same _ h6 _ (by omega) _
theorem below_put8 {m : Nat} {w W : World} {g : Nat} (hb : Below m w W) (h : m ≤ g) (o : Nat) (n : Nd) (v : Value) : Below m w (put8 W g o n v) :=
  (((((((hb.setCell (p := ⟨g, o, none⟩) h _).setCell (p := ⟨g, o + 1, none⟩) h _).setCell (p := ⟨g, o + 2, none⟩) h _).setCell (p := ⟨g, o + 3, none⟩) h _).setCell (p := ⟨g, o + 4, none⟩) h _).setCell (p := ⟨g, o + 5, none⟩) h _).setCell (p := ⟨g, o + 6, none⟩) h _).setCell (p := ⟨g, o + 7, none⟩) h _
theorem NodeAt.off {W : World} {c p : Nat} {n' : Nd} {v' : Value} (h : NodeAt W c p n' v') {g : Nat} (hne : g ≠ c) (o : Nat) (n : Nd) (v : Value) : NodeAt (put8 W g o n v) c p n' v' := h.keep fun q => put8_off _ _ _ _ _ _ _ hne
theorem NodeAt.apart {W : World} {g p : Nat} {n' : Nd} {v' : Value} (h : NodeAt W g p n' v') (o : Nat) (hne : p + 8 ≤ o) (n : Nd) (v : Value) : NodeAt (put8 W g o n v) g p n' v' :=
  ⟨(put8_apart _ _ _ _ _ _ (by omega)).trans h.c0, (put8_apart _ _ _ _ _ _ (by omega)).trans h.c1, (put8_apart _ _ _ _ _ _ (by omega)).trans h.c2, (put8_apart _ _ _ _ _ _ (by omega)).trans h.c3,
   (put8_apart _ _ _ _ _ _ (by omega)).trans h.c4, (put8_apart _ _ _ _ _ _ (by omega)).trans h.c5, (put8_apart _ _ _ _ _ _ (by omega)).trans h.c6, (put8_apart _ _ _ _ _ _ (by omega)).trans h.c7⟩
theorem Lies.off {lo hi : Nat} {w : World} {u : Value} {l : List Tr} (h : Lies lo hi w u l) {g : Nat} (hne : g < lo ∨ hi ≤ g) (o : Nat) (n : Nd) (v : Value) : Lies lo hi (put8 w g o n v) u l :=
  h.keep fun b p h1 h2 => put8_off _ _ _ _ _ _ _ (by omega)
theorem LiesS.off {S : Nat → Prop} {w : World} {u : Value} {l : List Tr} (h : LiesS S w u l) {g : Nat} (hne : ¬ S g) (o : Nat) (n : Nd) (v : Value) : LiesS S (put8 w g o n v) u l :=
  h.keep (fun _ h => h) fun b p h1 => put8_off _ _ _ _ _ _ _ (fun e => hne (e ▸ h1))
theorem size_put8 (W : World) (g o : Nat) (n : Nd) (v : Value) : (put8 W g o n v).heap.size = W.heap.size := by simp [World.setCell]

theorem infoNode : (Tryd.prog.info? 28).map (fun i => (i.zero, i.size, i.bytes)) = some (some (NV zero (.slice none 0 0)), 8, 80) := by kernel_rfl
theorem info_parts' {t : TypeId} {z : Value} {s b : Nat} (h : (Tryd.prog.info? t).map (fun i => (i.zero, i.size, i.bytes)) = some (some z, s, b)) : ∃ i, Tryd.prog.info? t = some i ∧ i.zero = some z ∧ i.size = s ∧ i.bytes = b := by
  cases hi : Tryd.prog.info? t with
  | none => rw [hi] at h; cases h
  | some i => rw [hi] at h; simp at h; exact ⟨i, rfl, h.1, h.2.1, h.2.2⟩
/-- A copy was returned. -/
def IsCopy (n : Nd) (l : List Tr) (w : World) (e : Ending) (w' : World) : Prop := ∃ a' cap', e = .returned (NV n (.slice a' l.length cap')) ∧ Lies w.heap.size w'.heap.size w' (.slice a' l.length cap') l ∧ Below w.heap.size w w'
/-- The row of copies. -/
def Row (g : Nat) (l : List Tr) (k : Nat) (W : World) : Prop := ∃ vs : Nat → Value, ∀ j (h : j < l.length), j < k → NodeAt W g (j * 8) l[j].nd (vs j) ∧ Lies (g + 1) W.heap.size W (vs j) l[j].kids
theorem Row.next {g : Nat} {l : List Tr} {k : Nat} {W : World} (hk : k < l.length) (h : Row g l k W) {n : Nd} {v : Value} (hO : Open W g (l.length * 8)) (hn : l[k].nd = n) (hL : Lies (g + 1) W.heap.size W v l[k].kids) : Row g l (k + 1) (put8 W g (k * 8) n v) := by
  obtain ⟨vs, hv⟩ := h
  refine ⟨fun j => if j = k then v else vs j, fun j hj h1 => ?_⟩
  rw [size_put8]
  by_cases e : j = k
  · subst e
    dsimp only
    rw [if_pos rfl, hn]
    exact ⟨put8_node hO _ (by omega) _ _, hL.off (.inl (by omega)) _ _ _⟩
  · dsimp only
    rw [if_neg e]
    obtain ⟨h2, h3⟩ := hv j hj (by omega)
    exact ⟨h2.apart _ (by omega) _ _, h3.off (.inl (by omega)) _ _ _⟩
theorem Row.below {g : Nat} {l : List Tr} {k : Nat} {W W' : World} (h : Row g l k W) (hg : g < W.heap.size) (hb : Below W.heap.size W W') : Row g l k W' := by
  obtain ⟨vs, hv⟩ := h
  exact ⟨vs, fun j hj h1 => ⟨(hv j hj h1).1.below hg hb, (hv j hj h1).2.grow hb⟩⟩
theorem Row.lies {g : Nat} {l : List Tr} {W : World} {lo cap : Nat} (h : Row g l l.length W) (h0 : 0 < l.length) (hlo : lo ≤ g) (hg : g < W.heap.size) (hmx : l.length ≤ maxLen) : Lies lo W.heap.size W (.slice (some ⟨g, 0, none⟩) l.length l.length) l := by
  obtain ⟨vs, hv⟩ := h
  exact .cons g 0 l.length l vs h0 (Nat.le_refl _) hmx hlo hg (fun i hi => by rw [Nat.zero_add]; exact (hv i hi hi).1) (fun i hi => (hv i hi hi).2.mono (by omega) (Nat.le_refl _))
/-- What is said of Copy, at trees of up to m nodes. -/
def CopyTo (m : Nat) : Prop := ∀ (n : Nd) (l : List Tr) (a : Option Addr) (cap : Nat) (w : World), sizeL l + 1 ≤ m → l.length ≤ 2199023255552 → mxL l ≤ 2199023255552 → Lies 0 w.heap.size w (.slice a l.length cap) l →
    Calls Tryd.prog 12 #[NV n (.slice a l.length cap)] w (IsCopy n l w)
set_option maxHeartbeats 2000000 in
theorem Copy_to : ∀ m, CopyTo m := by
  intro m
  induction m with
  | zero => intro n l a cap w h; exact absurd h (by omega)
  | succ m ih =>
    intro n l a cap w hm hmx hmy hL
    have IH := Lib.hid ih; clear ih
    have HL := Lib.hid hL; clear hL
    obtain ⟨B, hB⟩ : ∃ B, B = w.heap.size := ⟨_, rfl⟩
    have HB := Lib.hid hB; clear hB
    have hb0 := ((Below.refl w.heap.size w).alloc (Nat.le_refl _) (.cells #[.int .i64 n.K, .int .u64 n.a, .int .u64 n.b, .int .u64 n.c, .int .u64 n.d, .slice a l.length cap, .int .i64 n.L, .int .i64 n.H] 28)).alloc (by simp) (.cells #[.int .i64 0, .int .u64 0, .int .u64 0, .int .u64 0, .int .u64 0, .slice none 0 0, .int .i64 0, .int .i64 0] 28)
    have hN0 := (NodeAt.new w n (.slice a l.length cap) 28).below (by simp) ((Below.refl _ _).alloc (Nat.le_refl _) (.cells #[.int .i64 0, .int .u64 0, .int .u64 0, .int .u64 0, .int .u64 0, .slice none 0 0, .int .i64 0, .int .i64 0] 28))
    have hO0 := (Open.new w n (.slice a l.length cap)).below (by simp) ((Below.refl _ _).alloc (Nat.le_refl _) (.cells #[.int .i64 0, .int .u64 0, .int .u64 0, .int .u64 0, .int .u64 0, .slice none 0 0, .int .i64 0, .int .i64 0] 28))
    have hO1 := Open.new (w.alloc (.cells #[.int .i64 n.K, .int .u64 n.a, .int .u64 n.b, .int .u64 n.c, .int .u64 n.d, .slice a l.length cap, .int .i64 n.L, .int .i64 n.H] 28)) zero (.slice none 0 0)
    change Open ((w.alloc (.cells #[.int .i64 n.K, .int .u64 n.a, .int .u64 n.b, .int .u64 n.c, .int .u64 n.d, .slice a l.length cap, .int .i64 n.L, .int .i64 n.H] 28)).alloc (.cells #[.int .i64 0, .int .u64 0, .int .u64 0, .int .u64 0, .int .u64 0, .slice none 0 0, .int .i64 0, .int .i64 0] 28)) _ _ at hO1
    rw [World.size_alloc] at hO1
    have hs0 : ((w.alloc (.cells #[.int .i64 n.K, .int .u64 n.a, .int .u64 n.b, .int .u64 n.c, .int .u64 n.d, .slice a l.length cap, .int .i64 n.L, .int .i64 n.H] 28)).alloc (.cells #[.int .i64 0, .int .u64 0, .int .u64 0, .int .u64 0, .int .u64 0, .slice none 0 0, .int .i64 0, .int .i64 0] 28)).heap.size = w.heap.size + 2 := by simp
    by_cases h0 : 0 < l.length
    · have HB0 := Lib.hid hb0; have HN0 := Lib.hid hN0; have HO0 := Lib.hid hO0; have HO1 := Lib.hid hO1; have HS0 := Lib.hid hs0
      clear hb0 hN0 hO0 hO1 hs0
      go_enter Tryd.func12, Tryd.ntmps12
      go_wp2_with fail
      have hb0 := HB0.out; have hN0 := HN0.out; have hO0 := HO0.out; have hO1 := HO1.out; have hs0 := HS0.out
      clear HB0 HN0 HO0 HO1 HS0
      rw [← HB.out] at hN0 hO0 hO1 hs0 ⊢
      generalize ((w.alloc (.cells #[.int .i64 n.K, .int .u64 n.a, .int .u64 n.b, .int .u64 n.c, .int .u64 n.d, .slice a l.length cap, .int .i64 n.L, .int .i64 n.H] 28)).alloc (.cells #[.int .i64 0, .int .u64 0, .int .u64 0, .int .u64 0, .int .u64 0, .slice none 0 0, .int .i64 0, .int .i64 0] 28)) = W0 at *
      obtain ⟨i0, hi, hz0, hz1, hz2⟩ := info_parts' infoNode
      obtain ⟨wm, hmk, hown, hgr⟩ := run_make_full (P := Tryd.prog) W0 w.heap.size 26 28 i0 (NV zero (.slice none 0 0)) 8 Tryd.underlying26 hi hz0 hz1 .i64 .i64 l.length (by rw [hz2]; omega) (by unfold maxLen; omega) hb0.size
      have hgO : Open wm (B + 2) (l.length * 8) := by
        rcases hown.2 with ⟨h1, _⟩ | ⟨g, cp, cur, h1, _, h2, _, _, h3, _⟩
        · cases h1
        · simp only [Value.slice.injEq, Option.some.injEq, Addr.mk.injEq] at h1
          obtain ⟨⟨rfl, _, _⟩, _, rfl⟩ := h1
          rw [hs0] at h2
          exact ⟨cur, h2, h3⟩
      rw [hs0] at hmk
      have hgb : Below W0.heap.size W0 wm := (Below.refl _ _).grown hgr (Nat.le_refl _) (fun k e => by cases e)
      have hN1 := hN0.below hN0.lt hgb
      have hOB := hO0.below hO0.lt hgb
      have hOR := hO1.below hO1.lt hgb
      have hb1 := hb0.trans (hgb.mono hb0.size)
      clear hb0 hN0 hO0 hO1 hown hgr hgb hi hz0 hz1 hz2
      have c5 := hN1.c5
      have HB1 := Lib.hid hb1; have HN1 := Lib.hid hN1; have HOB := Lib.hid hOB; have HOR := Lib.hid hOR; have HOG := Lib.hid hgO; have HS0 := Lib.hid hs0
      clear hb1 hN1 hOB hOR hgO hs0
      rw [hmk]
      clear hmk
      simp only [Result.andThen_ok]
      go_wp2_with fail
      go_loopw [17] (fun i wr => ∃ k : Nat, k ≤ l.length ∧ i = .int .i64 k ∧ NodeAt wr B 0 n (.slice a l.length cap) ∧ (Open wr B 8 ∧ Open wr (B + 1) 8 ∧ Open wr (B + 2) (l.length * 8)) ∧ Row (B + 2) l k wr ∧ Below w.heap.size w wr) (fun i _ => l.length - (intOf i).toNat)
      case atStart => exact ⟨0, Nat.zero_le _, rfl, HN1.out, ⟨HOB.out, HOR.out, HOG.out⟩, ⟨fun _ => undef, fun j _ h => by omega⟩, HB1.out⟩
      case round =>
        obtain ⟨k, hk, rfl, hN, ⟨hO0, hO1, hO2⟩, hR, hb⟩ := hrel
        clear c5 HB1 HN1 HOB HOR HOG
        by_cases hlt : k < l.length
        · obtain ⟨b, o, ak, capk, rfl, -, h1, h2, h3, h4, hA, hK⟩ := HL.out.at k hlt
          have hA2 := hA.below h4 hb
          have HT := Lib.hid (size_at l k hlt)
          have HZ := Lib.hid (size_kids l[k])
          have HM := Lib.hid (mx_at l k hlt); have HMZ := Lib.hid (mx_kids l[k])
          have HK := Lib.hid (hK.under hb)
          have hz := hb.size
          have HNX := Lib.hid (fun (W : World) (v : Value) (h : Row (B + 2) l k W) (hO : Open W (B + 2) (l.length * 8)) (hL : Lies (B + 2 + 1) W.heap.size W v l[k].kids) => h.next hlt hO (n := l[k].nd) (v := v) rfl hL)
          generalize l[k] = tk at *
          generalize hlk : tk.kids = lk at *
          generalize hnk : tk.nd = nk at *
          clear hlk hnk hA hK
          have d0 := hA2.c0; have d1 := hA2.c1; have d2 := hA2.c2; have d3 := hA2.c3; have d4 := hA2.c4; have d5 := hA2.c5; have d6 := hA2.c6; have d7 := hA2.c7
          have hx := (Below.refl wr.heap.size wr).alloc (Nat.le_refl _) (.cells #[.int .i64 nk.K, .int .u64 nk.a, .int .u64 nk.b, .int .u64 nk.c, .int .u64 nk.d, .slice ak lk.length capk, .int .i64 nk.L, .int .i64 nk.H] 28)
          have HX := Lib.hid hx; clear hx
          have HC := Lib.hid (IH.out nk lk ak capk _ (by have := HT.out; have := HZ.out; omega) (by have := HM.out; have := HMZ.out; omega) (by have := HM.out; have := HMZ.out; omega) ((HK.out.mono (Nat.le_refl _) hz).grow HX.out))
          have HN := Lib.hid hN; have HO0 := Lib.hid hO0; have HO1 := Lib.hid hO1; have HO2 := Lib.hid hO2; have HR := Lib.hid hR
          clear hN hO0 hO1 hO2 hR
          go_wp2_with fail
          refine HC.out.mono ?_
          rintro e w1 ⟨ac, capc, rfl, hLc, hb1⟩
          have hbw := HX.out.trans (hb1.mono HX.out.size)
          have hsz : wr.heap.size + 1 ≤ w1.heap.size := by have := hb1.size; simp at this; omega
          have hLw := hLc.mono (lo' := B + 2 + 1) (hi' := w1.heap.size) (by have := HO2.out.lt; simp; omega) (Nat.le_refl _)
          have hN1 := HN.out.below HN.out.lt hbw
          have hO0 := HO0.out.below HO0.out.lt hbw
          have hO1 := HO1.out.below HO1.out.lt hbw
          have hO2 := HO2.out.below HO2.out.lt hbw
          have hR1 := HR.out.below HO2.out.lt hbw
          have hb2 := hb.trans (hbw.mono hz)
          have HRN := Lib.hid (HNX.out w1 _ hR1 hO2 hLw)
          clear hb1 hLc hbw HX HC d0 d1 d2 d3 d4 d5 d6 d7 hA2 hLw hR1
          obtain ⟨u0, e0⟩ := hO2.cell (k * 8) (by omega)
          obtain ⟨u1, e1⟩ := hO2.cell (k * 8 + 1) (by omega)
          obtain ⟨u2, e2⟩ := hO2.cell (k * 8 + 2) (by omega)
          obtain ⟨u3, e3⟩ := hO2.cell (k * 8 + 3) (by omega)
          obtain ⟨u4', e4⟩ := hO2.cell (k * 8 + 4) (by omega)
          obtain ⟨u5', e5⟩ := hO2.cell (k * 8 + 5) (by omega)
          obtain ⟨u6, e6⟩ := hO2.cell (k * 8 + 6) (by omega)
          obtain ⟨u7, e7⟩ := hO2.cell (k * 8 + 7) (by omega)
          have z0 := hO2.frozen (k * 8); have z1 := hO2.frozen (k * 8 + 1); have z2 := hO2.frozen (k * 8 + 2); have z3 := hO2.frozen (k * 8 + 3)
          have z4 := hO2.frozen (k * 8 + 4); have z5 := hO2.frozen (k * 8 + 5); have z6 := hO2.frozen (k * 8 + 6); have z7 := hO2.frozen (k * 8 + 7)
          have HN1 := Lib.hid hN1; have HP0 := Lib.hid hO0; have HP1 := Lib.hid hO1; have HP2 := Lib.hid hO2
          clear hN1 hO0 hO1 hO2
          go_wp2_with fail
          refine ⟨⟨k + 1, by omega, by go_num, HN1.out.off (by omega) _ _ _, ⟨HP0.out.put8 _ _ _ _, HP1.out.put8 _ _ _ _, HP2.out.put8 _ _ _ _⟩, HRN.out, below_put8 hb2 (by rw [HB.out]; omega) _ _ _⟩, by simp [intOf]; omega⟩
        · obtain rfl : k = l.length := by omega
          have hz := hb.size
          have hLr := hR.lies (lo := B + 2) (cap := 0) h0 (Nat.le_refl _) hO2.lt (by unfold maxLen; omega)
          have HLr := Lib.hid hLr; have HR := Lib.hid hR
          clear hLr hR
          have c0 := hN.c0; have c1 := hN.c1; have c2 := hN.c2; have c3 := hN.c3; have c4 := hN.c4; have c5 := hN.c5; have c6 := hN.c6; have c7 := hN.c7
          have y5 := hO0.frozen 5
          obtain ⟨u0, e0⟩ := hO1.cell 0 (by omega)
          obtain ⟨u1, e1⟩ := hO1.cell 1 (by omega)
          obtain ⟨u2, e2⟩ := hO1.cell 2 (by omega)
          obtain ⟨u3, e3⟩ := hO1.cell 3 (by omega)
          obtain ⟨u4', e4⟩ := hO1.cell 4 (by omega)
          obtain ⟨u5', e5⟩ := hO1.cell 5 (by omega)
          obtain ⟨u6, e6⟩ := hO1.cell 6 (by omega)
          obtain ⟨u7, e7⟩ := hO1.cell 7 (by omega)
          have z0 := hO1.frozen 0; have z1 := hO1.frozen 1; have z2 := hO1.frozen 2; have z3 := hO1.frozen 3
          have z4 := hO1.frozen 4; have z5 := hO1.frozen 5; have z6 := hO1.frozen 6; have z7 := hO1.frozen 7
          have HO1 := Lib.hid hO1; have HO2 := Lib.hid hO2
          clear hO0 hO1 hO2
          go_wp2_with fail
          have hq := put8_node (HO1.out.set B 5 (.slice (some ⟨B + 2, 0, none⟩) l.length l.length)) 0 (by omega) n (.slice (some ⟨B + 2, 0, none⟩) l.length l.length)
          have hlast : Lies w.heap.size (put8 (wr.setCell ⟨B, 5, none⟩ (.slice (some ⟨B + 2, 0, none⟩) l.length l.length)) (B + 1) 0 n (.slice (some ⟨B + 2, 0, none⟩) l.length l.length)).heap.size
              (put8 (wr.setCell ⟨B, 5, none⟩ (.slice (some ⟨B + 2, 0, none⟩) l.length l.length)) (B + 1) 0 n (.slice (some ⟨B + 2, 0, none⟩) l.length l.length)) (.slice (some ⟨B + 2, 0, none⟩) l.length l.length) l := by
            refine Lies.mono (Lies.off (HLr.out.keep fun b p h1 h2 => cell_off _ _ _ _ _ _ (by omega)) (.inl (by omega)) _ _ _) (by rw [← HB.out]; omega) ?_
            rw [size_put8]; simp [World.setCell]
          have hbl : Below w.heap.size w (put8 (wr.setCell ⟨B, 5, none⟩ (.slice (some ⟨B + 2, 0, none⟩) l.length l.length)) (B + 1) 0 n (.slice (some ⟨B + 2, 0, none⟩) l.length l.length)) :=
            below_put8 (hb.setCell (p := ⟨B, 5, none⟩) (by rw [HB.out]; exact Nat.le_refl _) _) (by rw [HB.out]; omega) _ _ _
          exact bodyPost_ret (v := NV n (.slice (some ⟨B + 2, 0, none⟩) l.length l.length)) (by simp [results, Tryd.results12, go_sem, hq.c0, hq.c1, hq.c2, hq.c3, hq.c4, hq.c5, hq.c6, hq.c7]) rfl ⟨_, _, rfl, hlast, hbl⟩
    · obtain rfl : l = [] := by
        cases l with
        | nil => rfl
        | cons t r => simp at h0
      have HB0 := Lib.hid hb0; have HN0 := Lib.hid hN0; have HO0 := Lib.hid hO0; have HO1 := Lib.hid hO1; have HS0 := Lib.hid hs0
      clear hb0 hN0 hO0 hO1 hs0
      simp only [List.length_nil] at *
      go_enter Tryd.func12, Tryd.ntmps12
      go_wp2_with fail
      refine wp_loop_rounds 1 ?_
      rw [rounds_succ]
      go_wp2_with fail
      exact bodyPost_ret (v := NV n (.slice none 0 0)) (by simp [results, Tryd.results12, go_sem]) rfl ⟨none, 0, rfl, .nil _ _ (fun _ => rfl), ((Below.refl _ _).alloc (Nat.le_refl _) _).alloc (by simp) _⟩
/-- A tree was returned; what lay, lies as it lay. -/
def Made (n : Nd) (l : List Tr) (w : World) (e : Ending) (w' : World) : Prop := ∃ a' cap', e = .returned (NV n (.slice a' l.length cap')) ∧ Lies 0 w'.heap.size w' (.slice a' l.length cap') l ∧ Below w.heap.size w w'
theorem IsCopy.made {n : Nd} {l : List Tr} {w : World} {e : Ending} {w' : World} (h : IsCopy n l w e w') : Made n l w e w' := by
  obtain ⟨a, c, h1, h2, h3⟩ := h
  exact ⟨a, c, h1, h2.mono (Nat.zero_le _) (Nat.le_refl _), h3⟩
theorem Copy_any (n : Nd) (l : List Tr) (a : Option Addr) (cap : Nat) (w : World) (hmx : l.length ≤ 2199023255552) (hmy : mxL l ≤ 2199023255552) (hL : Lies 0 w.heap.size w (.slice a l.length cap) l) :
    Calls Tryd.prog 12 #[NV n (.slice a l.length cap)] w (Made n l w) := (Copy_to _ n l a cap w (Nat.le_refl _) hmx hmy hL).mono fun _ _ h => h.made
theorem LiesS.one {S : Nat → Prop} {w : World} {v : Value} {l : List Tr} {n : Nd} {b : Nat} (h : LiesS S w v l) (hn : NodeAt w b 0 n v) (h1 : S b) : LiesS S w (.slice (some ⟨b, 0, none⟩) 1 1) [.mk n l] :=
  .cons b 0 1 [.mk n l] (fun _ => v) (by simp) (by simp) (by unfold maxLen; omega) h1
    (fun i hh => by have e : i = 0 := by simpa using hh
                    subst e; exact hn) (fun i hh => by have e : i = 0 := by simpa using hh
                                                       subst e; exact h)
end Go.Proofs.YtogdjgfgmdphgaaDoor.TreeW
