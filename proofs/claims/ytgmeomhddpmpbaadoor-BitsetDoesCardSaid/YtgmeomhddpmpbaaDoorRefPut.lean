/- Walks of the document's sets: Meets, Put. -/
import Derived.Test.YtgmeomhddpmpbaaDoorRefWalk
namespace Go.Proofs.YtgmeomhddpmpbaaDoor.BitsW
set_option linter.unusedVariables false
open Go.RowKit Go.Shelf Go.Proofs.YtgmeomhddpmpbaaDoor.SetM

theorem Box2.not_row {W : World} {B n : Nat} {u : Value} (h : Box2 W B n u) {base size k : Nat} {v : Value} {xs : List Value} (hr : W.ownsRow base 3 size v k xs) : some B ≠ v.ownBlock := by
  rcases hr.2 with ⟨rfl, _⟩ | ⟨g, cap, cur, rfl, _, hgb, _⟩
  · simp [Value.ownBlock]
  · intro e'
    obtain rfl : B = g := by simpa [Value.ownBlock] using e'
    have := (show W.heap[B]? = _ from h).symm.trans hgb
    simp at this
theorem Box2.app {W w1 : World} {B n : Nat} {u : Value} (h : Box2 W B n u) {base size k : Nat} {v : Value} {xs : List Value} (hr : W.ownsRow base 3 size v k xs) {tmp : Obj} (hg : (W.alloc tmp).grownBy w1 v.ownBlock) : Box2 w1 B n u :=
  (hg.block B (h.alloc tmp).lt (h.not_row hr)).trans (h.alloc tmp)
theorem Box2.put {W : World} {B m : Nat} {u : Value} (h : Box2 W B m u) (n : Nat) (v : Value) : Box2 ((W.setCell ⟨B, 0, none⟩ (.int .i64 n)).setCell ⟨B, 1, none⟩ v) B n v := by
  obtain ⟨hlt, hk⟩ := Array.getElem?_eq_some_iff.1 h
  have h1 : (W.setCell ⟨B, 0, none⟩ (.int .i64 n)).heap[B]? = some (.cells #[.int .i64 n, u] 30 (0, 0)) := by
    show (W.heap.modify B _)[B]? = _
    rw [Array.getElem?_eq_getElem (by rw [Array.size_modify]; exact hlt), Array.getElem_modify_self, hk]
    rfl
  obtain ⟨hlt2, hk2⟩ := Array.getElem?_eq_some_iff.1 h1
  show ((W.setCell ⟨B, 0, none⟩ (.int .i64 n)).heap.modify B _)[B]? = _
  rw [Array.getElem?_eq_getElem (by rw [Array.size_modify]; exact hlt2), Array.getElem_modify_self, hk2]
  rfl
theorem below_put2 {W w : World} {base B : Nat} (h : Below base w W) (hB : base ≤ B) (x y : Value) : Below base w ((W.setCell ⟨B, 0, none⟩ x).setCell ⟨B, 1, none⟩ y) := (h.setCell (p := ⟨B, 0, none⟩) hB x).setCell (p := ⟨B, 1, none⟩) hB y
theorem below_app {W w1 w : World} {base size k : Nat} {e : TypeId} {v : Value} {xs : List Value} (hb : Below base w W) (hr : W.ownsRow base e size v k xs) (hsz : base ≤ W.heap.size) {tmp : Obj} (hg : (W.alloc tmp).grownBy w1 v.ownBlock) : Below base w w1 :=
  (hb.alloc hsz tmp).grown hg (Nat.le_trans hsz (by simp)) (fun k e => (World.ownsRow.lt hr k e).1)
theorem cell_one_new' (w : World) (u : Value) (e : TypeId) : ∀ (j : Nat) (x : Value), [u][j]? = some x → (w.alloc (.cells #[u] e)).cell? (Addr.add ⟨w.heap.size, 0, none⟩ j) = some x := cell_one_new w u e
/-- What the document's Put answers. -/
def PutR (w : World) (n : Nat) (v : Value) (l : List Nat) (i : Int) (e : Ending) (w' : World) : Prop :=
  ((inR n i && !lhas l i) = true ∧ ∃ v', e = .returned (.tuple #[RV n v', .bool true]) ∧ NSl w' v' (insL i.toNat l) ∧ Below w.heap.size w w') ∨
  ((inR n i && !lhas l i) = false ∧ e = .returned (.tuple #[RV n v, .bool false]) ∧ Below w.heap.size w w')
theorem room_ok {k : Nat} (h : k ≤ 1048577) : k + 1 ≤ maxLen ∧ (k + 1) * 8 ≤ 140737488355328 := by
  unfold maxLen; omega
set_option maxHeartbeats 2000000 in
theorem refPut_no (n : Nat) (v : Value) (l : List Nat) (i : Int) (w : World) (h : NSl w v l) (hl : l.length ≤ 1048576) (hn : (inR n i && !lhas l i) = false) :
    Calls Tryd.prog 9 #[RV n v, .int .i64 i] w (PutR w n v l i) := by
  have HN := Lib.hid hn
  have hb0 : Below w.heap.size w ((w.alloc (.cells #[.int .i64 n, v] 30)).alloc (.cells #[.int .i64 0, .slice none 0 0] 30)) := ((Below.refl _ _).alloc (Nat.le_refl _) _).alloc (by simp) _
  have h0 := h.below hb0
  have hx0 := (Box2.new w n v).alloc (.cells #[.int .i64 0, .slice none 0 0] 30)
  have hx1 := Box2.new (w.alloc (.cells #[.int .i64 n, v] 30)) 0 (.slice none 0 0)
  rw [World.size_alloc] at hx1
  obtain ⟨a, cap, rfl, _⟩ := h
  have HH := Lib.hid h0; have HX := Lib.hid hx0; have HY := Lib.hid hx1; have HB := Lib.hid hb0
  have hs0 := hb0.size
  have HHAS := Lib.hid (fun W (h : NSl W (.slice a l.length cap) l) => refHas_any n (.slice a l.length cap) l i W h (by omega))
  clear h0 hx0 hx1 hb0 hn
  generalize hm : l.length = m at *
  have c0 := HX.out.c0
  have c1 := HX.out.c1
  have d0 := HY.out.c0
  have d1 := HY.out.c1
  have f0 := HY.out.f0
  have f1 := HY.out.f1
  have HM := Lib.hid hm
  clear hm
  cases h1 : decide (i < 0)
  · cases h2 : decide ((n : Int) ≤ i)
    · have hlh : lhas l i = true := by
        have h3 := HN.out
        have : inR n i = true := by simp only [inR, Bool.and_eq_true, decide_eq_true_eq]; simp at h1 h2; omega
        rw [this] at h3
        simpa using h3
      have HLH := Lib.hid hlh
      clear hlh
      go_enter Tryd.func9, Tryd.ntmps9
      go_wp2_with fail
      generalize (w.alloc (.cells #[.int .i64 n, .slice a m cap] 30)).alloc (.cells #[.int .i64 0, .slice none 0 0] 30) = W0 at *
      refine (HHAS.out _ HH.out).mono ?_
      rintro e w1 ⟨rfl, hb1⟩
      rw [HLH.out]
      have hx1 := HX.out.below hb1
      have hy1 := HY.out.below hb1
      have hb2 := HB.out.trans (hb1.mono HB.out.size)
      clear c0 c1 d0 d1 f0 f1
      have c0 := hx1.c0
      have c1 := hx1.c1
      have d0 := hy1.c0
      have d1 := hy1.c1
      have f0 := hy1.f0
      have f1 := hy1.f1
      have HBB := Lib.hid hb2
      have HY' := Lib.hid hy1
      clear hx1 hy1 hb1 hb2
      go_wp2_with fail
      have q := HY'.out.put n (.slice a m cap)
      exact bodyPost_ret (v := .tuple #[RV n (.slice a m cap), .bool false]) (by simp [results, Tryd.results9, go_sem, q.c0, q.c1]) rfl (.inr ⟨HN.out, rfl, below_put2 HBB.out (by omega) _ _⟩)
    · go_enter Tryd.func9, Tryd.ntmps9
      go_wp2_with fail
      have q := (Box2.new (w.alloc (.cells #[.int .i64 n, .slice a m cap] 30)) n (.slice a m cap))
      rw [World.size_alloc] at q
      exact bodyPost_ret (v := .tuple #[RV n (.slice a m cap), .bool false]) (by simp [results, Tryd.results9, go_sem, q.c0, q.c1]) rfl (.inr ⟨HN.out, rfl, ((Below.refl _ _).alloc (Nat.le_refl _) _).alloc (by simp) _⟩)
  · go_enter Tryd.func9, Tryd.ntmps9
    go_wp2_with fail
    have q := (Box2.new (w.alloc (.cells #[.int .i64 n, .slice a m cap] 30)) n (.slice a m cap))
    rw [World.size_alloc] at q
    exact bodyPost_ret (v := .tuple #[RV n (.slice a m cap), .bool false]) (by simp [results, Tryd.results9, go_sem, q.c0, q.c1]) rfl (.inr ⟨HN.out, rfl, ((Below.refl _ _).alloc (Nat.le_refl _) _).alloc (by simp) _⟩)
theorem NSl.put {W : World} {B m : Nat} {u v x y : Value} {l : List Nat} (h : NSl W v l) (hy : Box2 W B m u) : NSl ((W.setCell ⟨B, 0, none⟩ x).setCell ⟨B, 1, none⟩ y) v l := by
  obtain ⟨a, cap, rfl, hc⟩ := h
  refine ⟨a, cap, rfl, fun j hj => ?_⟩
  obtain ⟨b, rfl, h2, cur, z, h5⟩ := hc j hj
  have hne : b ≠ B := by
    rintro rfl
    rw [show W.heap[b]? = _ from hy] at h5
    simp at h5
  have hh := (Below.heap_setCell (W.setCell ⟨B, 0, none⟩ x) ⟨B, 1, none⟩ y b hne).trans (Below.heap_setCell W ⟨B, 0, none⟩ x b hne)
  exact ⟨b, rfl, (World.cell?_of_block (a := ⟨b, j, none⟩) hh).trans h2, cur, z, hh.trans h5⟩
/-- What the rounds keep: the new row, both boxes, all that lay. -/
structure Rnd (w W : World) (B n m cap : Nat) (a : Option Addr) (u : Value) (L : List Nat) : Prop where
  own : W.ownsRow w.heap.size 3 1 u L.length (L.map i64)
  x : Box2 W B n (.slice a m cap)
  y : Box2 W (B + 1) 0 (.slice none 0 0)
  b : Below w.heap.size w W
theorem Rnd.app {w W w1 : World} {B n m cap : Nat} {a : Option Addr} {u v' : Value} {L : List Nat} {x : Nat} {tmp : Obj} (h : Rnd w W B n m cap a u L) (hg : (W.alloc tmp).grownBy w1 u.ownBlock)
    (ho : w1.ownsRow w.heap.size 3 1 v' (L.length + 1) (L.map i64 ++ [i64 x])) : Rnd w w1 B n m cap a v' (L ++ [x]) :=
  ⟨by rw [List.length_append, List.map_append]; exact ho, h.x.app h.own hg, h.y.app h.own hg, below_app h.b h.own h.b.size hg⟩
set_option maxHeartbeats 4000000 in
theorem refPut_yes (n k : Nat) (v : Value) (l : List Nat) (w : World) (h : NSl w v l) (hl : l.length ≤ 1048576) (hk : k < n) (hn : n ≤ 1048576) (hlh : lhas l k = false) :
    Calls Tryd.prog 9 #[RV n v, .int .i64 k] w (PutR w n v l k) := by
  obtain ⟨i0, hi, hz0, hz1, hz2⟩ := info_parts infoInt
  have HN := Lib.hid (show (inR n (k : Int) && !lhas l k) = true by rw [inR_cast, hlh]; simp [hk])
  have hb0 : Below w.heap.size w ((w.alloc (.cells #[.int .i64 n, v] 30)).alloc (.cells #[.int .i64 0, .slice none 0 0] 30)) := ((Below.refl _ _).alloc (Nat.le_refl _) _).alloc (by simp) _
  have h0 := h.below hb0
  have hx0 := (Box2.new w n v).alloc (.cells #[.int .i64 0, .slice none 0 0] 30)
  have hx1 := Box2.new (w.alloc (.cells #[.int .i64 n, v] 30)) 0 (.slice none 0 0)
  rw [World.size_alloc] at hx1
  obtain ⟨a, cap, rfl, hcl⟩ := h
  have HCL := Lib.hid hcl
  have HH := Lib.hid h0; have HX := Lib.hid hx0; have HY := Lib.hid hx1; have HB := Lib.hid hb0
  have hs0 := hb0.size
  have HHAS := Lib.hid (fun W (h : NSl W (.slice a l.length cap) l) => refHas_any n (.slice a l.length cap) l k W h (by omega))
  have HLH := Lib.hid hlh
  clear h0 hx0 hx1 hb0 hlh hcl
  generalize hm : l.length = m at *
  have c0 := HX.out.c0
  have c1 := HX.out.c1
  have HM := Lib.hid hm
  clear hm
  have h1 : decide ((k : Int) < 0) = false := by simp
  have h2 : decide ((n : Int) ≤ (k : Int)) = false := by simp; omega
  go_enter Tryd.func9, Tryd.ntmps9
  go_wp2_with fail
  generalize (w.alloc (.cells #[.int .i64 n, .slice a m cap] 30)).alloc (.cells #[.int .i64 0, .slice none 0 0] 30) = W0 at *
  refine (HHAS.out _ HH.out).mono ?_
  rintro e w1 ⟨rfl, hb1⟩
  rw [HLH.out]
  have hx1 := HX.out.below hb1
  have hy1 := HY.out.below hb1
  have hb2 := HB.out.trans (hb1.mono HB.out.size)
  obtain ⟨B, hB⟩ : ∃ B, B = w.heap.size := ⟨_, rfl⟩
  rw [← hB] at hx1 hy1 ⊢
  have hR0 : Rnd w (w1.alloc (.cells #[] 3)) B n m cap a (.slice (some ⟨w1.heap.size, 0, none⟩) 0 0) [] := ⟨World.ownsRow_lit w1 #[] 0 hb2.size (by unfold maxLen; omega) rfl, hx1.alloc _, hy1.alloc _, hb2.alloc hb2.size _⟩
  have HR0 := Lib.hid hR0; have HBB := Lib.hid hB
  clear c0 c1 hx1 hy1 hb1 hb2 hR0 HX HY HB HH HHAS hs0 hB h2 h1
  go_wp2_with fail
  generalize w1.alloc (.cells #[] 3) = W1 at *
  go_loopw [6, 7, 8] (fun o p i wr => ∃ j : Nat, j ≤ m ∧ i = .int .i64 j ∧ p = .bool (past k (l.take j)) ∧ Rnd w wr B n m cap a o (insO k (l.take j))) (fun _ _ i _ => m - (intOf i).toNat)
  case atStart => exact ⟨0, Nat.zero_le _, rfl, rfl, HR0.out⟩
  case round =>
    obtain ⟨j, hj, rfl, rfl, hR⟩ := hrel
    have c0 := hR.x.c0
    have c1 := hR.x.c1
    have HR := Lib.hid hR
    have hlen := insO_len k (l.take j)
    rw [List.length_take] at hlen
    by_cases hlt : j < m
    · obtain ⟨b, rfl, hcj, _⟩ := HCL.out j hlt
      have hbw := World.block_lt_of_cell? _ _ hcj
      have d1 := (hR.b.cell (p := ⟨b, j, none⟩) hbw).trans hcj
      have HT := Lib.hid (take_snoc l j (by rw [HM.out]; exact hlt))
      have HCJ := Lib.hid hcj
      have HRM := Lib.hid (room_ok (k := (insO k (l.take j)).length) (by omega))
      have HLN := Lib.hid (show (insO k (l.take j)).length ≤ 1048576 by omega)
      clear hR hcj hlen
      generalize l.getD j 0 = x at *
      cases hp : past k (l.take j)
      · by_cases hx : k < x
        · have HI := Lib.hid (insO_at hp hx)
          have HPS := Lib.hid (show past k (l.take j ++ [x]) = true by rw [past_snoc, hp]; simp [hx])
          have HP := Lib.hid hp
          clear hp
          have HRN := Lib.hid (room_ok (k := (insO k (l.take j) ++ [k]).length) (by rw [List.length_append]; have := HLN.out; simp; omega))
          go_wp2_with (first | (at_builtin; refine wpList_append_own _ rfl (.tmp 42) (.tmp 44) 28 rfl w.heap.size 3 i0 (.int .i64 0) 1 8 Tryd.underlying28 hi hz0 hz1 hz2 rfl (by decide) _ _ _ rfl (HR.out.own.alloc _) ⟨wr.heap.size, 0, none⟩ 1 1 [i64 k] rfl rfl (cell_one_new _ _ _) (by simp [Value.oneCell']) HRM.out.1 HRM.out.2 (Nat.le_trans HR.out.b.size (by simp)) ?_; intro v4 w4 hown hg _; have hR4 := HR.out.app hg hown; obtain ⟨g4, cap4, rfl⟩ := ownsRow_succ hown; have c2 := hR4.x.c1; have d2 := (hR4.b.cell (p := ⟨b, j, none⟩) hbw).trans HCJ.out; have HR4 := Lib.hid hR4; clear hown hg hR4) | (at_builtin; refine wpList_append_own _ rfl (.tmp 46) (.tmp 52) 28 rfl w.heap.size 3 i0 (.int .i64 0) 1 8 Tryd.underlying28 hi hz0 hz1 hz2 rfl (by decide) _ _ _ rfl (HR4.out.own.alloc _) ⟨w4.heap.size, 0, none⟩ 1 1 [i64 x] rfl rfl (cell_one_new _ _ _) (by simp [Value.oneCell']) HRN.out.1 HRN.out.2 (Nat.le_trans HR4.out.b.size (by simp)) ?_; intro v5 w5 hown hg _; have hR4 := HR4.out.app hg hown; obtain ⟨g5, cap5, rfl⟩ := ownsRow_succ hown; have c3 := hR4.x.c1; have d3 := (hR4.b.cell (p := ⟨b, j, none⟩) hbw).trans HCJ.out; have HR5 := Lib.hid hR4; clear hown hg hR4))
          exact ⟨⟨_, _, _, ⟨j + 1, by omega, rfl, rfl, by rw [HT.out, HI.out]; have h := HR5.out; rw [List.length_append] at h; exact h⟩, rfl, by rw [HT.out, HPS.out], rfl⟩, by simp [intOf]; omega⟩
        · have HI := Lib.hid (insO_no hp hx)
          have HPS := Lib.hid (show past k (l.take j ++ [x]) = false by rw [past_snoc, hp]; simp; omega)
          have HP := Lib.hid hp
          clear hp
          go_wp2_with (first | (at_builtin; refine wpList_append_own _ rfl (.tmp 46) (.tmp 52) 28 rfl w.heap.size 3 i0 (.int .i64 0) 1 8 Tryd.underlying28 hi hz0 hz1 hz2 rfl (by decide) _ _ _ rfl (HR.out.own.alloc _) ⟨wr.heap.size, 0, none⟩ 1 1 [i64 x] rfl rfl (cell_one_new _ _ _) (by simp [Value.oneCell']) HRM.out.1 HRM.out.2 (Nat.le_trans HR.out.b.size (by simp)) ?_; intro v4 w4 hown hg _; have hR4 := HR.out.app hg hown; obtain ⟨g4, cap4, rfl⟩ := ownsRow_succ hown; have c2 := hR4.x.c1; have d2 := (hR4.b.cell (p := ⟨b, j, none⟩) hbw).trans HCJ.out; have HR4 := Lib.hid hR4; clear hown hg hR4))
          exact ⟨⟨_, _, _, ⟨j + 1, by omega, rfl, rfl, by rw [HT.out, HI.out]; exact HR4.out⟩, rfl, by rw [HT.out, HPS.out], rfl⟩, by simp [intOf]; omega⟩
      · have HI := Lib.hid (insO_yes x hp)
        have HPS := Lib.hid (show past k (l.take j ++ [x]) = true by rw [past_snoc, hp]; simp)
        have HP := Lib.hid hp
        clear hp
        by_cases hx : k < x
        · go_wp2_with (first | (at_builtin; refine wpList_append_own _ rfl (.tmp 46) (.tmp 52) 28 rfl w.heap.size 3 i0 (.int .i64 0) 1 8 Tryd.underlying28 hi hz0 hz1 hz2 rfl (by decide) _ _ _ rfl (HR.out.own.alloc _) ⟨wr.heap.size, 0, none⟩ 1 1 [i64 x] rfl rfl (cell_one_new _ _ _) (by simp [Value.oneCell']) HRM.out.1 HRM.out.2 (Nat.le_trans HR.out.b.size (by simp)) ?_; intro v4 w4 hown hg _; have hR4 := HR.out.app hg hown; obtain ⟨g4, cap4, rfl⟩ := ownsRow_succ hown; have c2 := hR4.x.c1; have d2 := (hR4.b.cell (p := ⟨b, j, none⟩) hbw).trans HCJ.out; have HR4 := Lib.hid hR4; clear hown hg hR4))
          exact ⟨⟨_, _, _, ⟨j + 1, by omega, rfl, rfl, by rw [HT.out, HI.out]; exact HR4.out⟩, rfl, by rw [HT.out, HPS.out], rfl⟩, by simp [intOf]; omega⟩
        · go_wp2_with (first | (at_builtin; refine wpList_append_own _ rfl (.tmp 46) (.tmp 52) 28 rfl w.heap.size 3 i0 (.int .i64 0) 1 8 Tryd.underlying28 hi hz0 hz1 hz2 rfl (by decide) _ _ _ rfl (HR.out.own.alloc _) ⟨wr.heap.size, 0, none⟩ 1 1 [i64 x] rfl rfl (cell_one_new _ _ _) (by simp [Value.oneCell']) HRM.out.1 HRM.out.2 (Nat.le_trans HR.out.b.size (by simp)) ?_; intro v4 w4 hown hg _; have hR4 := HR.out.app hg hown; obtain ⟨g4, cap4, rfl⟩ := ownsRow_succ hown; have c2 := hR4.x.c1; have d2 := (hR4.b.cell (p := ⟨b, j, none⟩) hbw).trans HCJ.out; have HR4 := Lib.hid hR4; clear hown hg hR4))
          exact ⟨⟨_, _, _, ⟨j + 1, by omega, rfl, rfl, by rw [HT.out, HI.out]; exact HR4.out⟩, rfl, by rw [HT.out, HPS.out], rfl⟩, by simp [intOf]; omega⟩
    · have hjm : j = m := by omega
      have HLT := Lib.hid (show l.take j = l by rw [hjm]; exact List.take_of_length_le (by rw [HM.out]; exact Nat.le_refl _))
      have HRM := Lib.hid (room_ok (k := (insO k (l.take j)).length) (by omega))
      clear hR hlen hjm
      have hBw : w.heap.size ≤ B + 1 := by rw [HBB.out]; omega
      cases hp : past k (l.take j)
      · have HI := Lib.hid (show insL k l = insO k (l.take j) ++ [k] by have h := insO_end (i := k) (l := l.take j); rw [hp, HLT.out] at h; rw [HLT.out]; exact h.trans (if_neg Bool.false_ne_true))
        clear hp
        go_wp2_with (first | (at_builtin; refine wpList_append_own _ rfl (.tmp 56) (.tmp 58) 28 rfl w.heap.size 3 i0 (.int .i64 0) 1 8 Tryd.underlying28 hi hz0 hz1 hz2 rfl (by decide) _ _ _ rfl (HR.out.own.alloc _) ⟨wr.heap.size, 0, none⟩ 1 1 [i64 k] rfl rfl (cell_one_new _ _ _) (by simp [Value.oneCell']) HRM.out.1 HRM.out.2 (Nat.le_trans HR.out.b.size (by simp)) ?_; intro v4 w4 hown hg _; have hR4 := HR.out.app hg hown; obtain ⟨g4, cap4, rfl⟩ := ownsRow_succ hown; have c2 := hR4.x.c0; have d0 := hR4.y.c0; have d1 := hR4.y.c1; have e0 := hR4.y.f0; have e1 := hR4.y.f1; have HR4 := Lib.hid hR4; clear hown hg hR4))
        have q := HR4.out.y.put n (.slice (some ⟨g4, 0, none⟩) ((insO k (l.take j)).length + 1) cap4)
        refine bodyPost_ret (v := .tuple #[RV n (.slice (some ⟨g4, 0, none⟩) ((insO k (l.take j)).length + 1) cap4), .bool true]) (by simp [results, Tryd.results9, go_sem, q.c0, q.c1]) rfl (.inl ⟨HN.out, _, rfl, ?_, below_put2 HR4.out.b hBw _ _⟩)
        rw [Int.toNat_natCast, HI.out]
        have h := (nsl_of HR4.out.own).put (x := .int .i64 n) (y := .slice (some ⟨g4, 0, none⟩) ((insO k (l.take j)).length + 1) cap4) HR4.out.y
        exact h
      · have HI := Lib.hid (show insL k l = insO k (l.take j) by have h := insO_end (i := k) (l := l.take j); rw [hp, HLT.out] at h; rw [HLT.out]; exact h.trans (if_pos rfl))
        clear hp
        have d0 := HR.out.y.c0
        have d1 := HR.out.y.c1
        have e0 := HR.out.y.f0
        have e1 := HR.out.y.f1
        obtain ⟨ao, co, rfl⟩ : ∃ ao co, u6 = .slice ao (insO k (l.take j)).length co := by
          obtain ⟨ao, co, h, _⟩ := nsl_of HR.out.own; exact ⟨ao, co, h⟩
        go_wp2_with fail
        have q := HR.out.y.put n (.slice ao (insO k (l.take j)).length co)
        refine bodyPost_ret (v := .tuple #[RV n (.slice ao (insO k (l.take j)).length co), .bool true]) (by simp [results, Tryd.results9, go_sem, q.c0, q.c1]) rfl (.inl ⟨HN.out, _, rfl, ?_, below_put2 HR.out.b hBw _ _⟩)
        rw [Int.toNat_natCast, HI.out]
        exact (nsl_of HR.out.own).put HR.out.y
theorem refPut_any (n : Nat) (v : Value) (l : List Nat) (i : Int) (w : World) (h : NSl w v l) (hl : l.length ≤ 1048576) (hn : n ≤ 1048576) :
    Calls Tryd.prog 9 #[RV n v, .int .i64 i] w (PutR w n v l i) := by
  cases hc : (inR n i && !lhas l i)
  · exact refPut_no n v l i w h hl hc
  · simp only [Bool.and_eq_true, Bool.not_eq_true'] at hc
    obtain ⟨k, rfl, hk⟩ := inR_nat hc.1
    exact refPut_yes n k v l w h hl hk hn hc.2
/-- The document's Put, of a set's numbers. -/
def PutS (w : World) (n : Nat) (f : Nat → Bool) (i : Int) (e : Ending) (w' : World) : Prop :=
  ∃ v', e = .returned (.tuple #[RV n v', .bool (putB n f i)]) ∧ NSl w' v' (upTo (putF n f i) n) ∧ Below w.heap.size w w'
theorem upTo_le {f : Nat → Bool} {n : Nat} (hn : n ≤ 1048576) : (upTo f n).length ≤ 1048576 := Nat.le_trans (upTo_length f n) hn
theorem refPut_set (n : Nat) (v : Value) (f : Nat → Bool) (i : Int) (w : World) (h : NSl w v (upTo f n)) (hi : ∀ j, f j = true → j < n) (hn : n ≤ 1048576) :
    Calls Tryd.prog 9 #[RV n v, .int .i64 i] w (PutS w n f i) := by
  refine (refPut_any n v (upTo f n) i w h (upTo_le hn) hn).mono ?_
  rw [show PutR w n v (upTo f n) i = fun e w' => PutR w n v (upTo f n) i e w' from rfl]
  unfold PutR
  rw [lhas_upTo hi]
  rintro e w' (⟨hc, v', rfl, hv, hb⟩ | ⟨hc, rfl, hb⟩)
  · refine ⟨v', by rw [show putB n f i = true from hc], ?_, hb⟩
    simp only [Bool.and_eq_true, Bool.not_eq_true'] at hc
    obtain ⟨k, rfl, hk⟩ := inR_nat hc.1
    rw [hasI_cast] at hc
    rw [Int.toNat_natCast, insL_upTo hc.2 n hk] at hv
    rw [show putF n f (k : Int) = withF f k by simp [putF, hc.1]]
    exact hv
  · refine ⟨v, by rw [show putB n f i = false from hc], ?_, hb⟩
    have : putF n f i = f := by
      unfold putF
      cases hr : inR n i
      · rfl
      · rw [hr] at hc
        obtain ⟨k, rfl, hk⟩ := inR_nat hr
        rw [hasI_cast] at hc
        rw [if_pos rfl, Int.toNat_natCast]
        exact withF_in (by simpa using hc)
    rw [this]
    exact h.below hb
end Go.Proofs.YtgmeomhddpmpbaaDoor.BitsW
