/- BitsetDoes: what a round knows. -/
import Derived.Test.YtgmeomhddpmpbaaDoorNil
import Derived.Test.YtgmeomhddpmpbaaDoorKeyMath
import Derived.Test.YtgmeomhddpmpbaaDoorRefOr2
import Derived.Test.YtgmeomhddpmpbaaDoorKeys
namespace Go.Proofs.YtgmeomhddpmpbaaDoor.BitsW
set_option linter.unusedVariables false
open Go.RowKit Go.Shelf Go.Proofs.YtgmeomhddpmpbaaDoor.SetM Go.Proofs.YtgmeomhddpmpbaaDoor.RegionU

/-- A row of what is to be done. -/
structure OpT where
  kind : Int
  other : Bool
  i : Int
def OSl (w : World) (v : Value) (l : List OpT) : Prop :=
  ∃ a cap, v = .slice a l.length cap ∧ l.length ≤ maxLen ∧ ∀ j, j < l.length → ∃ (b o : Nat) (x : OpT), a = some ⟨b, o, none⟩ ∧ w.cell? ⟨b, o + j * 3, none⟩ = some (.int .i64 x.kind) ∧ w.cell? ⟨b, o + j * 3 + 1, none⟩ = some (.bool x.other) ∧ w.cell? ⟨b, o + j * 3 + 2, none⟩ = some (.int .i64 x.i) ∧ l[j]? = some x
theorem Box2.write {W W' : World} {B n : Nat} {v : Value} (h : Box2 W B n v) {p q r : Nat} {f : Nat → Bool} (hB : Bt W p q r f) (hb : But W.heap.size (some q) W W') : Box2 W' B n v := by
  refine (hb.block B h.lt (fun e => ?_)).trans h
  injection e with e
  subst e
  obtain ⟨cur, hc⟩ := hB.block
  rw [show W.heap[B]? = _ from h] at hc
  simp at hc
theorem NSl.write {W W' : World} {v : Value} {l : List Nat} (h : NSl W v l) {p q r : Nat} {f : Nat → Bool} (hB : Bt W p q r f) (hb : But W.heap.size (some q) W W') : NSl W' v l := by
  obtain ⟨a, cap, rfl, hc⟩ := h
  refine ⟨a, cap, rfl, fun j hj => ?_⟩
  obtain ⟨b, rfl, h2, cur, z, h5⟩ := hc j hj
  have hne : some b ≠ some q := fun e => by
    injection e with e
    subst e
    obtain ⟨cur', hc'⟩ := hB.block
    rw [h5] at hc'
    simp at hc'
  exact ⟨b, rfl, (hb.cell (p := ⟨b, j, none⟩) (World.block_lt_of_cell? _ _ h2) hne).trans h2, cur, z, (hb.block b (World.block_lt_of_cell? _ _ h2) hne).trans h5⟩
/-- One of the two sets, and the document's one beside it. -/
structure Half (w W : World) (p q r : Nat) (f : Nat → Bool) (U : Nat) (v : Value) : Prop where
  o : Own1 w W p q r f
  x : Box2 W U r v
  l : NSl W v (upTo f r)
  u : w.heap.size ≤ U
theorem Half.next {w W W' : World} {p q r U : Nat} {f : Nat → Bool} {v : Value} (h : Half w W p q r f U v) (hg : 0 < w.heap.size) (hb : Below W.heap.size W W') : Half w W' p q r f U v :=
  ⟨h.o.next hg hb, h.x.below hb, h.l.below hb, h.u⟩
theorem Half.other {w W W' : World} {p q r U p1 q1 r1 : Nat} {f f1 : Nat → Bool} {v : Value} (h : Half w W p q r f U v) (hg : 0 < w.heap.size) (hB : Own1 w W p1 q1 r1 f1) (hb : But W.heap.size (some q1) W W') (h1 : q1 ≠ p) (h2 : q1 ≠ q) : Half w W' p q r f U v :=
  ⟨h.o.other hg hb hB.q h1 h2, h.x.write hB.bt hb, h.l.write hB.bt hb, h.u⟩
abbrev ptr (p : Nat) : Value := .pointer (some ⟨p, 0, none⟩)
/-- Both sets, and the document's two. -/
def Two (w W : World) (ca cb : Value) (X Y : Nat) : Prop :=
  ∃ (pa qa ra : Nat) (fa : Nat → Bool) (va : Value) (pb qb rb : Nat) (fb : Nat → Bool) (vb : Value), ca = ptr pa ∧ cb = ptr pb ∧ Half w W pa qa ra fa X va ∧ Half w W pb qb rb fb Y vb ∧ (qa ≠ pb ∧ qa ≠ qb ∧ qb ≠ pa) ∧ X ≠ Y
theorem Two.swap {w W : World} {ca cb : Value} {X Y : Nat} (h : Two w W ca cb X Y) : Two w W cb ca Y X := by
  obtain ⟨pa, qa, ra, fa, va, pb, qb, rb, fb, vb, h1, h2, h3, h4, ⟨h5, h6, h7⟩, h8⟩ := h
  exact ⟨pb, qb, rb, fb, vb, pa, qa, ra, fa, va, h2, h1, h4, h3, ⟨h7, fun e => h6 e.symm, h5⟩, fun e => h8 e.symm⟩
/-- Boxes that are there, to be written over. -/
def Boxed2 (w W : World) (X : Nat) : Prop := w.heap.size ≤ X ∧ ∃ n v, Box2 W X n v
def Four (w W : World) (ca cb : Value) (U V X Y : Nat) : Prop :=
  Two w W ca cb U V ∧ Boxed2 w W X ∧ Boxed2 w W Y ∧ (U ≠ X ∧ U ≠ Y ∧ V ≠ X ∧ V ≠ Y ∧ X ≠ Y)
theorem Half.up {w W W' : World} {p q r U U' : Nat} {f : Nat → Bool} {v : Value} (h : Half w W p q r f U v) (hg : 0 < w.heap.size) (hb : Below W.heap.size W W') (hx : Box2 W' U' r v) (hu : w.heap.size ≤ U') : Half w W' p q r f U' v :=
  ⟨h.o.next hg hb, hx, h.l.below hb, hu⟩
theorem Bt.boxset {W : World} {p q r U n : Nat} {f : Nat → Bool} {u x y : Value} (h : Bt W p q r f) (hU : Box2 W U n u) : Bt ((W.setCell ⟨U, 0, none⟩ x).setCell ⟨U, 1, none⟩ y) p q r f := by
  obtain ⟨cap, hs⟩ := h.sw
  have hp : p ≠ U := by
    rintro rfl
    have := hs.blk
    rw [show W.heap[p]? = _ from hU] at this
    simp at this
  have hq : q ≠ U := by
    rintro rfl
    obtain ⟨cur, hc⟩ := h.block
    rw [show W.heap[q]? = _ from hU] at hc
    simp at hc
  exact ((hs.other (a := ⟨U, 0, none⟩) hp hq x).other (a := ⟨U, 1, none⟩) hp hq y).bt h.room h.into
theorem Own1.boxset {w W : World} {p q r U n : Nat} {f : Nat → Bool} {u x y : Value} (h : Own1 w W p q r f) (hg : 0 < w.heap.size) (hU : Box2 W U n u) (hw : w.heap.size ≤ U) : Own1 w ((W.setCell ⟨U, 0, none⟩ x).setCell ⟨U, 1, none⟩ y) p q r f :=
  ⟨h.bt.boxset hU, fun j hj => by
    have h0 := h.env j hj
    have hne : 0 ≠ U := by omega
    exact (World.cell?_of_block (a := ⟨_, j, none⟩) ((Below.heap_setCell _ _ _ _ hne).trans (Below.heap_setCell _ _ _ _ hne))).trans h0, below_put2 h.b hw _ _, h.p, h.q⟩
theorem Half.boxset {w W : World} {p q r X U n : Nat} {f : Nat → Bool} {v u x y : Value} (h : Half w W p q r f X v) (hg : 0 < w.heap.size) (hU : Box2 W U n u) (hw : w.heap.size ≤ U) (hne : X ≠ U) : Half w ((W.setCell ⟨U, 0, none⟩ x).setCell ⟨U, 1, none⟩ y) p q r f X v :=
  ⟨h.o.boxset hg hU hw, h.x.oset hne, h.l.put hU, h.u⟩
/-- The document's set is written into another box. -/
theorem Half.into {w W : World} {p q r X U n : Nat} {f : Nat → Bool} {v u : Value} (h : Half w W p q r f X v) (hg : 0 < w.heap.size) (hU : Box2 W U n u) (hw : w.heap.size ≤ U) : Half w ((W.setCell ⟨U, 0, none⟩ (.int .i64 r)).setCell ⟨U, 1, none⟩ v) p q r f U v :=
  ⟨h.o.boxset hg hU hw, hU.put r v, h.l.put hU, hw⟩
/-- Both sets' documents are written into two other boxes. -/
theorem Two.into {w W : World} {pa qa ra X pb qb rb Y U V nu nv : Nat} {fa fb : Nat → Bool} {va vb vu vv : Value} (hA : Half w W pa qa ra fa X va) (hB : Half w W pb qb rb fb Y vb) (hd : qa ≠ pb ∧ qa ≠ qb ∧ qb ≠ pa) (hg : 0 < w.heap.size)
    (hU : Box2 W U nu vu) (hV : Box2 W V nv vv) (hu : w.heap.size ≤ U) (hv : w.heap.size ≤ V) (hUV : U ≠ V) (hYU : Y ≠ U) :
    Two w ((((W.setCell ⟨U, 0, none⟩ (.int .i64 ra)).setCell ⟨U, 1, none⟩ va).setCell ⟨V, 0, none⟩ (.int .i64 rb)).setCell ⟨V, 1, none⟩ vb) (ptr pa) (ptr pb) U V := by
  have hA1 := hA.into hg hU hu
  have hB1 := hB.boxset (x := .int .i64 ra) (y := va) hg hU hu hYU
  have hV1 := hV.oset (x := .int .i64 ra) (y := va) (fun e => hUV e.symm)
  exact ⟨pa, qa, ra, fa, va, pb, qb, rb, fb, vb, rfl, rfl, hA1.boxset hg hV1 hv hUV, hB1.into hg hV1 hv, hd, hUV⟩
theorem Half.drew {w W : World} {p q r X : Nat} {f : Nat → Bool} {v : Value} (h : Half w W p q r f X v) (hg : 0 < w.heap.size) : Half w W.drew p q r f X v := h.next hg (Below.refl _ _).drew
theorem Two.drew {w W : World} {ca cb : Value} {X Y : Nat} (h : Two w W ca cb X Y) (hg : 0 < w.heap.size) : Two w W.drew ca cb X Y := by
  obtain ⟨pa, qa, ra, fa, va, pb, qb, rb, fb, vb, h1, h2, h3, h4, h5⟩ := h
  exact ⟨pa, qa, ra, fa, va, pb, qb, rb, fb, vb, h1, h2, h3.drew hg, h4.drew hg, h5⟩
theorem Boxed2.next {w W W' : World} {X : Nat} (h : Boxed2 w W X) (hb : Below W.heap.size W W') : Boxed2 w W' X := by
  obtain ⟨h1, n, v, h2⟩ := h
  exact ⟨h1, n, v, h2.below hb⟩
theorem Boxed2.write {w W W' : World} {X : Nat} (h : Boxed2 w W X) {p q r : Nat} {f : Nat → Bool} (hB : Bt W p q r f) (hb : But W.heap.size (some q) W W') : Boxed2 w W' X := by
  obtain ⟨h1, n, v, h2⟩ := h
  exact ⟨h1, n, v, h2.write hB hb⟩
theorem Boxed2.boxset {w W : World} {X U : Nat} {x y : Value} (h : Boxed2 w W X) (hne : X ≠ U) : Boxed2 w ((W.setCell ⟨U, 0, none⟩ x).setCell ⟨U, 1, none⟩ y) X := by
  obtain ⟨h1, n, v, h2⟩ := h
  exact ⟨h1, n, v, h2.oset hne⟩
theorem Boxed2.drew {w W : World} {X : Nat} (h : Boxed2 w W X) : Boxed2 w W.drew X := h.next (Below.refl _ _).drew
/-- Behind an operation: the document's new set is written into its box. -/
theorem four_after {w W : World} {pc qc rc ro pd qd rd U V X Y : Nat} {fc fd : Nat → Bool} {vo v' vd : Value} (hO : Own1 w W pc qc rc fc) (hU : Box2 W U ro vo) (hl : NSl W v' (upTo fc rc)) (hu : w.heap.size ≤ U) (hD : Half w W pd qd rd fd V vd)
    (hd : qc ≠ pd ∧ qc ≠ qd ∧ qd ≠ pc) (hX : Boxed2 w W X) (hY : Boxed2 w W Y) (hn : U ≠ X ∧ U ≠ Y ∧ V ≠ X ∧ V ≠ Y ∧ X ≠ Y) (hUV : U ≠ V) (hg : 0 < w.heap.size) :
    Four w ((W.setCell ⟨U, 0, none⟩ (.int .i64 rc)).setCell ⟨U, 1, none⟩ v') (ptr pc) (ptr pd) U V X Y :=
  ⟨⟨pc, qc, rc, fc, v', pd, qd, rd, fd, vd, rfl, rfl, ⟨hO.boxset hg hU hu, hU.put rc v', hl.put hU, hu⟩, hD.boxset hg hU hu (fun e => hUV e.symm), hd, hUV⟩, hX.boxset (fun e => hn.1 e.symm), hY.boxset (fun e => hn.2.1 e.symm), hn⟩
theorem Four.drew {w W : World} {c d : Value} {U V X Y : Nat} (h : Four w W c d U V X Y) (hg : 0 < w.heap.size) : Four w W.drew c d U V X Y := ⟨h.1.drew hg, h.2.1.drew, h.2.2.1.drew, h.2.2.2⟩
def TakeS (w : World) (n : Nat) (f : Nat → Bool) (i : Int) (e : Ending) (w' : World) : Prop :=
  ∃ v', e = .returned (.tuple #[RV n v', .bool (hasI f i)]) ∧ NSl w' v' (upTo (takeF f i) n) ∧ Below w.heap.size w w'
theorem refTake_set (n : Nat) (v : Value) (f : Nat → Bool) (i : Int) (w : World) (h : NSl w v (upTo f n)) (hi : ∀ j, f j = true → j < n) (hn : n ≤ 1048576) :
    Calls Tryd.prog 11 #[RV n v, .int .i64 i] w (TakeS w n f i) := by
  refine (refTake_any n v (upTo f n) i w h (upTo_le hn)).mono ?_
  rintro e w' ⟨v', h1, h2, h3⟩
  rw [lhas_upTo hi] at h1
  rw [lessL_upTo hi] at h2
  exact ⟨v', h1, h2, h3⟩
theorem Two.b {w W : World} {ca cb : Value} {X Y : Nat} (h : Two w W ca cb X Y) : Below w.heap.size w W := by
  obtain ⟨pa, qa, ra, fa, va, pb, qb, rb, fb, vb, h1, h2, h3, h4, h5⟩ := h
  exact h3.o.b
theorem Two.boxes {w W : World} {ca cb : Value} {X Y : Nat} (h : Two w W ca cb X Y) : Boxed2 w W X ∧ Boxed2 w W Y := by
  obtain ⟨pa, qa, ra, fa, va, pb, qb, rb, fb, vb, h1, h2, h3, h4, h5⟩ := h
  exact ⟨⟨h3.u, _, _, h3.x⟩, ⟨h4.u, _, _, h4.x⟩⟩
/-- Both sets are written back; what was in the round lies as it lay. -/
theorem after32 {w W : World} {pa qa ra U pb qb rb V X Y nx ny : Nat} {fa fb : Nat → Bool} {va vb vx vy : Value} (hA : Half w W pa qa ra fa U va) (hB : Half w W pb qb rb fb V vb) (hd : qa ≠ pb ∧ qa ≠ qb ∧ qb ≠ pa) (hg : 0 < w.heap.size)
    (hX : Box2 W X nx vx) (hY : Box2 W Y ny vy) (hx : w.heap.size ≤ X) (hy : w.heap.size ≤ Y) (hn : U ≠ X ∧ U ≠ Y ∧ V ≠ X ∧ V ≠ Y ∧ X ≠ Y) (W2 : World)
    (hW : W2 = ((((W.setCell ⟨X, 0, none⟩ (.int .i64 ra)).setCell ⟨X, 1, none⟩ va).setCell ⟨Y, 0, none⟩ (.int .i64 rb)).setCell ⟨Y, 1, none⟩ vb).drew) :
    Two w W2 (ptr pa) (ptr pb) X Y ∧ Half w W2 pa qa ra fa U va ∧ Half w W2 pb qb rb fb V vb := by
  subst hW
  have hY1 := hY.oset (x := .int .i64 ra) (y := va) (fun e => hn.2.2.2.2 e.symm)
  exact ⟨(Two.into hA hB hd hg hX hY hx hy hn.2.2.2.2 hn.2.2.1).drew hg, ((hA.boxset hg hX hx hn.1).boxset hg hY1 hy hn.2.1).drew hg, ((hB.boxset hg hX hx hn.2.2.1).boxset hg hY1 hy hn.2.2.2.1).drew hg⟩
/-- Two boxes' four cells, as a region's held condition. -/
abbrev K4 (X ra : Nat) (va : Value) (Y rb : Nat) (vb : Value) (Z : World) : Prop :=
  (Z.cell? ⟨X, 0, none⟩ = some (.int .i64 ra) ∧ Z.cell? ⟨X, 1, none⟩ = some va) ∧ Z.cell? ⟨Y, 0, none⟩ = some (.int .i64 rb) ∧ Z.cell? ⟨Y, 1, none⟩ = some vb
theorem keep4 {Z : World} {X ra Y rb U : Nat} {va vb x y : Value} (h : K4 X ra va Y rb vb Z) (hx : X ≠ U) (hy : Y ≠ U) : K4 X ra va Y rb vb ((Z.setCell ⟨U, 0, none⟩ x).setCell ⟨U, 1, none⟩ y) := by
  obtain ⟨⟨h1, h2⟩, h3, h4⟩ := h
  have e1 : ∀ (B k : Nat), B ≠ U → ((Z.setCell ⟨U, 0, none⟩ x).setCell ⟨U, 1, none⟩ y).cell? ⟨B, k, none⟩ = Z.cell? ⟨B, k, none⟩ := fun B k hne =>
    World.cell?_of_block (a := ⟨B, k, none⟩) ((Below.heap_setCell _ _ _ _ hne).trans (Below.heap_setCell _ _ _ _ hne))
  exact ⟨⟨(e1 _ _ hx).trans h1, (e1 _ _ hx).trans h2⟩, (e1 _ _ hy).trans h3, (e1 _ _ hy).trans h4⟩
theorem k4_up (X ra : Nat) (va : Value) (Y rb : Nat) (vb : Value) (w1 : World) (hX : X < w1.heap.size) (hY : Y < w1.heap.size) : Up (fun W => K4 X ra va Y rb vb W ∧ Below w1.heap.size w1 W) := fun W W' h hr => by
  obtain ⟨⟨⟨h1, h2⟩, h3, h4⟩, hb⟩ := h
  have hx : X < W.heap.size := Nat.lt_of_lt_of_le hX hb.size
  have hy : Y < W.heap.size := Nat.lt_of_lt_of_le hY hb.size
  exact ⟨⟨⟨(Below.cell hr (p := ⟨X, 0, none⟩) hx).trans h1, (Below.cell hr (p := ⟨X, 1, none⟩) hx).trans h2⟩, (Below.cell hr (p := ⟨Y, 0, none⟩) hy).trans h3, (Below.cell hr (p := ⟨Y, 1, none⟩) hy).trans h4⟩, hb.trans (Below.mono hr hb.size)⟩
theorem keys_same {f g : Nat → Bool} {n m : Nat} (hn : n ≤ 1048576) (hm : m ≤ 1048576) (hf : ∀ i, f i = true → i < n) (hg : ∀ i, g i = true → i < m) : ((keyOf f n).toList == (keyOf g m).toList) = (upTo f n == upTo g m) := by
  by_cases h : keyOf f n = keyOf g m
  · rw [(key_list hn hm hf hg).1 h, h]; simp
  · rw [ba_ne h]
    symm
    rw [beq_eq_false_iff_ne]
    exact fun e => h ((key_list hn hm hf hg).2 e)
theorem keep4d {Z : World} {X ra Y rb : Nat} {va vb : Value} (h : K4 X ra va Y rb vb Z) : K4 X ra va Y rb vb Z.drew := h
end Go.Proofs.YtgmeomhddpmpbaaDoor.BitsW
