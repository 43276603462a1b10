/- What LabelTells knows in the region that puts one name more. -/
import Derived.Test.YtlfmkiendaecaaaKnowsL
namespace Go.Proofs.Ytlfmkiendaecaaa.RegionU
section
variable {P : Program} {md : Region.Mode} {ops : Array Oper} {Q : Exit → Act → World → Prop} {n g : Nat}
/-- Three may come up, each of which makes memory. -/
theorem wpS_three {i j k : Nat} {o o' o2 : Oper} {rest rest' rest2 : List Oper} {fuel : Nat} {listed : Array Bool} {a : Act} {C : World → Prop} (hr : Region.ready md ops listed = [i, j, k]) (hin : decide (i < n) = true) (hjn : decide (j < n) = true) (hkn : decide (k < n) = true) (hi : ops.toList.drop i = o :: rest) (hj : ops.toList.drop j = o' :: rest') (hk : ops.toList.drop k = o2 :: rest2)
    (hw : Region.wanted o (yielded ops a.tmps) = true) (hw' : Region.wanted o' (yielded ops a.tmps) = true) (hw2 : Region.wanted o2 (yielded ops a.tmps) = true)
    (T T' T2 : Value → World → Prop) (hT : ∀ u, Up (T u)) (hT' : ∀ u, Up (T' u)) (hT2 : ∀ u, Up (T2 u)) (hd : doesIn P o a C T) (hd' : doesIn P o' a C T') (hd2 : doesIn P o2 a C T2)
    (h : ∀ u, wpS P md ops Q n g fuel (listed.setIfInBounds i true) (a.put o.dst u) (fun W => C W ∧ T u W)) (h' : ∀ u, wpS P md ops Q n g fuel (listed.setIfInBounds j true) (a.put o'.dst u) (fun W => C W ∧ T' u W)) (h2 : ∀ u, wpS P md ops Q n g fuel (listed.setIfInBounds k true) (a.put o2.dst u) (fun W => C W ∧ T2 u W)) : wpS P md ops Q n g (fuel + 1) listed a C :=
  fun _ => ⟨(fun h0 => by rw [h0] at hr; cases hr), fun l hl => .inl (by
    rw [hr] at hl
    rcases List.mem_cons.1 hl with rfl | hl
    · refine ⟨by simpa using hin, ?_⟩
      unfold uOp
      simp only [at_drop hi, hw, if_true]
      exact ⟨T, hT, hd, h⟩
    · rcases List.mem_cons.1 hl with rfl | hl
      · refine ⟨by simpa using hjn, ?_⟩
        unfold uOp
        simp only [at_drop hj, hw', if_true]
        exact ⟨T', hT', hd', h'⟩
      · rw [List.mem_singleton] at hl
        subst hl
        refine ⟨by simpa using hkn, ?_⟩
        unfold uOp
        simp only [at_drop hk, hw2, if_true]
        exact ⟨T2, hT2, hd2, h2⟩)⟩
end
end Go.Proofs.Ytlfmkiendaecaaa.RegionU
namespace Go.Proofs.Ytlfmkiendaecaaa.DfaW
set_option linter.unusedVariables false
open Go.Proofs.Ytlfmkiendaecaaa.RegionU (Up)
open Go.RowKit Go.Maps Go.Proofs.Ytlfmkiendaecaaa.PartM Go.Proofs.Ytlfmkiendaecaaa.PartW Go.Proofs.Ytlfmkiendaecaaa.TxM
def txO : ByteArray := ⟨#[111, 116, 104, 101, 114]⟩
theorem txO_ok : nameOk txO = true := by decide +kernel
theorem txO_szs : Szs [txO] := fun x hx => by rw [List.mem_singleton.1 hx]; decide
theorem LS.new2 (w : World) (u1 u2 : Value) (l1 l2 : List ByteArray) (t : TypeId) (h1 : TS w.heap.size w u1 l1) (h2 : TS w.heap.size w u2 l2) :
    LS (w.alloc (.cells #[u1, u2] t)).heap.size (w.alloc (.cells #[u1, u2] t)) (.slice (some ⟨w.heap.size, 0, Option.none⟩) 2 2) [l1, l2] :=
  LS.new w [u1, u2] [l1, l2] t rfl (by unfold maxLen; simp) fun i hi => by
    have : i = 0 ∨ i = 1 := by simp at hi; omega
    rcases this with rfl | rfl
    · exact ⟨u1, rfl, h1⟩
    · exact ⟨u2, rfl, h2⟩
/-- A new box for a machine. -/
def BxN (W0 : World) (u : Value) (W : World) : Prop := ∃ X : Nat, u = .pointer (some ⟨X, 0, none⟩) ∧ Ar W X Try.zeroCells27 27 ∧ W0.heap.size ≤ X
theorem BxN.up (W0 : World) (u : Value) : Up (BxN W0 u) := fun W W' ⟨X, h1, h2, h3⟩ hr => ⟨X, h1, h2.below hr, h3⟩
theorem BxN.new {W0 W : World} (h : W0.heap.size ≤ W.heap.size) : BxN W0 (.pointer (some ⟨W.heap.size, 0, none⟩)) (W.alloc (.cells Try.zeroCells27 27)) := ⟨_, rfl, Ar.new _ _ _, h⟩
def T5 (X : Nat → Prop) (l : List ByteArray) (u : Value) (W : World) : Prop := RxT X W u l
theorem T5.up (X : Nat → Prop) (l : List ByteArray) (u : Value) : Up (T5 X l u) := fun W W' h hr => RxT.next h hr
/-- The list, and the box, which the list does not read. -/
def F5 (X4 : Nat → Prop) (W0 : World) (R : List ByteArray) (u v : Value) (W : World) : Prop := ∃ X : Nat, v = .pointer (some ⟨X, 0, none⟩) ∧ Ar W X Try.zeroCells27 27 ∧ W0.heap.size ≤ X ∧ RxT (fun k => X4 k ∨ k = X) W u R
theorem F5.up (X4 : Nat → Prop) (W0 : World) (R : List ByteArray) (u v : Value) : Up (F5 X4 W0 R u v) := fun W W' ⟨X, h1, h2, h3, h4⟩ hr => ⟨X, h1, h2.below hr, h3, h4.next hr⟩
/-- The machine, and the box, which it does not read. -/
def F6 (X4 : Nat → Prop) (W0 : World) (M : Mc) (k : Int) (u v : Value) (W : World) : Prop := ∃ (D : Array Value) (X : Nat), u = .tuple #[.agg D, .int .i64 k] ∧ v = .pointer (some ⟨X, 0, none⟩) ∧ Ar W X Try.zeroCells27 27 ∧ W0.heap.size ≤ X ∧ Rx (fun k => X4 k ∨ k = X) W D M
theorem F6.up (X4 : Nat → Prop) (W0 : World) (M : Mc) (k : Int) (u v : Value) : Up (F6 X4 W0 M k u v) := fun W W' ⟨D, X, h0, h1, h2, h3, h4⟩ hr => ⟨D, X, h0, h1, h2.below hr, h3, h4.next hr⟩
section
variable {X4 : Nat → Prop} {W0 W w' : World} {n : Nat} {l R : List ByteArray} {u v : Value}
theorem T5.of (hX : ∀ k, X4 k → n ≤ k ∧ k < W0.heap.size) (hu : RxT (fun k => k < W.heap.size) w' u l) (hR : R = l) (hb : Below W0.heap.size W0 W) : T5 X4 R u w' := by
  subst hR
  exact hu.mono fun k hk => Nat.lt_of_lt_of_le (hX k hk).2 hb.size
theorem F5.of1 (h : BxN W0 v W) (hX : ∀ k, X4 k → n ≤ k ∧ k < W0.heap.size) (hu : RxT (fun k => k < W.heap.size) w' u l) (hR : R = l) (hb : Below W0.heap.size W0 W) (hb2 : Below W.heap.size W w') : F5 X4 W0 R u v w' := by
  subst hR
  obtain ⟨X, rfl, ha, hl⟩ := h
  exact ⟨X, rfl, ha.below hb2, hl, hu.mono fun k hk => hk.elim (fun h => Nat.lt_of_lt_of_le (hX k h).2 hb.size) fun e => e ▸ ha.lt⟩
theorem F5.of2 (h : T5 X4 R u W) (hb : Below W0.heap.size W0 W) : F5 X4 W0 R u (.pointer (some ⟨W.heap.size, 0, none⟩)) (W.alloc (.cells Try.zeroCells27 27)) :=
  ⟨_, rfl, Ar.new _ _ _, hb.size, (RxT.free h ((Below.refl _ W).alloc (Nat.le_refl _) _)).mono fun k hk => hk.imp id fun e => Nat.le_of_eq e.symm⟩
theorem F6.of2 {M : Mc} {k : Int} (h : MT X4 M k u W) (hb : Below W0.heap.size W0 W) : F6 X4 W0 M k u (.pointer (some ⟨W.heap.size, 0, none⟩)) (W.alloc (.cells Try.zeroCells27 27)) := by
  obtain ⟨D, rfl, hD⟩ := h
  exact ⟨D, _, rfl, rfl, Ar.new _ _ _, hb.size, (hD.free ((Below.refl _ W).alloc (Nat.le_refl _) _)).mono fun k hk => hk.imp id fun e => Nat.le_of_eq e.symm⟩
theorem UnionC.of {f : FuncId} (H : UnionC f) {ll : List (List ByteArray)} (hl : ll.flatten.length ≤ 4194303) (hz : ∀ x ∈ ll.flatten, x.size ≤ maxLen) (W : World) (u : Value) (h : LS W.heap.size W u ll) : Calls Try.prog f #[u] W fun e w' => ∃ v', e = .returned v' ∧ RxT (fun k => k < W.heap.size) w' v' (risen ll.flatten) ∧ Below W.heap.size W w' := H W h hl hz
theorem NamesC.of {f : FuncId} (H : NamesC f) {C : Array Value} {m M2 : Mc} {k2 : Int} (hk : k2 = namesE m R) (hM : M2 = namesM m R) (W : World) (hm : Rx (fun k => n ≤ k) W C m) {X : Nat} (hu : RxT (fun k => X4 k ∨ k = X) W u R) (hX : ∀ k, X4 k → n ≤ k ∧ k < W0.heap.size) (ha : Ar W X Try.zeroCells27 27) (hl : W0.heap.size ≤ X) (hb : Below W0.heap.size W0 W) (hn : n ≤ W0.heap.size) :
    Calls Try.prog f #[.agg C, u] W fun e w' => ∃ t, e = .returned t ∧ F6 X4 W0 M2 k2 t (.pointer (some ⟨X, 0, none⟩)) w' ∧ Below W.heap.size W w' := by
  subst hk hM
  refine (H W (hm.mono (Y := fun k => X4 k ∨ k = X) fun k hk => hk.elim (fun h => (hX k h).1) fun e => by omega) hu fun k hk => hk.elim (fun h => Nat.lt_of_lt_of_le (hX k h).2 hb.size) fun e => e ▸ ha.lt).mono ?_
  rintro e w' ⟨D, rfl, hD, hb2⟩
  exact ⟨_, rfl, ⟨D, X, rfl, rfl, ha.below hb2, hl, hD⟩, hb2⟩
end
end Go.Proofs.Ytlfmkiendaecaaa.DfaW
