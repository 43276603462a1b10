/- What is asked of the program's calls, in the words of the document's machines; the document's own keep it. -/
import Derived.Test.YtlfmkiendaecaaaRefNormL
import Derived.Test.YtlfmkiendaecaaaRefPlus
import Derived.Test.YtlfmkiendaecaaaRefUnion
import Derived.Test.YtlfmkiendaecaaaSameF
namespace Go.Proofs.Ytlfmkiendaecaaa.DfaW
set_option linter.unusedVariables false
open Go.RowKit Go.Maps Go.Proofs.Ytlfmkiendaecaaa.PartM Go.Proofs.Ytlfmkiendaecaaa.PartW Go.Proofs.Ytlfmkiendaecaaa.TxM
def UsedC (f : FuncId) : Prop := ∀ {C : Array Value} {m : Mc} (w : World), IsM w.heap.size w C m → Calls Try.prog f #[.agg C] w fun e w' => ∃ v, e = .returned v ∧ RxT (fun k => k < w.heap.size) w' v (usedV m) ∧ Below w.heap.size w w'
def UnionC (f : FuncId) : Prop := ∀ {v : Value} {ll : List (List ByteArray)} (w : World), LS w.heap.size w v ll → ll.flatten.length ≤ 4194303 → (∀ x ∈ ll.flatten, x.size ≤ maxLen) → Calls Try.prog f #[v] w fun e w' => ∃ v', e = .returned v' ∧ RxT (fun k => k < w.heap.size) w' v' (risen ll.flatten) ∧ Below w.heap.size w w'
def NamesC (f : FuncId) : Prop := ∀ {C : Array Value} {m : Mc} {v : Value} {l : List ByteArray} {X : Nat → Prop} (w : World), Rx X w C m → RxT X w v l → (∀ k, X k → k < w.heap.size) → Calls Try.prog f #[.agg C, v] w fun e w' => ∃ D, e = .returned (.tuple #[.agg D, .int .i64 (namesE m l)]) ∧ Rx X w' D (namesM m l) ∧ Below w.heap.size w w'
def NormC (f : FuncId) : Prop := ∀ {C : Array Value} {m : Mc} {X : Nat → Prop} (w : World), Rx X w C m → (∀ k, X k → k < w.heap.size) → Calls Try.prog f #[.agg C] w fun e w' => ∃ D, e = .returned (.tuple #[.agg D, .int .i64 (namesE m (usedV m))]) ∧ Rx X w' D (namesM m (usedV m)) ∧ Below w.heap.size w w'
def OnlyC (f : FuncId) : Prop := ∀ {C : Array Value} {m : Mc} {X : Nat → Prop} (w : World), Rx X w C m → ∀ (s : ByteArray), s.size ≤ 9223372036854775807 → (∀ k, X k → k < w.heap.size) → Calls Try.prog f #[.agg C, .string s] w fun e w' => ∃ D, e = .returned (.tuple #[.agg D, .int .i64 (onlyE m s)]) ∧ Rx X w' D (onlyM m s) ∧ Below w.heap.size w w'
def PlusC (f : FuncId) : Prop := ∀ {C : Array Value} {m : Mc} {X : Nat → Prop} (w : World), Rx X w C m → (∀ k, X k → k < w.heap.size) → Calls Try.prog f #[.agg C] w fun e w' => ∃ D, e = .returned (.tuple #[.agg D, .int .i64 (plusE m)]) ∧ Rx X w' D (plusM m) ∧ Below w.heap.size w w'
def KnowsC : Prop := ∀ w : World, Calls Try.prog 12 #[] w fun e w' => e = .returned (.bool true) ∧ Below w.heap.size w w'
theorem refUsedC : UsedC 9 := fun {C m} w h => (refUsed_any w h).mono fun e w' ⟨v, h1, h2, h3⟩ => ⟨v, h1, h2.rx (used_szs m) fun _ h => h, h3⟩
theorem refUnionC : UnionC 11 := fun {v ll} w h hl _ => (refUnion_any w h hl).mono fun e w' ⟨v, h1, h2, h3⟩ => ⟨v, h1, h2.rx (risen_szs h.szs) fun _ h => h, h3⟩
theorem refNamesC : NamesC 14 := fun w h1 h2 h3 => refNames_any w h1 h2 h3
theorem refNormC : NormC 17 := fun w h1 h2 => refNorm_any w h1 h2
theorem refOnlyC : OnlyC 19 := fun w h1 s hs h2 => refOnly_any w h1 s hs h2
theorem refPlusC : PlusC 21 := fun w h1 h2 => refPlus_any w h1 h2
/-- What was handed in, robust against all that was made since. -/
theorem IsM.rxb {n : Nat} {w W : World} {C : Array Value} {m : Mc} (h : IsM n w C m) (hn : n ≤ w.heap.size) (hb : Below n w W) : Rx (fun k => n ≤ k ∧ k < W.heap.size) W C m := ((h.below hb).rx (Nat.le_trans hn hb.size)).mono fun k hk => hk.1
theorem TS.rxb {n : Nat} {w W : World} {v : Value} {l : List ByteArray} (h : TS n w v l) (hn : n ≤ w.heap.size) (hb : Below n w W) : RxT (fun k => n ≤ k ∧ k < W.heap.size) W v l := ((h.below hb).rx (Nat.le_trans hn hb.size)).mono fun k hk => hk.1
theorem same_of (m : Mc) : SameM m m := ⟨by simp [sameA], rfl, rfl, rfl, rfl⟩
/-- A machine stored in a box that was there, or in a new one. -/
theorem Rx.box {X : Nat → Prop} {w : World} {D E : Array Value} {m : Mc} {b : Nat} (h : Rx X w D m) (hb : X b) (ha : Ar w b E 27) : Ar (w.setRow b D) b D 27 ∧ Rx X (w.setRow b D) D m := ⟨ha.row D, h.row hb D⟩
theorem Rx.fresh {X : Nat → Prop} {w : World} {D : Array Value} {m : Mc} (h : Rx X w D m) : Ar ((w.alloc (.cells Try.zeroCells27 27)).setRow w.heap.size D) w.heap.size D 27 ∧ Rx (fun k => X k ∨ w.heap.size ≤ k) ((w.alloc (.cells Try.zeroCells27 27)).setRow w.heap.size D) D m :=
  ⟨(Ar.new _ _ _).row D, (h.free ((Below.refl _ w).alloc (Nat.le_refl _) _)).row (.inr (Nat.le_refl _)) D⟩
end Go.Proofs.Ytlfmkiendaecaaa.DfaW
