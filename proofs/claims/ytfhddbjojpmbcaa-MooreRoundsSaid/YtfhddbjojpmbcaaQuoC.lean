/- What is asked of the program's calls, in the words of blocks. -/
import Derived.Test.YtfhddbjojpmbcaaFits
import Derived.Test.YtfhddbjojpmbcaaSameL
namespace Go.Proofs.Ytfhddbjojpmbcaa.DfaW
set_option linter.unusedVariables false
open Go.RowKit Go.Maps Go.Proofs.Ytfhddbjojpmbcaa.PartM Go.Proofs.Ytfhddbjojpmbcaa.PartW
def NormC (f : FuncId) : Prop := ∀ {v : Value} {l : List Int} (w : World), IS w.heap.size w v l → I64 l → l.length ≤ 1048576 → Calls Try.prog f #[v] w fun e w' => ∃ v', e = .returned v' ∧ OI w' w.heap.size v' (normV l) ∧ Below w.heap.size w w'
def JoinC (f : FuncId) : Prop := ∀ {va vb : Value} {a b : List Int} (w : World), IS w.heap.size w va a → IS w.heap.size w vb b → I64 a → I64 b → a.length ≤ 1048576 → Calls Try.prog f #[va, vb] w fun e w' => ∃ v', e = .returned v' ∧ OI w' w.heap.size v' (joinV a b) ∧ Below w.heap.size w w'
def FinerC (f : FuncId) : Prop := ∀ {va vb : Value} {a b : List Int} (w : World), IS w.heap.size w va a → IS w.heap.size w vb b → I64 a → I64 b → a.length ≤ 1048576 → Calls Try.prog f #[va, vb] w fun e w' => Says e (FinerP a b) ∧ Below w.heap.size w w'
def StableC (f : FuncId) : Prop := ∀ {C : Array Value} {m : Mc} {v : Value} {l : List Int} (w : World), IsM w.heap.size w C m → IS w.heap.size w v l → I64 l → Calls Try.prog f #[.agg C, v] w fun e w' => Says e (StableP m l) ∧ Below w.heap.size w w'
def OfC (f : FuncId) : Prop := ∀ {C : Array Value} {m : Mc} {v : Value} {l : List Int} {X : Nat → Prop} (w : World), Rx X w C m → IS w.heap.size w v l → I64 l → (∀ k, X k → k < w.heap.size) → Calls Try.prog f #[.agg C, v] w fun e w' => ∃ D, e = .returned (.tuple #[.agg D, .int .i64 (ofE m l)]) ∧ Rx X w' D (ofM m l) ∧ Below w.heap.size w w'
def ClassesC (f : FuncId) : Prop := ∀ {C : Array Value} {m : Mc} (w : World), IsM w.heap.size w C m → Calls Try.prog f #[.agg C] w fun e w' => ∃ A, e = .returned (.tuple #[.agg A, .int .i64 (clsN m)]) ∧ IsA A (clsV m) ∧ Below w.heap.size w w'
def MergeC (f : FuncId) : Prop := ∀ {C : Array Value} {m : Mc} {X : Nat → Prop} (w : World), Rx X w C m → (∀ k, X k → k < w.heap.size) → Calls Try.prog f #[.agg C] w fun e w' => ∃ D, e = .returned (.tuple #[.agg D, .int .i64 (mergeE m)]) ∧ Rx X w' D (mergeM m) ∧ Below w.heap.size w w'
def KnowsC : Prop := ∀ w : World, Calls Try.prog 11 #[] w fun e w' => e = .returned (.bool true) ∧ Below w.heap.size w w'
/-- What was handed in, robust against all that was made since. -/
theorem IsM.rxb {n : Nat} {w W : World} {C : Array Value} {m : Mc} (h : IsM n w C m) (hn : n ≤ w.heap.size) (hb : Below n w W) : Rx (fun k => n ≤ k ∧ k < W.heap.size) W C m := ((h.below hb).rx (Nat.le_trans hn hb.size)).mono fun k hk => hk.1
theorem Rx.fresh {X : Nat → Prop} {w : World} {D : Array Value} {m : Mc} (h : Rx X w D m) : Ar ((w.alloc (.cells Try.zeroCells27 27)).setRow w.heap.size D) w.heap.size D 27 ∧ Rx (fun k => X k ∨ w.heap.size ≤ k) ((w.alloc (.cells Try.zeroCells27 27)).setRow w.heap.size D) D m :=
  ⟨(Ar.new _ _ _).row D, (h.free ((Below.refl _ w).alloc (Nat.le_refl _) _)).row (.inr (Nat.le_refl _)) D⟩
theorem Says.bool {e : Ending} {p : Prop} {b : Bool} (h : Says e p) (hb : b = true ↔ p) : e = .returned (.bool b) := by
  rcases h.elim with ⟨rfl, hp⟩ | ⟨rfl, hp⟩
  · rw [hb.2 hp]
  · cases b with
    | false => rfl
    | true => exact absurd (hb.1 rfl) hp
theorem Says.true {e : Ending} {p : Prop} (h : Says e p) (hp : p) : e = .returned (.bool true) := h.bool (by simp [hp])
end Go.Proofs.Ytfhddbjojpmbcaa.DfaW
