/- A range over a function of which each thing is told what it is in the world in which it comes: the caller's side, once for all. -/
import Derived.RangeFuncNested
import Derived.RangeFuncBound
import Derived.RangeFuncCalls
import Derived.RangeFuncLeaves
namespace Go.Proofs.Ytfhddbjojpmbcaa.DfaW
set_option linter.unusedVariables false
open Go.RowKit
section
variable {F : Fence} {n : Nat} {P : Program}
/-- What a sequence of T things owes: of the k-th one, x, it tells R k x where it hands it on; what it wants of a round that goes on is Kp. -/
def SeqTells {α : Type} (F : Fence) (n : Nat) (P : Program) (g : Nat) (lb : Array Value) (encs : α → Array Value) (Kp : World → World → Prop) (R : Nat → α → World → Prop) (T : Nat) (w : World) : Prop :=
  ∀ (l : Nat) (J Jx : List α → World → Prop) (W : World), Below w.heap.size w W → AbidesFrom W.heap.size J →
    (∀ pre x W1, J pre W1 → pre.length < T → R pre.length x W1 → YieldAt F (n - 1) P l (encs x) W1 fun e W' => (e = .returned (.bool true) ∧ J (pre ++ [x]) W' ∧ Kp W1 W') ∨ (e = .returned (.bool false) ∧ Jx (pre ++ [x]) W')) →
    J [] W → CallsIn F n P g (#[.func (.yield l) #[] #[]] ++ lb) W fun e W' => (∃ v, e = .returned v) ∧ ((∃ xs, xs.length = T ∧ J xs W') ∨ ∃ pre, Jx pre W')
/-- The loop's two blocks of its own: its record, and ahead of it what its rounds put off: nothing. -/
def Book (B : Nat) (r : Loop) (W : World) : Prop := W.heap[B + 1]? = some (.loop r) ∧ W.heap[B]? = some (.deferred (some []))
theorem Book.keep {B : Nat} {r : Loop} {X Y : World} (h : Book B r X) (k : KeepsFrom B X Y) : Book B r Y := ⟨k.same _ _ (Nat.le_succ _) h.1 rfl, k.same _ _ (Nat.le_refl _) h.2 rfl⟩
theorem Book.put {B : Nat} {r : Loop} {X : World} (h : Book B r X) (r' : Loop) : Book B r' (X.putObj (B + 1) (.loop r')) :=
  ⟨World.putObj_heap_same (Array.getElem?_eq_some_iff.1 h.1).1, (World.putObj_heap_other (by omega)).trans h.2⟩
theorem Book.own {B : Nat} {r : Loop} {X Y : World} {row : Option Nat} (h : Book B r X) (hg : X.grownBy Y row) (hr : ∀ k, row = some k → ∃ o : Obj, X.heap[k]? = some o ∧ o.isWalk = true) : Book B r Y :=
  ⟨(grownBy_keeps hg hr h.1 rfl).trans h.1, (grownBy_keeps hg hr h.2 rfl).trans h.2⟩
theorem Book.laid (w : World) (r : Loop) : Book w.heap.size r ((w.alloc (.deferred (some []))).alloc (.loop r)) := by
  refine ⟨?_, (Below.heap_alloc _ _ _ (by simp)).trans (World.alloc_heap_new w _)⟩
  have := World.alloc_heap_new (w.alloc (.deferred (some []))) (.loop r)
  rwa [World.size_alloc] at this
theorem range_tells {α : Type} {g : Operand} {ps : Array Tmp} {assign body : Code} {Q : Exit → Act → World → Prop} {a : Act} {w w0 : World} {gf : Nat} {lb : Array Value} {encs : α → Array Value}
    {Kp : World → World → Prop} {R : Nat → α → World → Prop} {T : Nat}
    (hro : F.round = none) (h1 : 1 ≤ n) (hg : a.eval g = .func (.func gf) #[] lb) (hFg : F.fn gf) (eg : ∀ args w, (callFunc gf args).run P w = .ok (.enter gf args) w)
    (hseq : SeqTells F (n - 1) P gf lb encs Kp R T w0) (hb0 : Below w0.heap.size w0 w) (hps : ∀ x, (encs x).size = ps.size)
    (hKt : ∀ {A B C : World}, Kp A B → Kp B C → Kp A C) (hKb : ∀ (W : World) (l : Nat) (r r' : Loop), w.heap.size ≤ l → W.heap[l]? = some (.loop r) → Kp W (W.putObj l (.loop r')))
    (I : List α → World → Prop) (Ix : Code → List α → World → Prop) (hI : OwnFrom w.heap.size I) (hIx : ∀ c, OwnFrom w.heap.size (Ix c)) (h0 : I [] w)
    (M : List α → α → Act → World → Prop) (hM : ∀ pre x a', OwnFrom w.heap.size (fun (_ : Unit) W => M pre x a' W))
    (hassign : ∀ (l : Nat) (pre : List α) (x : α) (W : World), I pre W → pre.length < T → R pre.length x W →
      assign.wpIn (F.inRound l) (n - 1 - 1) P (Exit.then (fun a' W' => KeepsFrom w.heap.size W W' ∧ Kp W W' ∧ M pre x a' W') (fun _ _ _ => False)) { tmps := (ps.zip (encs x)).foldl (fun t (p, v) => t.setIfInBounds p v) a.tmps, defers := [] } W)
    (hbody : ∀ (l : Nat) (pre : List α) (x : α) (a' : Act) (W : World), M pre x a' W → pre.length < T → body.wpIn (F.inRound l) (n - 1 - 1) P (ownPostG w.heap.size Kp I Ix (pre ++ [x]) W) a' W)
    (hdone : ∀ (D : Nat) (xs : List α) (W : World), w.heap.size ≤ D → xs.length = T → I xs W → W.heap[D]? = some (.deferred (some [])) → Q .normal { a with defers := { target := .collected D, args := #[] } :: a.defers } W)
    (hstop : ∀ (D : Nat) (c : Code) (pre : List α) (W : World), w.heap.size ≤ D → Ix c pre W → W.heap[D]? = some (.deferred (some [])) → c.wpIn F n P Q { a with defers := { target := .collected D, args := #[] } :: a.defers } W) :
    (Code.rangeFunc g ps assign body).wpIn F n P Q a w := by
  refine wpIn_rangeFunc fun fn hfn => ?_
  rw [hro]
  obtain ⟨rc, hrc⟩ : ∃ rc : LoopState → Option Code → Loop, rc = fun st pe => { state := st, pending := pe, fn, tmps := a.tmps, params := ps, assign, body, defers := w.heap.size } := ⟨_, rfl⟩
  obtain ⟨W1, hW1⟩ : ∃ W1, (w.alloc (.deferred (some []))).alloc (.loop (rc .ready none)) = W1 := ⟨_, rfl⟩
  have hB : Book w.heap.size (rc .ready none) W1 := by rw [← hW1]; exact Book.laid _ _
  have hs1 : w.heap.size ≤ W1.heap.size := by rw [← hW1]; simp; omega
  have hI1 : I [] W1 := by rw [← hW1]; exact hI.alloc _ (hI.alloc _ h0)
  have hbW : Below w0.heap.size w0 W1 := by rw [← hW1]; exact hb0.trans ((((Below.refl _ w).alloc (Nat.le_refl _) _).alloc (by simp) _).mono hb0.size)
  refine ⟨w.heap.size + 1, [{ target := .collected w.heap.size, args := #[] }], W1, { target := .fn (.func gf) lb, args := #[.func (.yield (w.heap.size + 1)) #[] #[]] }, W1, gf,
    #[.func (.yield (w.heap.size + 1)) #[] #[]] ++ lb, W1, by rw [← hW1, hrc]; exact run_enterLoop_outer _ _ _ _ _, by simp only [resolve, hg]; simp [go_sem], fun f' hf' => ?_, by simp [invoke, go_sem, eg], fun _ => h1, ?_⟩
  · simp [Target.leads] at hf'; subst hf'; exact hFg
  refine (hseq (w.heap.size + 1) (fun pre W => I pre W ∧ Book w.heap.size (rc .ready none) W) (fun pre W => ∃ c, Ix c pre W ∧ Book w.heap.size (rc .done (some c)) W) W1 hbW ?own ?round ⟨hI1, hB⟩).mono ?behind
  case own =>
    intro s X Y row hs hgr hr
    exact ⟨hI s X Y row hs.1 hgr fun k e => by obtain ⟨hk, o, ho, hw⟩ := hr k e; exact ⟨by omega, o, ho, Obj.not_cells_of_walk hw⟩, hs.2.own hgr fun k e => (hr k e).2⟩
  case round =>
    rintro pre x W ⟨hi, hb⟩ hlt hR
    have hy := run_yield (P := P) (args := encs x) hb.1 (by rw [hrc]; exact hps x)
    rw [hrc] at hy
    refine ⟨fn, _, assign, body, hy, roundIn_of_wpIn hfn (wpIn_mono (hassign _ pre x W hi hlt hR) ?_)⟩
    intro e a' Wa hpost
    cases e with
    | normal =>
      obtain ⟨hk, hkp, hm⟩ : KeepsFrom w.heap.size W Wa ∧ Kp W Wa ∧ M pre x a' Wa := hpost
      have hb2 := hb.keep hk
      have e1 : ({ rc .ready none with state := .busy } : Loop) = rc .busy none := by rw [hrc]
      have hbr := run_beginRound (P := P) hb2.1 (by rw [hrc])
      rw [e1] at hbr
      refine ⟨_, hbr, wpIn_mono (hbody _ pre x a' _ ((hM pre x a').putObj (s := ()) _ hm (Nat.le_succ _) hb2.1 rfl) hlt) ?_⟩
      have hb3 := hb2.put (rc .busy none)
      have hk3 := hKb _ _ _ (rc .busy none) (Nat.le_succ _) hb2.1
      have fin : ∀ (jump : Option Code) (W3 : World), KeepsFrom w.heap.size (Wa.putObj (w.heap.size + 1) (.loop (rc .busy none))) W3 →
          (Instr.endRound (w.heap.size + 1) jump).run P W3 = .ok (.bool jump.isNone) (W3.putObj (w.heap.size + 1) (.loop (rc (if jump.isNone then .ready else .done) jump))) ∧
          W3.heap[w.heap.size + 1]? = some (.loop (rc .busy none)) ∧ Book w.heap.size (rc (if jump.isNone then .ready else .done) jump) (W3.putObj (w.heap.size + 1) (.loop (rc (if jump.isNone then .ready else .done) jump))) := fun jump W3 hk => by
        have h3 := hb3.keep hk
        have := run_endRound (P := P) jump h3.1
        rw [hrc] at this h3 ⊢
        exact ⟨this, h3.1, h3.put _⟩
      have out : ∀ (c : Code) (W3 : World), KeepsFrom w.heap.size (Wa.putObj (w.heap.size + 1) (.loop (rc .busy none))) W3 → Ix c (pre ++ [x]) W3 →
          ∃ u W4, (Instr.endRound (w.heap.size + 1) (some c)).run P W3 = .ok u W4 ∧ u = .bool false ∧ ∃ c, Ix c (pre ++ [x]) W4 ∧ Book w.heap.size (rc .done (some c)) W4 := fun c W3 hk hx => by
        obtain ⟨hr, hl, hb4⟩ := fin (some c) W3 hk
        exact ⟨_, _, hr, rfl, c, (hIx c).putObj _ hx (Nat.le_succ _) hl rfl, hb4⟩
      intro e2 a3 W3 hp
      cases e2 with
      | normal =>
        obtain ⟨hk4, hkp4, hi4⟩ := hp
        obtain ⟨hr, hl, hb4⟩ := fin none W3 hk4
        exact ⟨_, _, hr, .inl ⟨rfl, ⟨hI.putObj _ hi4 (Nat.le_succ _) hl rfl, hb4⟩, hKt hkp (hKt (hKt hk3 hkp4) (hKb _ _ _ _ (Nat.le_succ _) hl))⟩⟩
      | ret => obtain ⟨u, W4, hr, rfl, h⟩ := out .ret W3 hp.1 hp.2; exact ⟨_, _, hr, .inr ⟨rfl, h⟩⟩
      | exit id => obtain ⟨u, W4, hr, rfl, h⟩ := out (.exit id) W3 hp.1 hp.2; exact ⟨_, _, hr, .inr ⟨rfl, h⟩⟩
      | goto t => obtain ⟨u, W4, hr, rfl, h⟩ := out (.goto t) W3 hp.1 hp.2; exact ⟨_, _, hr, .inr ⟨rfl, h⟩⟩
      | panic ch => exact hp.elim
      | outgrown => exact hp.elim
    | _ => exact hpost.elim
  case behind =>
    rintro e W2 ⟨⟨v, rfl⟩, (⟨xs, hT, hi, hb⟩ | ⟨pre, c, hi, hb⟩)⟩
    · have hr := run_endLoop (P := P) hb.1 (by rw [hrc]; simp)
      rw [hrc] at hr
      exact ⟨none, _, hr, hdone _ xs _ (Nat.le_refl _) hT (hI.putObj _ hi (Nat.le_succ _) hb.1 rfl) ((World.putObj_heap_other (by omega)).trans hb.2)⟩
    · have hr := run_endLoop (P := P) hb.1 (by rw [hrc]; simp)
      rw [hrc] at hr
      exact ⟨some c, _, hr, hstop _ c pre _ (Nat.le_refl _) ((hIx c).putObj _ hi (Nat.le_succ _) hb.1 rfl) ((World.putObj_heap_other (by omega)).trans hb.2)⟩
end
end Go.Proofs.Ytfhddbjojpmbcaa.DfaW
