/- A machine all of whose memory is a call's own; slices.Clone in plain words. -/
import Derived.Test.YtlfmkiendaecaaaMade2
import Derived.Test.YtlfmkiendaecaaaMach
namespace Go.Proofs.Ytlfmkiendaecaaa.DfaW
set_option linter.unusedVariables false
set_option linter.unusedSimpArgs false
open Go.RowKit Go.Maps Go.Proofs.Ytlfmkiendaecaaa.PartM Go.Proofs.Ytlfmkiendaecaaa.PartW Go.Proofs.Ytlfmkiendaecaaa.TxM
theorem cloneI_any {B : Nat} {a : Option Addr} {n c : Nat} {l : List Int} (w : World) (h : IS B w (.slice a n c) l) (hl : l.length ≤ 65536) : Calls Try.prog 42 #[.slice a n c] w fun e w' => ∃ v', e = .returned v' ∧ OI w' w.heap.size v' l ∧ Below w.heap.size w w' := by
  obtain ⟨a', cap, he, h1, h2, h3⟩ := h.open
  simp only [Value.slice.injEq] at he
  obtain ⟨rfl, rfl, rfl⟩ := he
  rcases Nat.eq_zero_or_pos l.length with h0 | h0
  · obtain rfl := List.length_eq_zero_iff.1 h0
    cases a with
    | none => exact (Try.slices_Clone_int_nil 0 c w).mono fun e w' ⟨h, hw⟩ => ⟨_, h, OI.nil _ _, by rw [hw]; exact Below.refl _ _⟩
    | some ad => exact (Try.slices_Clone_int_zero ad c w).mono fun e w' ⟨v', h, ho, _, hb⟩ => ⟨v', h, ho, hb⟩
  · obtain ⟨b, o, rfl, hb, hc⟩ := IS.cells (cap := c) h3 h0
    refine (Try.slices_Clone_int b o l.length c l w (Nat.le_refl _) (by omega) (fun j hj => by rw [hc j hj])).mono fun e w' ⟨v', h, ho, _, hb⟩ => ⟨v', h, ?_, hb⟩
    rw [List.take_length] at ho
    exact ho
theorem cloneS_any {B : Nat} {a : Option Addr} {n c : Nat} {l : List ByteArray} (w : World) (h : TS B w (.slice a n c) l) (hl : l.length ≤ 65536) : Calls Try.prog 58 #[.slice a n c] w fun e w' => ∃ v', e = .returned v' ∧ OS w' w.heap.size v' l ∧ Below w.heap.size w w' := by
  obtain ⟨a', cap, he, h1, h2, h3⟩ := h.open
  simp only [Value.slice.injEq] at he
  obtain ⟨rfl, rfl, rfl⟩ := he
  rcases Nat.eq_zero_or_pos l.length with h0 | h0
  · obtain rfl := List.length_eq_zero_iff.1 h0
    cases a with
    | none => exact (Try.slices_Clone_string_nil 0 c w).mono fun e w' ⟨h, hw⟩ => ⟨_, h, OS.nil _ _, by rw [hw]; exact Below.refl _ _⟩
    | some ad => exact (Try.slices_Clone_string_zero ad c w).mono fun e w' ⟨v', h, ho, _, hb⟩ => ⟨v', h, ho, hb⟩
  · obtain ⟨b, o, rfl, hb, hc⟩ := TS.cells (cap := c) h3 h0
    refine (Try.slices_Clone_string b o l.length c l w (Nat.le_refl _) (by omega) (fun j hj => by rw [hc j hj])).mono fun e w' ⟨v', h, ho, _, hb⟩ => ⟨v', h, ?_, hb⟩
    rw [List.take_length] at ho
    exact ho
theorem own_uniq {w : World} {b b' : Nat} {e e' : TypeId} {v : Value} {n n' : Nat} {xs xs' : List Value} (h : w.ownsRow b e 1 v n xs) (h' : w.ownsRow b' e' 1 v n' xs') : xs = xs' := by
  rcases h.2 with ⟨rfl, h0⟩ | ⟨g, cap, cur, rfl, _, hh, _, _, _, hx⟩
  · rcases h'.2 with ⟨_, h0'⟩ | ⟨g', cap', cur', e, _⟩
    · rw [List.length_eq_zero_iff.1 (h.1.trans (by omega)), List.length_eq_zero_iff.1 (h'.1.trans (by omega))]
    · simp at e
  · rcases h'.2 with ⟨e, _⟩ | ⟨g', cap', cur', e, _, hh', _, _, _, hx'⟩
    · simp at e
    · simp only [Value.slice.injEq, Option.some.injEq, Addr.mk.injEq, and_true] at e
      obtain ⟨rfl, rfl, _⟩ := e
      rw [hh] at hh'
      injection hh' with hh'
      injection hh' with hh'
      rw [← hx, ← hx', hh']
/-- No two lie in one block. -/
def Dis (vs : List Value) : Prop := vs.Pairwise fun a b => ∀ g, a.ownBlock = some g → b.ownBlock ≠ some g
theorem Dis.snoc {vs : List Value} (h : Dis vs) {v : Value} (hv : ∀ a ∈ vs, ∀ g, a.ownBlock = some g → v.ownBlock ≠ some g) : Dis (vs ++ [v]) :=
  List.pairwise_append.2 ⟨h, by simp, fun a ha b hb => by rw [List.mem_singleton.1 hb]; exact hv a ha⟩
structure Own (w : World) (B : Nat) (v1 v2 u : Value) (Ms : List (List Int)) (ls : List Int) (l : List ByteArray) : Prop where
  o1 : ∃ vs, w.ownsRow B 24 1 v1 Ms.length vs ∧ (∀ i, i < Ms.length → ∃ vi, vs[i]? = some vi ∧ OI w B vi (Ms.getD i []) ∧ ∀ g, vi.ownBlock = some g → v2.ownBlock ≠ some g) ∧ Dis vs
  o2 : OI w B v2 ls
  o3 : OS w B u l
section
variable {w : World} {B : Nat} {v1 v2 u : Value} {Ms : List (List Int)} {ls : List Int} {l : List ByteArray}
theorem own_keepB {w w' : World} {b B : Nat} {e : TypeId} {s : Nat} {v : Value} {n : Nat} {xs : List Value} (h : w.ownsRow b e s v n xs) (hB : B ≤ b) (hk : ∀ k, B ≤ k → k < w.heap.size → w'.heap[k]? = w.heap[k]?) : w'.ownsRow b e s v n xs :=
  own_keep h fun g hg => hk g (by have := (own_at h hg).2.1; omega) (own_at h hg).2.2
theorem Own.keep {w' : World} (h : Own w B v1 v2 u Ms ls l) (hk : ∀ k, B ≤ k → k < w.heap.size → w'.heap[k]? = w.heap[k]?) : Own w' B v1 v2 u Ms ls l := by
  obtain ⟨vs, h1, h2, h3⟩ := h.o1
  refine ⟨⟨vs, own_keepB h1 (Nat.le_refl _) hk, fun i hi => ?_, h3⟩, own_keepB h.o2 (Nat.le_refl _) hk, own_keepB h.o3 (Nat.le_refl _) hk⟩
  obtain ⟨vi, k1, k2, k3⟩ := h2 i hi
  exact ⟨vi, k1, own_keepB k2 (Nat.le_refl _) hk, k3⟩
theorem Own.below {w' : World} (h : Own w B v1 v2 u Ms ls l) (hb : Below w.heap.size w w') : Own w' B v1 v2 u Ms ls l := h.keep fun k _ h => hb.block k h
theorem Own.base {B' : Nat} (h : Own w B v1 v2 u Ms ls l) (hB : B' ≤ B) : Own w B' v1 v2 u Ms ls l := by
  obtain ⟨vs, h1, h2, h3⟩ := h.o1
  refine ⟨⟨vs, owns_base h1 hB, fun i hi => ?_, h3⟩, owns_base h.o2 hB, owns_base h.o3 hB⟩
  obtain ⟨vi, k1, k2, k3⟩ := h2 i hi
  exact ⟨vi, k1, owns_base k2 hB, k3⟩
theorem rows_rx {w : World} {v1 : Value} {vs : List Value} (h1 : w.ownsRow B 24 1 v1 Ms.length vs) (h2 : ∀ i, i < Ms.length → ∃ vi, vs[i]? = some vi ∧ OI w B vi (Ms.getD i [])) : RS w.heap.size w v1 Ms := by
  have hl : vs.length = Ms.length := by have := h1.1; simpa using this
  refine ⟨vs, VS.of_owns h1 fun a c e => ?_, hl, fun i hi => ?_⟩
  · rcases h1.2 with ⟨e2, _⟩ | ⟨g, cap, cur, e2, _, _, _, hc, _⟩
    · rw [e2] at e; simp only [Value.slice.injEq] at e; have := e.2.2; omega
    · rw [e2] at e; simp only [Value.slice.injEq] at e; rw [← e.2.2]; exact hc
  · obtain ⟨vi, h3, h4⟩ := h2 i hi
    exact ⟨vi, h3, OI.is h4⟩
/-- It is a machine, whatever becomes of X. -/
theorem Own.rx {X : Nat → Prop} (h : Own w B v1 v2 u Ms ls l) {A : Array Value} {f : Nat → Nat} (hA : IsA A f) (hf : ∀ i, i < 256 → f i < 256) (hz : Szs l) (hX : ∀ k, X k → k < B) (x : Int) : Rx X w (mkC A (.int .i64 x) v1 v2 u) ⟨f, x, Ms, ls, l⟩ := fun w'' a => by
  have h' : Own w'' B v1 v2 u Ms ls l := h.keep fun k h1 h2 => a.block k (fun x => by have := hX k x; omega) h2
  obtain ⟨vs, k1, k2, _⟩ := h'.o1
  exact mkC_is (m := ⟨f, x, Ms, ls, l⟩) hA hf (rows_rx k1 fun i hi => by obtain ⟨vi, q1, q2, _⟩ := k2 i hi; exact ⟨vi, q1, q2⟩) h'.o2.is (h'.o3.is hz)
theorem Own.is (h : Own w B v1 v2 u Ms ls l) {A : Array Value} {f : Nat → Nat} (hA : IsA A f) (hf : ∀ i, i < 256 → f i < 256) (hz : Szs l) (x : Int) : IsM w.heap.size w (mkC A (.int .i64 x) v1 v2 u) ⟨f, x, Ms, ls, l⟩ := (h.rx (X := fun _ => False) hA hf hz (fun _ h => h.elim) x).is
end
theorem Kept.own {W wr : World} {bk B B' : Nat} {A : Array Value} {x : Int} {v1 v2 u : Value} {Ms : List (List Int)} {ls : List Int} {l : List ByteArray} (h : Kept W wr bk B A x v1 v2 u Ms ls) (hd : ∃ vs, wr.ownsRow B 24 1 v1 Ms.length vs ∧ Dis vs) (hu : OS wr B' u l) (hB : B' ≤ B) : Own wr B' v1 v2 u Ms ls l := by
  obtain ⟨vs, h1, h2⟩ := h.o1
  obtain ⟨vs', h1', hd⟩ := hd
  obtain rfl := own_uniq h1 h1'
  refine ⟨⟨vs, owns_base h1 hB, fun i hi => ?_, hd⟩, owns_base h.o2 hB, hu⟩
  obtain ⟨vi, k1, k2, k3⟩ := h2 i hi
  exact ⟨vi, k1, owns_base k2 hB, k3⟩
end Go.Proofs.Ytlfmkiendaecaaa.DfaW
