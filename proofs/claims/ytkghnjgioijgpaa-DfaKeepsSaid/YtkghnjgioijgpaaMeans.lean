/- The library's calls on slices, in the plain words of these texts. -/
import Derived.Test.YtkghnjgioijgpaaShelf
import Derived.Test.YtkghnjgioijgpaaName
namespace Go.Proofs.Ytkghnjgioijgpaa.DfaW
set_option linter.unusedVariables false
open Go.RowKit Go.Maps
theorem below_drewN {B : Nat} {a w : World} (h : Below B a w) (n : Nat) : Below B a (w.drewN n) := ⟨h.os, h.tape, h.output, h.size, h.block⟩
/-- The cells of a slice that is not empty, all in one place. -/
theorem IS.cells {B : Nat} {w : World} {a : Option Addr} {cap : Nat} {l : List Int} (h : ∀ i, i < l.length → ∃ b o : Nat, a = some ⟨b, o, none⟩ ∧ b < B ∧ w.cell? ⟨b, o + i, none⟩ = some (.int .i64 (l.getD i 0))) (h0 : 0 < l.length) :
    ∃ b o : Nat, a = some ⟨b, o, none⟩ ∧ b < B ∧ ∀ j, j < l.length → w.cell? ⟨b, o + j, none⟩ = some (.int .i64 (l.getD j 0)) := by
  obtain ⟨b, o, h1, h2, _⟩ := h 0 h0
  refine ⟨b, o, h1, h2, fun j hj => ?_⟩
  obtain ⟨b', o', h3, _, h4⟩ := h j hj
  rw [h1] at h3
  simp only [Option.some.injEq, Addr.mk.injEq, and_true] at h3
  rw [h3.1, h3.2]; exact h4
theorem TS.cells {B : Nat} {w : World} {a : Option Addr} {cap : Nat} {l : List ByteArray} (h : ∀ i, i < l.length → ∃ b o : Nat, a = some ⟨b, o, none⟩ ∧ b < B ∧ w.cell? ⟨b, o + i, none⟩ = some (.string (l.getD i ByteArray.empty))) (h0 : 0 < l.length) :
    ∃ b o : Nat, a = some ⟨b, o, none⟩ ∧ b < B ∧ ∀ j, j < l.length → w.cell? ⟨b, o + j, none⟩ = some (.string (l.getD j ByteArray.empty)) := by
  obtain ⟨b, o, h1, h2, _⟩ := h 0 h0
  refine ⟨b, o, h1, h2, fun j hj => ?_⟩
  obtain ⟨b', o', h3, _, h4⟩ := h j hj
  rw [h1] at h3
  simp only [Option.some.injEq, Addr.mk.injEq, and_true] at h3
  rw [h3.1, h3.2]; exact h4
theorem max63 {n : Nat} (h : n ≤ maxLen) : n ≤ 9223372036854775807 := h
theorem ContainsI_any {B : Nat} {w : World} {v : Value} {l : List Int} (h : IS B w v l) (x : Int) :
    Calls Try.prog 64 #[v, .int .i64 x] w fun e w' => e = .returned (.bool (l.contains x)) ∧ w = w' := by
  obtain ⟨a, cap, rfl, h1, h2, h3⟩ := h.open
  rcases Nat.eq_zero_or_pos l.length with h0 | h0
  · have : l = [] := List.length_eq_zero_iff.1 h0
    subst this
    exact (Try.slices_Contains_int_empty a cap x w).mono fun e w' ⟨a, b⟩ => ⟨a, b.symm⟩
  · obtain ⟨b, o, rfl, hb, hc⟩ := IS.cells (cap := cap) h3 h0
    have := Try.slices_Contains_int b o l.length cap l x w (Nat.le_refl _) (by unfold maxLen at h2; omega) hc
    rw [List.take_length] at this
    exact this.mono fun e w' ⟨a, b⟩ => ⟨a, b.symm⟩
theorem ContainsS_pre {B : Nat} {w : World} {a : Option Addr} {cap : Nat} {l : List ByteArray} (h : TS B w (.slice a l.length cap) l) (n c : Nat) (hn : n ≤ l.length) (x : ByteArray) :
    Calls Try.prog 55 #[.slice a n c, .string x] w fun e w' => (∃ b, e = .returned (.bool b) ∧ (b = true ↔ x ∈ l.take n)) ∧ w = w' := by
  obtain ⟨a', cap', he, h1, h2, h3⟩ := h.open
  simp only [Value.slice.injEq, true_and] at he
  obtain ⟨rfl, rfl⟩ := he
  rcases Nat.eq_zero_or_pos n with h0 | h0
  · subst h0
    exact (Try.slices_Contains_string_empty a c x w).mono fun e w' ⟨a, b⟩ => ⟨⟨_, a, by simp⟩, b.symm⟩
  · obtain ⟨b, o, rfl, hb, hc⟩ := TS.cells (cap := cap) h3 (by omega)
    have := Try.slices_Contains_string b o n c l x w hn (by unfold maxLen at h2; omega) hc
    exact this.mono fun e w' ⟨a, b⟩ => ⟨⟨_, a, Lib.containsS_iff _ _⟩, b.symm⟩
theorem EqualI_lens (a a' : Option Addr) (n c m d : Nat) (hnm : n ≠ m) (w : World) : Calls Try.prog 38 #[.slice a n c, .slice a' m d] w fun e w' => e = .returned (.bool false) ∧ Below w.heap.size w w' := by
  have hnm' : ¬ (n : Int) = (m : Int) := by omega
  go_enter Try.func38, Try.ntmps38
  go_wp2
  go_ret
  exact ⟨rfl, Below.refl _ _⟩
theorem EqualS_lens (a a' : Option Addr) (n c m d : Nat) (hnm : n ≠ m) (w : World) : Calls Try.prog 39 #[.slice a n c, .slice a' m d] w fun e w' => e = .returned (.bool false) ∧ Below w.heap.size w w' := by
  have hnm' : ¬ (n : Int) = (m : Int) := by omega
  go_enter Try.func39, Try.ntmps39
  go_wp2
  go_ret
  exact ⟨rfl, Below.refl _ _⟩
theorem EqualI_any {B B' : Nat} {w : World} {v v' : Value} {l l' : List Int} (h : IS B w v l) (k : IS B' w v' l') :
    Calls Try.prog 38 #[v, v'] w fun e w' => e = .returned (.bool (l == l')) ∧ Below w.heap.size w w' := by
  obtain ⟨a, cap, rfl, h1, h2, h3⟩ := h.open
  obtain ⟨a', cap', rfl, k1, k2, k3⟩ := k.open
  have hm : ∀ n : Nat, n ≤ maxLen → n ≤ 9223372036854775807 := fun n h => by unfold maxLen at h; omega
  by_cases hl : l.length = l'.length
  · rcases Nat.eq_zero_or_pos l.length with h0 | h0
    · have e1 : l = [] := List.length_eq_zero_iff.1 h0
      have e2 : l' = [] := List.length_eq_zero_iff.1 (by omega)
      subst e1 e2
      exact (Try.slices_Equal_int_empty a a' cap 0 cap' w (by omega)).mono fun e w' ⟨a, b⟩ => ⟨a, by rw [b]; exact Below.refl _ _⟩
    · obtain ⟨b, o, rfl, hb, hc⟩ := IS.cells (cap := cap) h3 h0
      obtain ⟨b', o', rfl, hb', hc'⟩ := IS.cells (cap := cap') k3 (by omega)
      have := Try.slices_Equal_int b o l.length cap b' o' l'.length cap' l l' w (Nat.le_refl _) (Nat.le_refl _) (hm _ (by omega)) (hm _ (by omega)) hc hc'
      rw [List.take_length, List.take_length] at this
      exact this.mono fun e w' ⟨a, q, b⟩ => ⟨a, by rw [b]; exact below_drewN (Below.refl _ _) q⟩
  · refine (EqualI_lens a a' _ cap _ cap' hl w).mono fun e w' ⟨a, b⟩ => ⟨?_, b⟩
    rw [a]
    refine Base.ret_bool ?_
    symm
    rw [beq_eq_false_iff_ne]
    rintro rfl
    exact hl rfl
theorem EqualS_any {B B' : Nat} {w : World} {v v' : Value} {l l' : List ByteArray} (h : TS B w v l) (k : TS B' w v' l') :
    Calls Try.prog 39 #[v, v'] w fun e w' => e = .returned (.bool (decide (l = l'))) ∧ Below w.heap.size w w' := by
  obtain ⟨a, cap, rfl, h1, h2, h3⟩ := h.open
  obtain ⟨a', cap', rfl, k1, k2, k3⟩ := k.open
  have hm : ∀ n : Nat, n ≤ maxLen → n ≤ 9223372036854775807 := fun n h => by unfold maxLen at h; omega
  by_cases hl : l.length = l'.length
  · rcases Nat.eq_zero_or_pos l.length with h0 | h0
    · have e1 : l = [] := List.length_eq_zero_iff.1 h0
      have e2 : l' = [] := List.length_eq_zero_iff.1 (by omega)
      subst e1 e2
      exact (Try.slices_Equal_string_empty a a' cap 0 cap' w (by omega)).mono fun e w' ⟨a, b⟩ => ⟨by rw [a]; simp, by rw [b]; exact Below.refl _ _⟩
    · obtain ⟨b, o, rfl, hb, hc⟩ := TS.cells (cap := cap) h3 h0
      obtain ⟨b', o', rfl, hb', hc'⟩ := TS.cells (cap := cap') k3 (by omega)
      have := Try.slices_Equal_string b o l.length cap b' o' l'.length cap' l l' w (Nat.le_refl _) (Nat.le_refl _) (hm _ (by omega)) (hm _ (by omega)) hc hc'
      rw [List.take_length, List.take_length] at this
      exact this.mono fun e w' ⟨a, q, b⟩ => ⟨a, by rw [b]; exact below_drewN (Below.refl _ _) q⟩
  · refine (EqualS_lens a a' _ cap _ cap' hl w).mono fun e w' ⟨a, b⟩ => ⟨?_, b⟩
    rw [a]
    refine Base.ret_bool ?_
    symm
    rw [decide_eq_false_iff_not]
    rintro rfl
    exact hl rfl
end Go.Proofs.Ytkghnjgioijgpaa.DfaW
