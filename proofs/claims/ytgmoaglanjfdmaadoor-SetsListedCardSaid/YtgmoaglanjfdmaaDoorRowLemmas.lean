/- Rows that a call owns: as text; as pieces. -/
import Derived.Test.YtgmoaglanjfdmaaDoorKnows
import Derived.Laws.BytesArg
namespace Go.Proofs.YtgmoaglanjfdmaaDoor.SetW
set_option linter.unusedVariables false
open Go.RowKit Go.Proofs.YtgmoaglanjfdmaaDoor.SetM

theorem slice_form {W : World} {b : Nat} {e : TypeId} {size : Nat} {v : Value} {n : Nat} {xs : List Value} (h : W.ownsRow b e size v n xs) : ∃ a cap, v = .slice a n cap := by
  rcases h.2 with ⟨h1, h2⟩ | ⟨g, cap, _, h1, _⟩
  · exact ⟨none, 0, by rw [h1, h2]⟩
  · exact ⟨_, cap, h1⟩
/-- Bytes as a text. -/
def textOf (l : List Nat) : ByteArray := strOfNums (l.map fun (n : Nat) => (n : Int))
theorem conv_owned {W : World} {b : Nat} {v : Value} {l : List Nat} (h : W.ownsRow b 5 1 v l.length (l.map u8)) : (convert 22 9 v).run Tryd.prog W = .ok (.string (textOf l)) W := by
  rcases h.2 with ⟨h1, h2⟩ | ⟨g, cap, _, h1, _⟩
  · have h3 : l = [] := List.length_eq_zero_iff.1 h2
    rw [h1, h3]
    exact run_convert_bytes_nil (P := Tryd.prog) W 22 5 Tryd.underlying22 Tryd.underlying5 0 0 9 Tryd.underlying9
  · have h' := h
    rw [h1] at h' ⊢
    have := run_convert_bytes_arg (P := Tryd.prog) W 22 5 Tryd.underlying22 Tryd.underlying5 g 0 l.length cap (l.map fun (n : Nat) => (n : Int)) (by simp) (fun i hi => by
      rw [Nat.zero_add, h'.cellAt i (by omega), List.getElem?_map, List.getElem?_eq_getElem hi]
      simp [hi]) 9 Tryd.underlying9
    exact this
theorem pairCells_at (l : List (Nat × Nat)) (i : Nat) (h : i < l.length) : (pairCells l)[i * 2]? = some (u8 l[i].1) ∧ (pairCells l)[i * 2 + 1]? = some (u8 l[i].2) := by
  induction l generalizing i with
  | nil => simp at h
  | cons p l ih =>
    have e : pairCells (p :: l) = u8 p.1 :: u8 p.2 :: pairCells l := rfl
    rw [e]
    rcases i with _ | i
    · exact ⟨rfl, rfl⟩
    · have := ih i (by simpa using h)
      rw [show (i + 1) * 2 = i * 2 + 1 + 1 by omega]
      exact this
theorem pairs_at {W : World} {b g cap : Nat} {l : List (Nat × Nat)} (h : W.ownsRow b 44 2 (.slice (some ⟨g, 0, none⟩) l.length cap) l.length (pairCells l)) (i : Nat) (hi : i < l.length) :
    W.cell? ⟨g, i * 2, none⟩ = some (u8 l[i].1) ∧ W.cell? ⟨g, i * 2 + 1, none⟩ = some (u8 l[i].2) := by
  obtain ⟨h1, h2⟩ := pairCells_at l i hi
  rw [← h1, ← h2]
  exact ⟨h.cellAt _ (by omega), h.cellAt _ (by omega)⟩
theorem pair_form {W : World} {b : Nat} {v : Value} {l : List (Nat × Nat)} (h : W.ownsRow b 44 2 v l.length (pairCells l)) (hl : 0 < l.length) : ∃ g cap, v = .slice (some ⟨g, 0, none⟩) l.length cap := by
  obtain ⟨m, hm⟩ : ∃ m, l.length = m + 1 := ⟨l.length - 1, by omega⟩
  rw [hm] at h ⊢
  exact ownsRow_succ h
end Go.Proofs.YtgmoaglanjfdmaaDoor.SetW
