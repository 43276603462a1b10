/- Walk of the document's Unquote. -/
import Derived.Test.YtmlheppkclppfaaDoorQuoWalk6
namespace Go.Proofs.YtmlheppkclppfaaDoor.QuoW
set_option linter.unusedVariables false
open Go.RowKit Go.Proofs.YtmlheppkclppfaaDoor.QuoM
open Go.Proofs.YtmlheppkclppfaaDoor.Base (ret_bool ret_int ret_str BSl bytes_below ba_ext)

/-- What was read so far, if the text is one of bytes at all. -/
def Inv (s p : List UInt8) (k : Nat) : Prop := ∀ b, s = ones b → ∃ q, b = p ++ q ∧ ones q = s.drop k
theorem inv_start (s : List UInt8) : Inv s [] 0 := fun b h => ⟨b, rfl, by rw [List.drop_zero]; exact h.symm⟩
theorem inv_step {s p : List UInt8} {k n : Nat} {c : UInt8} (h : Inv s p k) (hf : lstep (s.drop k) = some (c, n)) : Inv s (p ++ [c]) (k + n) := fun b hb => by
  obtain ⟨q, rfl, hq⟩ := h b hb
  cases q with
  | nil => rw [← hq] at hf; simp [ones, lstep] at hf
  | cons d q =>
    rw [← hq, ones, lstep_one] at hf
    simp only [Option.some.injEq, Prod.mk.injEq] at hf
    obtain ⟨rfl, rfl⟩ := hf
    refine ⟨q, by simp, ?_⟩
    rw [← List.drop_drop, ← hq, ones, List.drop_left]
theorem inv_end {s p : List UInt8} {k : Nat} (h : Inv s p k) (hk : s.length ≤ k) (b : List UInt8) (hb : s = ones b) : b = p := by
  obtain ⟨q, rfl, hq⟩ := h b hb
  rw [List.drop_eq_nil_of_le hk] at hq
  rw [ones_nil_iff.1 hq, List.append_nil]
theorem inv_none {s : List UInt8} {k : Nat} (h : Inv s [] k) (hk : s.length ≤ k) (he : s ≠ [92, 101]) : Reads s none := fun b hb => by
  unfold quoteL at hb
  split at hb
  · exact he hb.symm
  · rename_i hn; exact hn (inv_end h hk b hb.symm)
theorem inv_other {s p : List UInt8} {k : Nat} (h : Inv s p k) (hk : s.length ≤ k) (he : s ≠ [92, 101]) (hq : quoteL p ≠ s) : Reads s none := fun b hb => by
  have hb2 := hb
  unfold quoteL at hb
  split at hb
  · exact he hb.symm
  · rw [inv_end h hk b hb.symm] at hb2; exact hq hb2
theorem drop_at {s : ByteArray} {k : Nat} (h : k < s.size) : s.data.toList.drop k = s[k] :: s.data.toList.drop (k + 1) := by
  rw [List.drop_eq_getElem_cons (by simpa using h)]; rfl
theorem lstep_plain {s : ByteArray} {k : Nat} (h : k < s.size) (hn : s[k] ≠ 92) : lstep (s.data.toList.drop k) = some (s[k], 1) := by
  rw [drop_at h]
  unfold lstep
  split
  · rename_i heq; cases heq
  · rename_i c t heq
    simp only [List.cons.injEq] at heq
    obtain ⟨rfl, rfl⟩ := heq
    split
    · rw [if_neg (fun hh => hn hh.1)]
    · rfl
theorem lstep_short {s : ByteArray} {k : Nat} (h : k < s.size) (hn : s.size < k + 4) : lstep (s.data.toList.drop k) = some (s[k], 1) := by
  rw [drop_at h]
  have hl : (s.data.toList.drop (k + 1)).length < 3 := by simp; omega
  match hd : s.data.toList.drop (k + 1), hl with
  | [], _ => rfl
  | [a], _ => rfl
  | [a, b], _ => rfl
theorem drop4 {s : ByteArray} {k : Nat} (h : k + 4 ≤ s.size) : s.data.toList.drop k = s[k] :: s[k + 1] :: s[k + 2] :: s[k + 3] :: s.data.toList.drop (k + 4) := by
  rw [drop_at (by omega), drop_at (by omega), drop_at (by omega), drop_at (by omega)]
theorem lstep_not {s : ByteArray} {k : Nat} (h : k + 4 ≤ s.size) (hn : ¬ (s[k] = 92 ∧ s[k + 1] = 120 ∧ 0 ≤ vl s[k + 2] ∧ 0 ≤ vl s[k + 3])) : lstep (s.data.toList.drop k) = some (s[k], 1) := by
  rw [drop4 h]; exact if_neg hn
theorem lstep_yes {s : ByteArray} {k : Nat} (h : k + 4 ≤ s.size) (hn : s[k] = 92 ∧ s[k + 1] = 120 ∧ 0 ≤ vl s[k + 2] ∧ 0 ≤ vl s[k + 3]) : lstep (s.data.toList.drop k) = some (two s[k + 2] s[k + 3], 4) := by
  rw [drop4 h]; exact if_pos hn
/-- What the call owns reads as a slice of bytes. -/
theorem bsl_of_owns {w : World} {base n : Nat} {v : Value} {l : List UInt8} (hl : l.length = n) (h : w.ownsRow base 5 1 v n (l.map cb)) : BSl w v ⟨l.toArray⟩ := by
  subst hl
  rcases h.2 with ⟨h1, h2⟩ | ⟨g, cap, cur, h1, hg, hh, hn, hc, hs, hx⟩
  · refine .inl ⟨_, h1, ?_⟩
    rw [List.length_eq_zero_iff.1 h2]; rfl
  · refine .inr ⟨g, 0, cap, h1, hn, hc, fun i hi => ?_⟩
    have hi2 : i < l.length := hi
    rw [h1] at h
    rw [Nat.zero_add, h.cellAt i (by omega), List.getElem?_map, List.getElem?_eq_getElem hi2]
    rfl
end Go.Proofs.YtmlheppkclppfaaDoor.QuoW
