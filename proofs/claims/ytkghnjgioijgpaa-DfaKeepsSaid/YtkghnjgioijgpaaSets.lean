/- Slices of sets in memory. -/
import Derived.Test.YtkghnjgioijgpaaSetWalk2
import Derived.Test.YtkghnjgioijgpaaNumB
namespace Go.Proofs.Ytkghnjgioijgpaa.PartW
set_option linter.unusedVariables false
open Go.RowKit Go.Maps Go.Proofs.Ytkghnjgioijgpaa.PartM Go.Proofs.Ytkghnjgioijgpaa.SetM Go.Proofs.Ytkghnjgioijgpaa.SetW

/-- The cells of some sets, one behind the other. -/
def setCells (fs : List (Nat → Bool)) : List Value := fs.flatMap fun f => [.int .u64 (wd f 0), .int .u64 (wd f 1), .int .u64 (wd f 2), .int .u64 (wd f 3)]
theorem setCells_length (fs : List (Nat → Bool)) : (setCells fs).length = fs.length * 4 := by
  induction fs with
  | nil => rfl
  | cons f fs ih => simp [setCells] at *; omega
theorem setCells_snoc (fs : List (Nat → Bool)) (f : Nat → Bool) : setCells (fs ++ [f]) = setCells fs ++ [.int .u64 (wd f 0), .int .u64 (wd f 1), .int .u64 (wd f 2), .int .u64 (wd f 3)] := by simp [setCells]
theorem setCells_app (fs gs : List (Nat → Bool)) : setCells (fs ++ gs) = setCells fs ++ setCells gs := by simp [setCells]
theorem setCells_at (fs : List (Nat → Bool)) (k j : Nat) (hk : k < fs.length) (hj : j < 4) : (setCells fs)[k * 4 + j]? = some (.int .u64 (wd fs[k] j)) := by
  induction fs generalizing k with
  | nil => simp at hk
  | cons f fs ih =>
    rw [show setCells (f :: fs) = setCells [f] ++ setCells fs from setCells_app [f] fs]
    cases k with
    | zero =>
      rw [List.getElem?_append_left (by simp [setCells]; omega)]
      rcases j with _ | _ | _ | _ | j
      all_goals first | rfl | omega
    | succ k =>
      rw [List.getElem?_append_right (by simp [setCells]; omega)]
      have := ih k (by simpa using hk)
      rw [show (k + 1) * 4 + j - (setCells [f]).length = k * 4 + j by simp [setCells]; omega, this]
      simp
/-- The cells of the sets fs lie in block b from o on. -/
def SetsO (w : World) (b o : Nat) (fs : List (Nat → Bool)) : Prop := ∀ k (h : k < fs.length), ∀ j, j < 4 → w.cell? ⟨b, o + k * 4 + j, none⟩ = some (.int .u64 (wd fs[k] j))
/-- A slice of sets that reads as fs. -/
def SSl (w : World) (v : Value) (fs : List (Nat → Bool)) : Prop :=
  (∃ a, v = .slice a 0 0 ∧ fs = []) ∨ ∃ b o cap, v = .slice (some ⟨b, o, none⟩) fs.length cap ∧ fs.length ≤ cap ∧ cap ≤ maxLen ∧ SetsO w b o fs
theorem SetsO.below {w w' : World} {b o : Nat} {fs : List (Nat → Bool)} (h : SetsO w b o fs) (hb : Below w.heap.size w w') : SetsO w' b o fs := fun k hk j hj => by
  have hc := h k hk j hj
  rw [hb.cell (World.block_lt_of_cell? _ _ hc)]; exact hc
theorem SSl.below {w w' : World} {v : Value} {fs : List (Nat → Bool)} (h : SSl w v fs) (hb : Below w.heap.size w w') : SSl w' v fs := by
  rcases h with h | ⟨b, o, cap, h1, h2, h3, h4⟩
  · exact .inl h
  · exact .inr ⟨b, o, cap, h1, h2, h3, h4.below hb⟩
theorem SSl.alloc {w : World} {v : Value} {fs : List (Nat → Bool)} (h : SSl w v fs) (o : Obj) : SSl (w.alloc o) v fs := h.below ((Below.refl _ _).alloc (Nat.le_refl _) _)
theorem SSl.drew {w : World} {v : Value} {fs : List (Nat → Bool)} (h : SSl w v fs) : SSl w.drew v fs := h
/-- A slice of sets, and what is got at a place. -/
theorem SSl.shape {w : World} {v : Value} {fs : List (Nat → Bool)} (h : SSl w v fs) : ∃ a cap, v = .slice a fs.length cap ∧ fs.length ≤ cap ∧ cap ≤ maxLen ∧ (fs = [] ∨ ∃ b o, a = some ⟨b, o, none⟩ ∧ SetsO w b o fs) := by
  rcases h with ⟨a, rfl, rfl⟩ | ⟨b, o, cap, rfl, h2, h3, h4⟩
  · exact ⟨a, 0, rfl, Nat.le_refl _, by unfold maxLen; omega, .inl rfl⟩
  · exact ⟨_, cap, rfl, h2, h3, .inr ⟨b, o, rfl, h4⟩⟩
theorem SetsO.at {w : World} {b o : Nat} {fs : List (Nat → Bool)} (h : SetsO w b o fs) {k : Nat} (hk : k < fs.length) :
    w.cell? ⟨b, o + k * 4, none⟩ = some (.int .u64 (wd fs[k] 0)) ∧ w.cell? ⟨b, o + k * 4 + 1, none⟩ = some (.int .u64 (wd fs[k] 1)) ∧ w.cell? ⟨b, o + k * 4 + 2, none⟩ = some (.int .u64 (wd fs[k] 2)) ∧ w.cell? ⟨b, o + k * 4 + 3, none⟩ = some (.int .u64 (wd fs[k] 3)) :=
  ⟨h k hk 0 (by omega), h k hk 1 (by omega), h k hk 2 (by omega), h k hk 3 (by omega)⟩
/-- What the call owns reads as a slice of sets. -/
theorem SSl.of_owns {w : World} {base : Nat} {e : TypeId} {v : Value} {n : Nat} {fs : List (Nat → Bool)} (h : w.ownsRow base e 4 v n (setCells fs)) : SSl w v fs := by
  have hl : fs.length = n := by have := h.1; rw [setCells_length] at this; omega
  rcases h.2 with ⟨h1, h2⟩ | ⟨g, cap, cur, rfl, hg, hh, hn, hc, hs, hx⟩
  · refine .inl ⟨_, h1, ?_⟩
    rw [h2] at hl
    exact List.length_eq_zero_iff.1 hl
  · refine .inr ⟨g, 0, cap, by rw [hl], by omega, hc, fun k hk j hj => ?_⟩
    have h' := h
    rw [show 0 + k * 4 + j = k * 4 + j by omega, World.ownsRow.cellAt h' (k * 4 + j) (by omega), setCells_at fs k j hk hj]
/-- Of which sets is b? -/
def memF (fs : List (Nat → Bool)) (b : Nat) : Nat → Bool := fun i => match fs[i]? with | some f => f b | none => false
theorem memF_at {fs : List (Nat → Bool)} {k : Nat} (hk : k < fs.length) (b : Nat) : memF fs b k = fs[k] b := by simp [memF, List.getElem?_eq_getElem hk]
theorem memF_far {fs : List (Nat → Bool)} {k : Nat} (hk : fs.length ≤ k) (b : Nat) : memF fs b k = false := by simp [memF, List.getElem?_eq_none hk]
end Go.Proofs.Ytkghnjgioijgpaa.PartW
