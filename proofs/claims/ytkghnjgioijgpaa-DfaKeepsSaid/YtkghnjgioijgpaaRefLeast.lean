/- Walk of layer 2's document: Least, where the least one is known. -/
import Derived.Test.YtkghnjgioijgpaaClasses
import Derived.RegionTactic
import Derived.BigRegion
import Derived.ChangeAlike
import Derived.Deep.RegionHeld3
import Derived.Test.YtkghnjgioijgpaaRegionU
namespace Go.Proofs.Ytkghnjgioijgpaa.PartW
set_option linter.unusedVariables false
set_option linter.unusedSimpArgs false
open Go.Proofs.Ytkghnjgioijgpaa.RegionU (wpU_taken wpU_one wpU_done wp_region_U)
open Go.RowKit Go.Maps Go.Proofs.Ytkghnjgioijgpaa.PartM Go.Proofs.Ytkghnjgioijgpaa.SetM Go.Proofs.Ytkghnjgioijgpaa.SetW

/-- A set's words lie in block B from i on. -/
def At4 (W : World) (B i : Nat) (g : Nat → Bool) : Prop := W.cell? ⟨B, i, none⟩ = some (.int .u64 (wd g 0)) ∧ W.cell? ⟨B, i + 1, none⟩ = some (.int .u64 (wd g 1)) ∧ W.cell? ⟨B, i + 2, none⟩ = some (.int .u64 (wd g 2)) ∧ W.cell? ⟨B, i + 3, none⟩ = some (.int .u64 (wd g 3))
theorem At4.below {W W' : World} {B i : Nat} {g : Nat → Bool} (h : At4 W B i g) (hb : Below W.heap.size W W') : At4 W' B i g := by
  obtain ⟨h0, h1, h2, h3⟩ := h
  exact ⟨(hb.cell (World.block_lt_of_cell? _ _ h0)).trans h0, (hb.cell (World.block_lt_of_cell? _ _ h1)).trans h1, (hb.cell (World.block_lt_of_cell? _ _ h2)).trans h2, (hb.cell (World.block_lt_of_cell? _ _ h3)).trans h3⟩
/-- What a region over one set of a list knows. -/
def RC (w : World) (B i : Nat) (g : Nat → Bool) (W : World) : Prop := At4 W B i g ∧ Below w.heap.size w W
theorem RC.up (w : World) (B i : Nat) (g : Nat → Bool) : RegionU.Up (RC w B i g) := fun W W' ⟨h1, h2⟩ hr => ⟨h1.below hr, h2.trans (hr.mono h2.size)⟩
theorem wrap_len {k L : Nat} (h : k < L) (hm : L ≤ maxLen) : wrap64 ((k : Int) + 1) = (k : Int) + 1 := by unfold maxLen at hm; unfold wrap64; omega
theorem wrap_succ {k : Nat} (h : k < 4611686018427387904) : wrap64 ((k : Int) + 1) = (k : Int) + 1 := by unfold wrap64; omega

theorem clsL_mem {E : Nat → Nat → Bool} {c n i : Nat} (h : i < n) : ∃ hi : i < (clsL E c n).length, (clsL E c n)[i] = cls E c i := ⟨by rw [clsL_length]; exact h, clsL_at _⟩
theorem owns_at {w : World} {base : Nat} {e : TypeId} {b n cap : Nat} {fs : List (Nat → Bool)} (h : w.ownsRow base e 4 (.slice (some ⟨b, 0, none⟩) n cap) n (setCells fs)) {k : Nat} (hk : k < fs.length) : At4 w b (k * 4) fs[k] := by
  have hl := owns_len h
  have c : ∀ j, j < 4 → w.cell? ⟨b, k * 4 + j, none⟩ = some (.int .u64 (wd fs[k] j)) := fun j hj => by
    rw [h.cellAt (k * 4 + j) (by omega), setCells_at fs k j hk hj]
  exact ⟨c 0 (by omega), c 1 (by omega), c 2 (by omega), c 3 (by omega)⟩

theorem owns_succ {w : World} {base : Nat} {e : TypeId} {s : Nat} {v : Value} {n : Nat} {xs : List Value} (h : w.ownsRow base e s v (n + 1) xs) : ∃ g cap : Nat, v = .slice (some ⟨g, 0, none⟩) (n + 1) cap := by
  rcases h.2 with ⟨_, h⟩ | ⟨g, cap, _, h, _⟩
  · omega
  · exact ⟨g, cap, h⟩
end Go.Proofs.Ytkghnjgioijgpaa.PartW
