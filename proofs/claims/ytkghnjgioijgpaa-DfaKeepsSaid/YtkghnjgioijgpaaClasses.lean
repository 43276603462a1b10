/- The classes as a list of sets, in memory. -/
import Derived.Test.YtkghnjgioijgpaaSets
import Derived.RegionTactic
import Derived.BigRegion
import Derived.ChangeAlike
import Derived.Maps.AppendAt
namespace Go.Proofs.Ytkghnjgioijgpaa.PartW
set_option linter.unusedVariables false
open Go.RowKit Go.Maps Go.Proofs.Ytkghnjgioijgpaa.PartM Go.Proofs.Ytkghnjgioijgpaa.SetM Go.Proofs.Ytkghnjgioijgpaa.SetW

/-- The first n classes, as far as the bytes below c go. -/
def clsL (E : Nat → Nat → Bool) (c n : Nat) : List (Nat → Bool) := (List.range n).map (cls E c)
theorem clsL_length (E : Nat → Nat → Bool) (c n : Nat) : (clsL E c n).length = n := by simp [clsL]
theorem clsL_at {E : Nat → Nat → Bool} {c n i : Nat} (h : i < (clsL E c n).length) : (clsL E c n)[i] = cls E c i := by simp [clsL]
variable {E : Nat → Nat → Bool}
theorem clsL_new (hE : Eqv E) {c : Nat} (hc : fst E c = c) : clsL E (c + 1) (rk E (c + 1)) = clsL E c (rk E c) ++ [spanF c (c + 1)] := by
  unfold clsL
  rw [rk_new hc, List.range_succ, List.map_append, List.map_cons, List.map_nil]
  congr 1
  · apply List.map_congr_left
    intro i hi
    rw [List.mem_range] at hi
    exact (cls_other c i (by rw [nm_first hc]; omega)).symm
  · rw [← cls_with c _ (nm_first hc), cls_far hE (Nat.le_refl _)]
    congr 1
    funext x
    unfold withF emptyF spanF
    rw [Bool.eq_iff_iff]; simp; omega
theorem clsL_old {c : Nat} (hc : fst E c ≠ c) : clsL E (c + 1) (rk E (c + 1)) = (clsL E c (rk E c)).set (nm E c) (withF (cls E c (nm E c)) c) := by
  rw [rk_old hc]
  apply List.ext_getElem?
  intro i
  by_cases hi : i < rk E c
  · rw [List.getElem?_eq_getElem (by rw [clsL_length]; exact hi), clsL_at]
    by_cases e : nm E c = i
    · subst e
      rw [List.getElem?_set_self (by rw [clsL_length]; exact hi), cls_with c _ rfl]
    · rw [List.getElem?_set_ne e, List.getElem?_eq_getElem (by rw [clsL_length]; exact hi), clsL_at, cls_other c i e]
  · rw [List.getElem?_eq_none (by rw [clsL_length]; omega), List.getElem?_eq_none (by rw [List.length_set, clsL_length]; omega)]
theorem nm_old (hE : Eqv E) {c : Nat} (hc : fst E c ≠ c) : nm E c < rk E c := by
  have h1 : fst E c < c := by have := fst_le E c; omega
  have := nm_lt hE h1 (n := c)
  rwa [nm_congr hE (fst_alike hE c)] at this
theorem nm_none (hE : Eqv E) {c : Nat} (h : ∀ j, j < rk E c → nm E c ≠ j) : fst E c = c := by
  by_cases hc : fst E c = c
  · exact hc
  · exact absurd rfl (h _ (nm_old hE hc))

/-- One set stored into a row of sets. -/
theorem setCells_set (fs : List (Nat → Bool)) (k : Nat) (g : Nat → Bool) (hk : k < fs.length) :
    setCells (fs.set k g) = ((((setCells fs).set (k * 4) (.int .u64 (wd g 0))).set (k * 4 + 1) (.int .u64 (wd g 1))).set (k * 4 + 2) (.int .u64 (wd g 2))).set (k * 4 + 3) (.int .u64 (wd g 3)) := by
  have hl := setCells_length fs
  apply List.ext_getElem?
  intro i
  by_cases hi : i < fs.length * 4
  · obtain ⟨q, r, hr, rfl⟩ : ∃ q r, r < 4 ∧ i = q * 4 + r := ⟨i / 4, i % 4, by omega, by omega⟩
    have hq : q < fs.length := by omega
    rw [setCells_at _ q r (by rw [List.length_set]; exact hq) hr]
    by_cases e : k = q
    · subst e
      rw [List.getElem_set_self]
      rcases r with _ | _ | _ | _ | r
      · simp only [Nat.add_zero]
        rw [List.getElem?_set_ne (by omega), List.getElem?_set_ne (by omega), List.getElem?_set_ne (by omega), List.getElem?_set_self (by omega)]
      · rw [List.getElem?_set_ne (by omega), List.getElem?_set_ne (by omega), List.getElem?_set_self (by rw [List.length_set]; omega)]
      · rw [List.getElem?_set_ne (by omega), List.getElem?_set_self (by rw [List.length_set, List.length_set]; omega)]
      · rw [List.getElem?_set_self (by rw [List.length_set, List.length_set, List.length_set]; omega)]
      · omega
    · rw [List.getElem_set_ne e, List.getElem?_set_ne (by omega), List.getElem?_set_ne (by omega), List.getElem?_set_ne (by omega), List.getElem?_set_ne (by omega), setCells_at fs q r hq hr]
  · rw [List.getElem?_eq_none (by rw [setCells_length, List.length_set]; omega), List.getElem?_eq_none (by rw [List.length_set, List.length_set, List.length_set, List.length_set]; omega)]
/-- Four cells stored from i on in block b. -/
abbrev put4At (W : World) (b i : Nat) (g : Nat → Bool) : World :=
  (((W.setCell ⟨b, i, none⟩ (.int .u64 (wd g 0))).setCell ⟨b, i + 1, none⟩ (.int .u64 (wd g 1))).setCell ⟨b, i + 2, none⟩ (.int .u64 (wd g 2))).setCell ⟨b, i + 3, none⟩ (.int .u64 (wd g 3))
theorem owns_put4 {w : World} {base : Nat} {e : TypeId} {b n cap : Nat} {fs : List (Nat → Bool)} (h : w.ownsRow base e 4 (.slice (some ⟨b, 0, none⟩) n cap) n (setCells fs)) {k : Nat} (hk : k < fs.length) (g : Nat → Bool) :
    (put4At w b (k * 4) g).ownsRow base e 4 (.slice (some ⟨b, 0, none⟩) n cap) n (setCells (fs.set k g)) := by
  rw [setCells_set fs k g hk]
  exact ((((h.stored (k * 4) _).1.stored (k * 4 + 1) _).1.stored (k * 4 + 2) _).1.stored (k * 4 + 3) _).1
theorem below_put4At {n : Nat} {w W : World} {b i : Nat} (hb : Below n w W) (h : n ≤ b) (g : Nat → Bool) : Below n w (put4At W b i g) :=
  (((hb.setCell (p := ⟨b, i, none⟩) h _).setCell (p := ⟨b, i + 1, none⟩) h _).setCell (p := ⟨b, i + 2, none⟩) h _).setCell (p := ⟨b, i + 3, none⟩) h _
theorem heap_put4At {W : World} {b i k : Nat} (h : k ≠ b) (g : Nat → Bool) : (put4At W b i g).heap[k]? = W.heap[k]? := by
  unfold put4At
  rw [Below.heap_setCell _ ⟨b, _, none⟩ _ k h, Below.heap_setCell _ ⟨b, _, none⟩ _ k h, Below.heap_setCell _ ⟨b, _, none⟩ _ k h, Below.heap_setCell _ ⟨b, _, none⟩ _ k h]
/-- A row of at least one set, written out, and what may be written there. -/
theorem owns_shape {w : World} {base : Nat} {e : TypeId} {v : Value} {n : Nat} {fs : List (Nat → Bool)} (h : w.ownsRow base e 4 v n (setCells fs)) (hn : 0 < n) : ∃ b cap, v = .slice (some ⟨b, 0, none⟩) n cap ∧ base ≤ b ∧ n ≤ cap ∧ cap ≤ maxLen := by
  rcases h.2 with ⟨_, h1⟩ | ⟨g, cap, cur, rfl, hg, hh, hn', hc, hs, hx⟩
  · omega
  · exact ⟨g, cap, rfl, hg, hn', hc⟩
theorem owns_len {w : World} {base : Nat} {e : TypeId} {v : Value} {n : Nat} {fs : List (Nat → Bool)} (h : w.ownsRow base e 4 v n (setCells fs)) : fs.length = n := by have := h.1; rw [setCells_length] at this; omega
/-- What is owned stays owned over a call. -/
theorem owns_below {w w' : World} {b : Nat} {e : TypeId} {s : Nat} {v : Value} {n : Nat} {xs : List Value} (h : w.ownsRow b e s v n xs) (hb : Below w.heap.size w w') : w'.ownsRow b e s v n xs := by
  obtain ⟨h1, h2⟩ := h
  refine ⟨h1, ?_⟩
  rcases h2 with h2 | ⟨g, cap, cur, rfl, hg, hgh, hr⟩
  · exact .inl h2
  · exact .inr ⟨g, cap, cur, rfl, hg, by rw [hb.block g (Array.getElem?_eq_some_iff.1 hgh).1]; exact hgh, hr⟩
theorem owns_heap {w w' : World} {b : Nat} {e : TypeId} {s : Nat} {v : Value} {n : Nat} {xs : List Value} (h : w.ownsRow b e s v n xs) (hh : ∀ k, v.ownBlock = some k → w'.heap[k]? = w.heap[k]?) : w'.ownsRow b e s v n xs := by
  obtain ⟨h1, h2⟩ := h
  refine ⟨h1, ?_⟩
  rcases h2 with h2 | ⟨g, cap, cur, rfl, hg, hgh, hr⟩
  · exact .inl h2
  · exact .inr ⟨g, cap, cur, rfl, hg, by rw [hh g (by simp [Value.ownBlock])]; exact hgh, hr⟩
/-- A row's block is none of another type. -/
theorem owns_ne {w : World} {b : Nat} {e : TypeId} {s : Nat} {v : Value} {n : Nat} {xs : List Value} (h : w.ownsRow b e s v n xs) {A : Nat} {D : Array Value} {t : TypeId} (hA : Ar w A D t) (ht : t ≠ e) {k : Nat} (hk : v.ownBlock = some k) : k ≠ A := by
  rcases h.2 with ⟨rfl, _⟩ | ⟨g, cap, cur, rfl, hb, hg, _⟩
  · simp [Value.ownBlock] at hk
  · simp [Value.ownBlock] at hk
    subst hk
    rintro rfl
    have hx := hg.symm.trans (show w.heap[g]? = some (.cells D t (0, 0)) from hA)
    injection hx with hx
    injection hx with _ h2
    exact ht h2.symm
theorem set_one (w : World) (g : Nat → Bool) (t : TypeId) : ∀ j u, [Value.int .u64 (wd g 0), .int .u64 (wd g 1), .int .u64 (wd g 2), .int .u64 (wd g 3)][j]? = some u → (w.alloc (.cells #[.int .u64 (wd g 0), .int .u64 (wd g 1), .int .u64 (wd g 2), .int .u64 (wd g 3)] t)).cell? ((⟨w.heap.size, 0, none⟩ : Addr).add j) = some u := by
  intro j u hj
  rcases j with _ | _ | _ | _ | j
  all_goals first | (simp at hj; subst hj; simp [Addr.add]) | (simp at hj)
theorem infoSet : (Try.prog.info? 105).map (fun i => (i.zero, i.size, i.bytes)) = some (some (.agg #[.int .u64 0, .int .u64 0, .int .u64 0, .int .u64 0]), 4, 32) := by kernel_rfl
end Go.Proofs.Ytkghnjgioijgpaa.PartW
