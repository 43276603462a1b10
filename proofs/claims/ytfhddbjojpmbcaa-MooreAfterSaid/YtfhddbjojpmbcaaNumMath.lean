/- Lists that are filled place by place; what a map tells of the places that have come; what picked, apart do. -/
import Derived.Test.YtfhddbjojpmbcaaFits
import Derived.Deep.OwnRows
namespace Go.Proofs.Ytfhddbjojpmbcaa.DfaW
set_option linter.unusedVariables false
set_option linter.unusedSimpArgs false
open Go.RowKit Go.Maps Go.Proofs.Ytfhddbjojpmbcaa.PartM Go.Proofs.Ytfhddbjojpmbcaa.PartW
/-- What stands in a list of n of which the first k are made. -/
def fillN (f : Nat → Int) (k n : Nat) : List Value := (List.range n).map fun i => .int .i64 (if i < k then f i else 0)
theorem fillN_len (f : Nat → Int) (k n : Nat) : (fillN f k n).length = n := by simp [fillN]
theorem fillN_zero (f : Nat → Int) (n : Nat) : madeCells #[.int .i64 0] n = (fillN f 0 n).toArray := by
  apply Array.toList_inj.1
  rw [toList_madeCells_one]
  refine List.ext_getElem (by simp [fillN]) fun i h1 h2 => ?_
  simp [fillN]
theorem fillN_set (f : Nat → Int) {k n : Nat} (hk : k < n) : (fillN f k n).toArray.setIfInBounds k (.int .i64 (f k)) = (fillN f (k + 1) n).toArray := by
  apply Array.toList_inj.1
  rw [Array.toList_setIfInBounds]
  show (fillN f k n).set k _ = fillN f (k + 1) n
  refine List.ext_getElem (by simp [fillN]) fun i h1 h2 => ?_
  have hi : i < n := by simpa [fillN] using h2
  rw [List.getElem_set]
  by_cases e : k = i
  · subst e; simp [fillN]
  · rw [if_neg e]
    simp only [fillN, List.getElem_map, List.getElem_range]
    by_cases h : i < k
    · rw [if_pos h, if_pos (by omega)]
    · rw [if_neg h, if_neg (by omega)]
theorem fillN_all (f : Nat → Int) (n : Nat) : fillN f n n = ((List.range n).map f).map (Value.int .i64) := by
  unfold fillN
  rw [List.map_map]
  exact List.map_congr_left fun i hi => by simp [List.mem_range.1 hi]
theorem OI.of_fill {w : World} {A base n : Nat} {f : Nat → Int} (h : Ar w A (fillN f n n).toArray 3) (hb : base ≤ A) (hn : n ≤ maxLen) : OI w base (.slice (some ⟨A, 0, none⟩) n n) ((List.range n).map f) := by
  rw [fillN_all] at h
  refine ⟨by simp, .inr ⟨A, n, (((List.range n).map f).map (Value.int .i64)).toArray, by simp, hb, h, by simp, hn, by simp, ?_⟩⟩
  exact List.take_of_length_le (by simp)
theorem makeI {n : Nat} (hn : n ≤ 1048576) (w : World) : (Instr.makeSlice 24 (.int .i64 (n : Nat)) (.int .i64 (n : Nat))).run Try.prog w = .ok (.slice (some ⟨w.heap.size, 0, none⟩) n n) (w.alloc (.cells (madeCells #[.int .i64 0] n) 3)) :=
  run_make_row' 24 3 (.int .i64 0) 8 Try.underlying24 info3 rfl .i64 .i64 n (by omega) (by omega) w
/-- The first ones of theirs, as numbers. -/
def firstsI (E : Nat → Nat → Bool) (n : Nat) : List Int := (reps E n).map Int.ofNat
theorem firstsI_len (E : Nat → Nat → Bool) (n : Nat) : (firstsI E n).length = rk E n := by simp [firstsI, reps_len]
theorem firstsI_succ (E : Nat → Nat → Bool) (n : Nat) : firstsI E (n + 1) = if fst E n = n then firstsI E n ++ [(n : Int)] else firstsI E n := by
  unfold firstsI
  rw [reps_succ]
  split
  · rw [List.map_append]; rfl
  · rfl
theorem firstsI_at {E : Nat → Nat → Bool} (hE : Eqv E) {s n : Nat} (hs : s < n) : nm E s < (firstsI E n).length ∧ (firstsI E n).getD (nm E s) 0 = (fst E s : Nat) := by
  have h := reps_nm hE hs
  refine ⟨by unfold firstsI; rw [List.length_map]; exact (List.getElem?_eq_some_iff.1 h).1, ?_⟩
  unfold firstsI
  rw [List.getD_eq_getElem?_getD, List.getElem?_map, h]; rfl
/-- Keys of places. -/
structure KeysN (P : Program) (kt : TypeId) (n : Nat) (KV : Nat → Value) (KL : Nat → Lit) (E : Nat → Nat → Bool) : Prop where
  law : Keyed P kt
  key : ∀ b, b < n → keyOf P kt (KV b) = some (KL b)
  one : ∀ a b, a < n → b < n → (KL a = KL b ↔ E a b = true)
/-- What the map tells when the places below k have come. -/
structure SeenN (D : DataW Unit) (n : Nat) (KL : Nat → Lit) (E : Nat → Nat → Bool) (k : Nat) : Prop where
  yes : ∀ a, a < k → has D (KL a) = true ∧ ∀ z, D.atKey (KL a) z = .lit (.int .i64 (nm E a : Nat))
  no : ∀ b, b < n → (∀ a, a < k → E a b = false) → has D (KL b) = false
theorem SeenN.none (n : Nat) (KL : Nat → Lit) (E : Nat → Nat → Bool) : SeenN (.map []) n KL E 0 := ⟨fun a h => absurd h (Nat.not_lt_zero _), fun b _ _ => rfl⟩
section
variable {P : Program} {kt : TypeId} {KV : Nat → Value} {KL : Nat → Lit} {E : Nat → Nat → Bool} {D : DataW Unit} {k n : Nat}
theorem SeenN.old (hK : KeysN P kt n KV KL E) (hE : Eqv E) (h : SeenN D n KL E k) (hk : k < n) (hn : fst E k ≠ k) :
    has D (KL k) = true ∧ (∀ z, D.atKey (KL k) z = .lit (.int .i64 (nm E k : Nat))) ∧ SeenN D n KL E (k + 1) := by
  have hf : fst E k < k := by have := fst_le E k; omega
  have he := fst_alike hE k
  have hl : KL (fst E k) = KL k := (hK.one _ _ (by omega) hk).2 he
  obtain ⟨h1, h2⟩ := h.yes _ hf
  rw [hl, nm_congr hE he] at h2
  rw [hl] at h1
  refine ⟨h1, h2, ⟨fun a ha => ?_, fun b hb hn' => h.no b hb fun a ha => hn' a (by omega)⟩⟩
  by_cases e : a = k
  · subst e; exact ⟨h1, h2⟩
  · exact h.yes a (by omega)
theorem SeenN.new (hK : KeysN P kt n KV KL E) (hE : Eqv E) (h : SeenN D n KL E k) (hT : Tidy D) (hk : k < n) (hn : fst E k = k) :
    has D (KL k) = false ∧ SeenN (D.put (KL k) (.lit (.int .i64 (rk E k : Nat)))) n KL E (k + 1) := by
  have hno := (first_iff hE k).1 hn
  have h0 := h.no k hk hno
  have hm : IsMap D := by obtain ⟨es, h1, _⟩ := hT; exact ⟨es, h1⟩
  have hkl := hK.law.key (hK.key k hk)
  refine ⟨h0, ⟨fun a ha => ?_, fun b hb hn' => ?_⟩⟩
  · by_cases e : a = k
    · subst e
      rw [nm_first hn]
      exact ⟨has_put_same hm hkl _, fun z => atKey_put_same hm hkl _ z⟩
    · have hne : KL a ≠ KL k := fun e' => by
        have := (hK.one a k (by omega) hk).1 e'
        rw [hno a (by omega)] at this; cases this
      obtain ⟨h1, h2⟩ := h.yes a (by omega)
      exact ⟨by rw [has_put_other hne]; exact h1, fun z => by rw [atKey_put_other hne]; exact h2 z⟩
  · have hne : KL b ≠ KL k := fun e' => by
      have := (hK.one k b hk hb).1 e'.symm
      rw [hn' k (by omega)] at this; cases this
    rw [has_put_other hne]
    exact h.no b hb fun a ha => hn' a (by omega)
end
theorem wf_i64 {x : Int} (h0 : -9223372036854775808 ≤ x) (h : x ≤ 9223372036854775807) : (Lit.int .i64 x).wf = true := by simp [Lit.wf, IntKind.min, IntKind.max, IntKind.signed, IntKind.bits]; omega
theorem lawI : Keyed Try.prog 3 := int_keyed Try.underlying3
theorem zeroI (w : World) : (zeroValue 3).run Try.prog w = .ok (.int .i64 0) w := Try.zeroValue3 w
theorem own_set {w : World} {b bk i n : Nat} {e : TypeId} {s : Nat} {v y : Value} {vs : List Value} (ho : w.ownsRow b e s v n vs) (hbk : bk < b) : (w.setCell ⟨bk, i, none⟩ y).ownsRow b e s v n vs :=
  own_keep ho fun g h => Below.heap_setCell _ ⟨bk, i, none⟩ _ g (by have := (own_at ho h).2.1; intro e2; have e2 : g = bk := e2; omega)
theorem below_set {n : Nat} {w W : World} {b i : Nat} {v : Value} (h : Below n w W) (hb : n ≤ b) : Below n w (W.setCell ⟨b, i, none⟩ v) :=
  ⟨h.os, h.tape, h.output, by have := h.size; simp [World.setCell]; exact this, fun k hk => (Below.heap_setCell _ ⟨b, i, none⟩ _ k (by intro e; have e : k = b := e; omega)).trans (h.block k hk)⟩
end Go.Proofs.Ytfhddbjojpmbcaa.DfaW
