/- Texts in their order: lists that rise, each text once. -/
import Derived.Test.YtlfmkiendaecaaaProg
import Derived.Sort.KeysCollected
import Derived.Sort.Walk0
namespace Go.Proofs.Ytlfmkiendaecaaa.TxM
set_option linter.unusedVariables false

/-- Is a text ahead of another one? As the model's own test tells it. -/
def ltT (a b : ByteArray) : Bool := Op.bytesLess a.toList b.toList
theorem toList_eq (a : ByteArray) : a.toList = a.data.toList := Lib.toList_data a
theorem ltT_iff {a b : ByteArray} : ltT a b = true ↔ a.data.toList < b.data.toList := by simp [ltT, bytesLess_eq, toList_eq]
theorem ltT_no {a b : ByteArray} : ltT a b = false ↔ ¬ a.data.toList < b.data.toList := by rw [← ltT_iff]; simp
theorem tx_ext {a b : ByteArray} (h : a.data.toList = b.data.toList) : a = b := ByteArray.ext (Array.toList_inj.1 h)
theorem ltT_irrefl (a : ByteArray) : ¬ ltT a a = true := fun h => List.lt_irrefl _ (ltT_iff.1 h)
theorem ltT_trans {a b c : ByteArray} (h : ltT a b = true) (k : ltT b c = true) : ltT a c = true := ltT_iff.2 (List.lt_trans (ltT_iff.1 h) (ltT_iff.1 k))
theorem ltT_asymm {a b : ByteArray} (h : ltT a b = true) : ¬ ltT b a = true := fun k => ltT_irrefl a (ltT_trans h k)
theorem ltT_total {a b : ByteArray} (h : a ≠ b) : ltT a b = true ∨ ltT b a = true := by
  by_cases h1 : ltT a b = true
  · exact .inl h1
  · by_cases h2 : ltT b a = true
    · exact .inr h2
    · exfalso
      rw [ltT_iff] at h1 h2
      exact h (tx_ext (List.le_antisymm (List.not_lt.1 h2) (List.not_lt.1 h1)))
/-- A list that rises. -/
def Rising (l : List ByteArray) : Prop := l.Pairwise fun a b => ltT a b = true
theorem Rising.nodup {l : List ByteArray} (h : Rising l) : l.Nodup := h.imp fun {a b} h e => by subst e; exact ltT_irrefl a h
/-- A list that rises is told by what is in it. -/
theorem rising_one : ∀ {l l' : List ByteArray}, Rising l → Rising l' → (∀ x, x ∈ l ↔ x ∈ l') → l = l'
  | [], [], _, _, _ => rfl
  | [], b :: l', _, _, h => by have := (h b).2 (by simp); cases this
  | a :: l, [], _, _, h => by have := (h a).1 (by simp); cases this
  | a :: l, b :: l', h1, h2, h => by
    have h1' := List.pairwise_cons.1 h1
    have h2' := List.pairwise_cons.1 h2
    have e : a = b := by
      have ha := (h a).1 (by simp)
      have hb := (h b).2 (by simp)
      rcases List.mem_cons.1 ha with e | ha
      · exact e
      · rcases List.mem_cons.1 hb with e | hb
        · exact e.symm
        · exact absurd (h2'.1 a ha) (ltT_asymm (h1'.1 b hb))
    subst e
    rw [rising_one h1'.2 h2'.2 fun x => ?_]
    constructor
    · intro hx
      rcases List.mem_cons.1 ((h x).1 (List.mem_cons_of_mem _ hx)) with e | h'
      · subst e; exact absurd (h1'.1 x hx) (ltT_irrefl x)
      · exact h'
    · intro hx
      rcases List.mem_cons.1 ((h x).2 (List.mem_cons_of_mem _ hx)) with e | h'
      · subst e; exact absurd (h2'.1 x hx) (ltT_irrefl x)
      · exact h'
/-- How many of a list's front are ahead of a text. -/
def aheadN : List ByteArray → ByteArray → Nat
  | [], _ => 0
  | a :: l, s => if ltT a s = true then aheadN l s + 1 else 0
theorem aheadN_le : ∀ (l : List ByteArray) (s : ByteArray), aheadN l s ≤ l.length
  | [], _ => Nat.le_refl _
  | a :: l, s => by unfold aheadN; split <;> simp [aheadN_le l s]
theorem aheadN_lt : ∀ (l : List ByteArray) (s : ByteArray) (i : Nat), i < aheadN l s → ltT (l.getD i ByteArray.empty) s = true
  | [], _, i, h => by simp [aheadN] at h
  | a :: l, s, i, h => by
    unfold aheadN at h
    split at h
    · rename_i ha
      cases i with
      | zero => simpa using ha
      | succ i => simpa using aheadN_lt l s i (by omega)
    · omega
theorem aheadN_at : ∀ (l : List ByteArray) (s : ByteArray), aheadN l s < l.length → ltT (l.getD (aheadN l s) ByteArray.empty) s = false
  | [], _, h => by simp at h
  | a :: l, s, h => by
    unfold aheadN at h ⊢
    by_cases ha : ltT a s = true
    · rw [if_pos ha] at h ⊢
      simpa using aheadN_at l s (by simpa using h)
    · rw [if_neg ha]
      simpa using ha
/-- Told by what it is: all ahead of k are ahead of s, and the one at k is not. -/
theorem aheadN_eq : ∀ (l : List ByteArray) (s : ByteArray) (k : Nat), k ≤ l.length → (∀ i, i < k → ltT (l.getD i ByteArray.empty) s = true) → (k < l.length → ltT (l.getD k ByteArray.empty) s = false) → k = aheadN l s := by
  intro l s k hk h1 h2
  rcases Nat.lt_trichotomy k (aheadN l s) with h | h | h
  · have := aheadN_lt l s k h
    have h3 := aheadN_le l s
    rw [h2 (by omega)] at this; cases this
  · exact h
  · have := h1 _ h
    rw [aheadN_at l s (by omega)] at this; cases this
open Classical in
/-- A text is put into a list. -/
noncomputable def putT (l : List ByteArray) (s : ByteArray) : List ByteArray := if s ∈ l then l else l.take (aheadN l s) ++ s :: l.drop (aheadN l s)
theorem mem_putT {l : List ByteArray} {s x : ByteArray} : x ∈ putT l s ↔ x ∈ l ∨ x = s := by
  unfold putT
  split
  · rename_i h
    exact ⟨.inl, fun h' => h'.elim id fun e => e ▸ h⟩
  · have e := List.take_append_drop (aheadN l s) l
    constructor
    · intro h
      rcases List.mem_append.1 h with h | h
      · exact .inl (List.mem_of_mem_take h)
      · rcases List.mem_cons.1 h with h | h
        · exact .inr h
        · exact .inl (List.mem_of_mem_drop h)
    · rintro (h | rfl)
      · rw [← e] at h
        rcases List.mem_append.1 h with h | h
        · exact List.mem_append.2 (.inl h)
        · exact List.mem_append.2 (.inr (List.mem_cons_of_mem _ h))
      · exact List.mem_append.2 (.inr (by simp))
theorem putT_len (l : List ByteArray) (s : ByteArray) : (putT l s).length ≤ l.length + 1 ∧ l.length ≤ (putT l s).length := by
  unfold putT
  have := aheadN_le l s
  split
  · omega
  · simp only [List.length_append, List.length_take, List.length_cons, List.length_drop]; omega
theorem rising_getD {l : List ByteArray} (h : Rising l) {i j : Nat} (hij : i < j) (hj : j < l.length) : ltT (l.getD i ByteArray.empty) (l.getD j ByteArray.empty) = true := by
  have := List.pairwise_iff_getElem.1 h i j (by omega) hj hij
  rw [List.getD_eq_getElem?_getD, List.getD_eq_getElem?_getD, List.getElem?_eq_getElem (show i < l.length by omega), List.getElem?_eq_getElem hj]
  exact this
theorem putT_rising {l : List ByteArray} (h : Rising l) (s : ByteArray) : Rising (putT l s) := by
  unfold putT
  split
  · exact h
  · rename_i hn
    have hle := aheadN_le l s
    have e := List.take_append_drop (aheadN l s) l
    unfold Rising at h ⊢
    rw [List.pairwise_append]
    rw [← e, List.pairwise_append] at h
    have up : ∀ b ∈ l.drop (aheadN l s), ltT s b = true := by
      intro b hb
      obtain ⟨i, hi, rfl⟩ := List.mem_iff_getElem.1 hb
      rw [List.length_drop] at hi
      rw [List.getElem_drop]
      have h0 : ltT (l.getD (aheadN l s) ByteArray.empty) s = false := aheadN_at l s (by omega)
      have h0' : ltT s (l.getD (aheadN l s) ByteArray.empty) = true := by
        rcases ltT_total (a := l.getD (aheadN l s) ByteArray.empty) (b := s) (fun e => hn (by rw [← e, List.getD_eq_getElem?_getD, List.getElem?_eq_getElem (show aheadN l s < l.length by omega)]; exact List.getElem_mem _)) with h1 | h1
        · rw [h0] at h1; cases h1
        · exact h1
      cases i with
      | zero =>
        rw [List.getD_eq_getElem?_getD, List.getElem?_eq_getElem (show aheadN l s < l.length by omega)] at h0'
        exact h0'
      | succ i =>
        have h' : Rising l := by unfold Rising; rw [← e, List.pairwise_append]; exact h
        have := rising_getD h' (show aheadN l s < aheadN l s + (i + 1) by omega) (by omega)
        have h2 := ltT_trans h0' this
        rw [List.getD_eq_getElem?_getD, List.getElem?_eq_getElem (show aheadN l s + (i + 1) < l.length by omega)] at h2
        exact h2
    have dn : ∀ a ∈ l.take (aheadN l s), ltT a s = true := by
      intro a ha
      obtain ⟨i, hi, rfl⟩ := List.mem_iff_getElem.1 ha
      rw [List.length_take] at hi
      rw [List.getElem_take]
      have := aheadN_lt l s i (by omega)
      rw [List.getD_eq_getElem?_getD, List.getElem?_eq_getElem (show i < l.length by omega)] at this
      exact this
    refine ⟨h.1, List.pairwise_cons.2 ⟨up, h.2.1⟩, fun a ha b hb => ?_⟩
    rcases List.mem_cons.1 hb with rfl | hb
    · exact dn a ha
    · exact ltT_trans (dn a ha) (up b hb)
/-- All of a list, rising, each once. -/
noncomputable def risen (xs : List ByteArray) : List ByteArray := xs.foldl putT []
theorem foldl_putT : ∀ (xs l : List ByteArray), Rising l → Rising (xs.foldl putT l) ∧ ∀ x, x ∈ xs.foldl putT l ↔ x ∈ l ∨ x ∈ xs
  | [], l, h => ⟨h, fun x => by simp⟩
  | a :: xs, l, h => by
    obtain ⟨h1, h2⟩ := foldl_putT xs (putT l a) (putT_rising h a)
    refine ⟨h1, fun x => ?_⟩
    rw [List.foldl_cons, h2, mem_putT, List.mem_cons, or_assoc]
theorem risen_rising (xs : List ByteArray) : Rising (risen xs) := (foldl_putT xs [] List.Pairwise.nil).1
theorem mem_risen {xs : List ByteArray} {x : ByteArray} : x ∈ risen xs ↔ x ∈ xs := by
  rw [risen, (foldl_putT xs [] List.Pairwise.nil).2]; simp
theorem risen_nodup (xs : List ByteArray) : (risen xs).Nodup := (risen_rising xs).nodup
theorem risen_nil : risen [] = [] := rfl
theorem risen_snoc (xs : List ByteArray) (x : ByteArray) : risen (xs ++ [x]) = putT (risen xs) x := by simp [risen]
theorem foldl_len : ∀ (xs l : List ByteArray), (xs.foldl putT l).length ≤ l.length + xs.length
  | [], l => by simp
  | a :: xs, l => by
    have h1 := foldl_len xs (putT l a)
    have h2 := (putT_len l a).1
    simp only [List.foldl_cons, List.length_cons]; omega
theorem risen_len (xs : List ByteArray) : (risen xs).length ≤ xs.length := by have := foldl_len xs []; simpa [risen] using this
/-- What rises and has the same texts is it. -/
theorem risen_one {l xs : List ByteArray} (h : Rising l) (hm : ∀ x, x ∈ l ↔ x ∈ xs) : l = risen xs := rising_one h (risen_rising xs) fun x => by rw [hm, mem_risen]
theorem risen_self {l : List ByteArray} (h : Rising l) : risen l = l := (risen_one h fun x => Iff.rfl).symm
/-- A sorted list without a text twice rises. -/
theorem rising_of_sorted {l : List ByteArray} (hs : l.Pairwise fun a b => a.data.toList ≤ b.data.toList) (hn : l.Nodup) : Rising l := by
  have := hs.and hn
  refine this.imp fun {a b} h => ?_
  rcases ltT_total h.2 with h1 | h1
  · exact h1
  · exact absurd (List.le_antisymm h.1 (List.le_of_lt (ltT_iff.1 h1))) fun e => h.2 (tx_ext e)
/-- Where a text stands first; how many there are, where it does not. -/
def atT : List ByteArray → ByteArray → Nat
  | [], _ => 0
  | a :: l, s => if a = s then 0 else atT l s + 1
theorem atT_le : ∀ (l : List ByteArray) (s : ByteArray), atT l s ≤ l.length
  | [], _ => Nat.le_refl _
  | a :: l, s => by unfold atT; split <;> simp [atT_le l s]
theorem atT_mem : ∀ {l : List ByteArray} {s : ByteArray}, s ∈ l ↔ atT l s < l.length
  | [], s => by simp [atT]
  | a :: l, s => by
    unfold atT
    by_cases e : a = s
    · simp [e]
    · rw [if_neg e, List.mem_cons, List.length_cons, Nat.add_lt_add_iff_right, ← atT_mem]
      exact ⟨fun h => h.elim (fun h => absurd h.symm e) id, .inr⟩
theorem getD_atT : ∀ {l : List ByteArray} {s : ByteArray}, s ∈ l → l.getD (atT l s) ByteArray.empty = s
  | [], s, h => by cases h
  | a :: l, s, h => by
    unfold atT
    by_cases e : a = s
    · simp [e]
    · rw [if_neg e]
      rcases List.mem_cons.1 h with h | h
      · exact absurd h.symm e
      · simpa using getD_atT h
theorem atT_first : ∀ {l : List ByteArray} {s : ByteArray} {i : Nat}, i < atT l s → l.getD i ByteArray.empty ≠ s
  | [], s, i, h => by simp [atT] at h
  | a :: l, s, i, h => by
    unfold atT at h
    by_cases e : a = s
    · simp [e] at h
    · rw [if_neg e] at h
      cases i with
      | zero => simpa using e
      | succ i => simpa using atT_first (l := l) (by omega)
/-- Told by what it is. -/
theorem atT_eq {l : List ByteArray} {s : ByteArray} {k : Nat} (hk : k ≤ l.length) (h1 : ∀ i, i < k → l.getD i ByteArray.empty ≠ s) (h2 : k < l.length → l.getD k ByteArray.empty = s) : k = atT l s := by
  rcases Nat.lt_trichotomy k (atT l s) with h | h | h
  · exact absurd (h2 (by have := atT_le l s; omega)) (atT_first h)
  · exact h
  · exact absurd (getD_atT (atT_mem.2 (by omega))) (h1 _ h)
/-- What a search tells: the place, or -1. -/
def placeT (l : List ByteArray) (s : ByteArray) : Int := if atT l s < l.length then (atT l s : Int) else -1
theorem placeT_in {l : List ByteArray} {s : ByteArray} (h : s ∈ l) : placeT l s = (atT l s : Nat) := if_pos (atT_mem.1 h)
theorem placeT_out {l : List ByteArray} {s : ByteArray} (h : s ∉ l) : placeT l s = -1 := if_neg fun x => h (atT_mem.2 x)
end Go.Proofs.Ytlfmkiendaecaaa.TxM
