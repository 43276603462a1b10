/- Plain mathematics of the document's sets: rows of rising numbers. -/
import Derived.Test.YtgmeomhddpmpbaaDoorCopy
namespace Go.Proofs.YtgmeomhddpmpbaaDoor.BitsW
set_option linter.unusedVariables false
open Go.RowKit Go.Shelf Go.Proofs.YtgmeomhddpmpbaaDoor.SetM

def lhas (l : List Nat) (i : Int) : Bool := l.any fun x => (x : Int) == i
theorem lhas_snoc (l : List Nat) (x : Nat) (i : Int) : lhas (l ++ [x]) i = (lhas l i || (x : Int) == i) := by simp [lhas, List.any_append]
theorem mem_upTo {f : Nat → Bool} {n x : Nat} : x ∈ upTo f n ↔ x < n ∧ f x = true := by simp [upTo]
theorem lhas_upTo {f : Nat → Bool} {n : Nat} (h : ∀ i, f i = true → i < n) (i : Int) : lhas (upTo f n) i = hasI f i := by
  rw [Bool.eq_iff_iff]
  simp only [lhas, List.any_eq_true, mem_upTo, hasI, Bool.and_eq_true, decide_eq_true_eq, beq_iff_eq]
  constructor
  · rintro ⟨x, ⟨_, h1⟩, rfl⟩
    exact ⟨by omega, by simpa using h1⟩
  · rintro ⟨h0, h1⟩
    exact ⟨i.toNat, ⟨h _ h1, h1⟩, by omega⟩

/-! ### One more -/
def insL (i : Nat) : List Nat → List Nat
  | [] => [i]
  | x :: xs => if i < x then i :: x :: xs else x :: insL i xs
def past (i : Nat) (l : List Nat) : Bool := l.any fun x => decide (i < x)
theorem past_snoc (i : Nat) (l : List Nat) (x : Nat) : past i (l ++ [x]) = (past i l || decide (i < x)) := by simp [past, List.any_append]
def insO (i : Nat) (l : List Nat) : List Nat := if past i l then insL i l else l
theorem insL_no {i : Nat} : ∀ {l : List Nat}, past i l = false → insL i l = l ++ [i]
  | [], _ => rfl
  | x :: xs, h => by
    simp only [past, List.any_cons, Bool.or_eq_false_iff, decide_eq_false_iff_not] at h
    have ih := insL_no (i := i) (l := xs) h.2
    simp [insL, h.1, ih]
theorem insL_yes {i x : Nat} : ∀ {l : List Nat}, past i l = true → insL i (l ++ [x]) = insL i l ++ [x]
  | [], h => by simp [past] at h
  | y :: ys, h => by
    by_cases hy : i < y
    · simp [insL, hy]
    · have h' : past i ys = true := by
        simp only [past, List.any_cons, Bool.or_eq_true, decide_eq_true_eq] at h
        rcases h with h | h
        · exact absurd h hy
        · simpa [past] using h
      have ih := insL_yes (i := i) (x := x) (l := ys) h'
      simp [insL, hy, ih]
theorem insL_at {i x : Nat} (hx : i < x) : ∀ {l : List Nat}, past i l = false → insL i (l ++ [x]) = l ++ [i, x]
  | [], _ => by simp [insL, hx]
  | y :: ys, h => by
    simp only [past, List.any_cons, Bool.or_eq_false_iff, decide_eq_false_iff_not] at h
    have ih := insL_at hx (l := ys) h.2
    simp [insL, h.1, ih]
theorem insO_yes {i : Nat} {l : List Nat} (x : Nat) (h : past i l = true) : insO i (l ++ [x]) = insO i l ++ [x] := by
  unfold insO; rw [past_snoc, h]; simp [insL_yes h]
theorem insO_at {i : Nat} {l : List Nat} {x : Nat} (h : past i l = false) (hx : i < x) : insO i (l ++ [x]) = insO i l ++ [i] ++ [x] := by
  unfold insO; rw [past_snoc, h]; simp [hx, insL_at hx h]
theorem insO_no {i : Nat} {l : List Nat} {x : Nat} (h : past i l = false) (hx : ¬ i < x) : insO i (l ++ [x]) = insO i l ++ [x] := by
  unfold insO; rw [past_snoc, h]; simp [hx]
theorem insO_end {i : Nat} {l : List Nat} : insL i l = if past i l then insO i l else insO i l ++ [i] := by
  unfold insO
  cases h : past i l
  · simp [insL_no h]
  · simp
theorem insL_len (i : Nat) : ∀ l : List Nat, (insL i l).length = l.length + 1
  | [] => rfl
  | x :: xs => by
    unfold insL
    split
    · simp
    · simp [insL_len i xs]
theorem insO_len (i : Nat) (l : List Nat) : (insO i l).length ≤ l.length + 1 := by
  unfold insO
  split
  · rw [insL_len]; exact Nat.le_refl _
  · omega
theorem insL_upTo {f : Nat → Bool} {k : Nat} (hf : f k = false) : ∀ n, k < n → insL k (upTo f n) = upTo (withF f k) n
  | 0, h => absurd h (by omega)
  | n + 1, h => by
    have e : ∀ m, m ≤ k → upTo (withF f k) m = upTo f m := fun m hm => by
      unfold upTo
      apply List.filter_congr
      intro j hj
      rw [List.mem_range] at hj
      have : (j == k) = false := by simp; omega
      simp [withF, this]
    by_cases hk : k = n
    · subst hk
      have hw : withF f k k = true := by simp [withF]
      rw [upTo_no hf, upTo_yes hw, e k (Nat.le_refl _)]
      refine insL_no ?_
      simp only [past, List.any_eq_false, decide_eq_true_eq]
      intro x hx
      have := upTo_lt hx
      omega
    · have ih := insL_upTo hf n (by omega)
      have hw : withF f k n = f n := by
        have : (n == k) = false := by simp; omega
        simp [withF, this]
      cases hn : f n
      · rw [upTo_no hn, upTo_no (by rw [hw]; exact hn), ih]
      · rw [upTo_yes hn, upTo_yes (by rw [hw]; exact hn), ← ih]
        cases hp : past k (upTo f n)
        · rw [insL_at (by omega) hp, insL_no hp]; simp
        · rw [insL_yes hp]
/-! ### One less -/
def lessL (l : List Nat) (i : Int) : List Nat := l.filter fun x => !((x : Int) == i)
theorem lessL_yes {l : List Nat} {x : Nat} {i : Int} (h : ((x : Int) == i) = false) : lessL (l ++ [x]) i = lessL l i ++ [x] := by simp [lessL, List.filter_append, h]
theorem lessL_no {l : List Nat} {x : Nat} {i : Int} (h : ((x : Int) == i) = true) : lessL (l ++ [x]) i = lessL l i := by simp [lessL, List.filter_append, h]
theorem lessL_len (l : List Nat) (i : Int) : (lessL l i).length ≤ l.length := List.length_filter_le _ _
theorem lessL_lt (l : List Nat) (i : Int) : decide ((lessL l i).length < l.length) = lhas l i := by
  rw [Bool.eq_iff_iff, decide_eq_true_eq]
  induction l with
  | nil => simp [lessL, lhas]
  | cons a l ih =>
    have hl := lessL_len l i
    have e1 : lessL (a :: l) i = if !((a : Int) == i) then a :: lessL l i else lessL l i := by
      unfold lessL; rw [List.filter_cons]
    have e2 : lhas (a :: l) i = ((a : Int) == i || lhas l i) := rfl
    rw [e1, e2, List.length_cons]
    cases h : ((a : Int) == i)
    · rw [if_pos (by rfl), List.length_cons, Bool.false_or, ← ih]; omega
    · rw [if_neg (by simp)]
      simp only [Bool.true_or, iff_true]; omega
theorem lessL_upTo {f : Nat → Bool} {n : Nat} (h : ∀ i, f i = true → i < n) (i : Int) : lessL (upTo f n) i = upTo (takeF f i) n := by
  unfold takeF
  cases hh : hasI f i
  · simp only [Bool.false_eq_true, if_false]
    unfold lessL
    rw [List.filter_eq_self]
    intro x hx
    rw [mem_upTo] at hx
    cases hxi : ((x : Int) == i)
    · rfl
    · exfalso
      have : i = x := (beq_iff_eq.1 hxi).symm
      subst this
      rw [hasI_cast, hx.2] at hh; cases hh
  · simp only [if_true]
    simp only [hasI, Bool.and_eq_true, decide_eq_true_eq] at hh
    unfold lessL upTo
    rw [List.filter_filter]
    apply List.filter_congr
    intro x _
    have : ((x : Int) == i) = (x == i.toNat) := by rw [Bool.eq_iff_iff, beq_iff_eq, beq_iff_eq]; omega
    simp [lessOne, this, Bool.and_comm]
/-! ### Those of another -/
def orT (n : Nat) (f : Nat → Bool) (l : List Nat) : Nat → Bool := fun i => f i || (decide (i < n) && l.contains i)
def orM (n : Nat) (f : Nat → Bool) (l : List Nat) : Bool := l.any fun x => decide (x < n) && !f x
theorem orT_nil (n : Nat) (f : Nat → Bool) : orT n f [] = f := by funext i; simp [orT]
theorem orT_into {n : Nat} {f : Nat → Bool} (h : ∀ i, f i = true → i < n) (l : List Nat) : ∀ i, orT n f l i = true → i < n := fun i hi => by
  simp only [orT, Bool.or_eq_true, Bool.and_eq_true, decide_eq_true_eq] at hi
  rcases hi with hi | hi
  · exact h i hi
  · exact hi.1
theorem orT_snoc (n : Nat) (f : Nat → Bool) (l : List Nat) (x : Nat) : putF n (orT n f l) (x : Int) = orT n f (l ++ [x]) := by
  funext i
  unfold putF
  rw [inR_cast]
  by_cases hx : x < n
  · simp only [hx, decide_true, if_true, Int.toNat_natCast, withF, orT, List.contains_append, List.contains_cons, List.contains_nil, Bool.or_false]
    by_cases hi : i = x
    · subst hi; simp [hx]
    · have : (i == x) = false := by simp [hi]
      simp [this]
  · simp only [hx, decide_false, Bool.false_eq_true, if_false, orT, List.contains_append, List.contains_cons, List.contains_nil, Bool.or_false]
    by_cases hi : i = x
    · subst hi; simp [hx]
    · have : (i == x) = false := by simp [hi]
      simp [this]
theorem orM_snoc (n : Nat) (f : Nat → Bool) (l : List Nat) (x : Nat) : orM n f (l ++ [x]) = (orM n f l || putB n (orT n f l) (x : Int)) := by
  simp only [orM, List.any_append, List.any_cons, List.any_nil, Bool.or_false, putB, inR_cast, hasI_cast, orT]
  by_cases hm : x ∈ l
  · by_cases hx : x < n
    · cases hf : f x
      · have : (l.any fun x => decide (x < n) && !f x) = true := by
          rw [List.any_eq_true]; exact ⟨x, hm, by simp [hx, hf]⟩
        simp [this]
      · simp
    · simp [hx]
  · simp [hm]
theorem orT_all {n m : Nat} {f g : Nat → Bool} (hg : ∀ i, g i = true → i < m) : orT n f (upTo g m) = orF n f g := by
  funext i
  simp only [orT, orF]
  have : (upTo g m).contains i = g i := by
    rw [Bool.eq_iff_iff, List.contains_iff_mem, mem_upTo]
    exact ⟨fun h => h.2, fun h => ⟨hg i h, h⟩⟩
  rw [this, Bool.and_comm]
theorem orM_all {n m : Nat} {f g : Nat → Bool} (hg : ∀ i, g i = true → i < m) : orM n f (upTo g m) = moreB n f g := by
  rw [Bool.eq_iff_iff]
  simp only [orM, moreB, List.any_eq_true, mem_upTo, List.mem_range, Bool.and_eq_true, decide_eq_true_eq, Bool.not_eq_true']
  constructor
  · rintro ⟨x, ⟨_, h1⟩, h2, h3⟩; exact ⟨x, h2, h1, h3⟩
  · rintro ⟨x, h1, h2, h3⟩; exact ⟨x, ⟨hg x h2, h2⟩, h1, h3⟩
theorem meet_all {n m : Nat} {f g : Nat → Bool} (hf : ∀ i, f i = true → i < n) (hg : ∀ i, g i = true → i < m) : (upTo g m).any (fun x => lhas (upTo f n) (x : Int)) = meetB n f g := by
  rw [Bool.eq_iff_iff]
  simp only [meetB, List.any_eq_true, mem_upTo, List.mem_range, Bool.and_eq_true, lhas_upTo hf, hasI_cast]
  constructor
  · rintro ⟨x, ⟨_, h1⟩, h2⟩; exact ⟨x, hf x h2, h1, h2⟩
  · rintro ⟨x, h1, h2, h3⟩; exact ⟨x, ⟨hg x h2, h2⟩, h3⟩
end Go.Proofs.YtgmeomhddpmpbaaDoor.BitsW
