/- Sets, classes of bytes, arrays and maps of them, in plain words. -/
import Derived.Lib.TrailingZeros
import Derived.Test.YtfhddbjojpmbcaaProg
import Derived.WalkKit
import Derived.WalkLawsBesides
import Derived.WalkSpells
import Derived.LoopTactic
import Derived.Deep.QuietTactic
import Derived.BigQuiet
import Derived.Lib.Hide
import Derived.Outline
import Derived.Below
import Derived.WalkSmall
import Derived.Lib.SlBytesRow
import Derived.ProofKit
import Derived.SizedLaws
import Derived.Deep.MidRow
import Derived.Deep.WholeRow
import Derived.Laws.ResultCell
import Derived.Maps.OwnSet
import Derived.Maps.OwnIn
import Derived.WalkMore
namespace Go.Proofs.Ytfhddbjojpmbcaa.SetM

/-- The number whose bits are f's values from o on, n of them. -/
def wdAux (f : Nat → Bool) (o : Nat) : Nat → Nat
  | 0 => 0
  | n + 1 => if f (o + n) then 2 ^ n + wdAux f o n else wdAux f o n
theorem wdAux_lt (f : Nat → Bool) (o : Nat) : ∀ n, wdAux f o n < 2 ^ n
  | 0 => by simp [wdAux]
  | n + 1 => by
    have h := wdAux_lt f o n
    rw [Nat.pow_succ]
    unfold wdAux
    split <;> omega
theorem wdAux_testBit (f : Nat → Bool) (o : Nat) : ∀ n j, (wdAux f o n).testBit j = (decide (j < n) && f (o + j))
  | 0, j => by simp [wdAux]
  | n + 1, j => by
    have h := wdAux_lt f o n
    have ih := wdAux_testBit f o n
    by_cases hj : j = n
    · subst hj
      have h0 : (wdAux f o j).testBit j = false := Nat.testBit_lt_two_pow h
      unfold wdAux
      split
      · rename_i hf
        rw [Nat.testBit_two_pow_add_eq, h0, hf]; simp
      · rename_i hf
        rw [h0]; simp [hf]
    · have e : decide (j < n + 1) = decide (j < n) := by
        by_cases h1 : j < n
        · simp [h1]; omega
        · simp [h1]; omega
      rw [e]
      by_cases h1 : j < n
      · unfold wdAux
        split
        · rw [Nat.testBit_two_pow_add_gt h1, ih]
        · rw [ih]
      · have h2 : wdAux f o (n + 1) < 2 ^ j := Nat.lt_of_lt_of_le (wdAux_lt f o (n + 1)) (Nat.pow_le_pow_right (by decide) (by omega))
        rw [Nat.testBit_lt_two_pow h2]; simp [h1]

/-- Word k of the set of which f tells who is in. -/
def wd (f : Nat → Bool) (k : Nat) : Nat := wdAux f (64 * k) 64
theorem wd_lt (f : Nat → Bool) (k : Nat) : wd f k < 18446744073709551616 := wdAux_lt f (64 * k) 64
theorem wd_testBit (f : Nat → Bool) (k j : Nat) : (wd f k).testBit j = (decide (j < 64) && f (64 * k + j)) := wdAux_testBit f (64 * k) 64 j
theorem wd_eq (f : Nat → Bool) (k x : Nat) (hx : x < 18446744073709551616) (h : ∀ j, j < 64 → x.testBit j = f (64 * k + j)) : x = wd f k := by
  apply Nat.eq_of_testBit_eq
  intro j
  rw [wd_testBit]
  by_cases hj : j < 64
  · rw [h j hj]; simp [hj]
  · have : x < 2 ^ j := Nat.lt_of_lt_of_le (m := 2 ^ 64) hx (Nat.pow_le_pow_right (by decide) (by omega))
    rw [Nat.testBit_lt_two_pow this]; simp [hj]
theorem wd_congr {f g : Nat → Bool} (k : Nat) (h : ∀ j, j < 64 → f (64 * k + j) = g (64 * k + j)) : wd f k = wd g k :=
  wd_eq g k _ (wd_lt f k) (fun j hj => by rw [wd_testBit, h j hj]; simp [hj])
theorem wd_inj {f g : Nat → Bool} {k : Nat} (h : wd f k = wd g k) {j : Nat} (hj : j < 64) : f (64 * k + j) = g (64 * k + j) := by
  have h1 := wd_testBit f k j
  rw [h, wd_testBit] at h1
  simpa [hj] using h1.symm
/-- Who is in the set of four words. -/
def memOf (a b c d : Nat) (i : Nat) : Bool := (if i < 64 then a else if i < 128 then b else if i < 192 then c else d).testBit (i % 64)
theorem memOf0 (a b c d : Nat) (h : a < 18446744073709551616) : a = wd (memOf a b c d) 0 := wd_eq _ _ _ h fun j hj => by
  unfold memOf; rw [if_pos (by omega), show (64 * 0 + j) % 64 = j by omega]
theorem memOf1 (a b c d : Nat) (h : b < 18446744073709551616) : b = wd (memOf a b c d) 1 := wd_eq _ _ _ h fun j hj => by
  unfold memOf; rw [if_neg (by omega), if_pos (by omega), show (64 * 1 + j) % 64 = j by omega]
theorem memOf2 (a b c d : Nat) (h : c < 18446744073709551616) : c = wd (memOf a b c d) 2 := wd_eq _ _ _ h fun j hj => by
  unfold memOf; rw [if_neg (by omega), if_neg (by omega), if_pos (by omega), show (64 * 2 + j) % 64 = j by omega]
theorem memOf3 (a b c d : Nat) (h : d < 18446744073709551616) : d = wd (memOf a b c d) 3 := wd_eq _ _ _ h fun j hj => by
  unfold memOf; rw [if_neg (by omega), if_neg (by omega), if_neg (by omega), show (64 * 3 + j) % 64 = j by omega]

/-! ### Sets, by who is in -/
def unionF (f g : Nat → Bool) : Nat → Bool := fun i => f i || g i
def meetF (f g : Nat → Bool) : Nat → Bool := fun i => f i && g i
def lessF (f g : Nat → Bool) : Nat → Bool := fun i => f i && !g i
def notF (f : Nat → Bool) : Nat → Bool := fun i => !f i
def withF (f : Nat → Bool) (b : Nat) : Nat → Bool := fun i => f i || i == b
/-- From lo to ahead of hi. -/
def spanF (lo hi : Nat) : Nat → Bool := fun i => decide (lo ≤ i) && decide (i < hi)
def emptyF : Nat → Bool := fun _ => false
/-- Up to ahead of k alone. -/
def toF (f : Nat → Bool) (k : Nat) : Nat → Bool := fun i => decide (i < k) && f i
def ofF (l : List UInt8) : Nat → Bool := fun i => l.any fun c => i == c.toNat

/-! ### What is done to words -/
theorem wd_and (f g : Nat → Bool) (k : Nat) : wd f k &&& wd g k = wd (meetF f g) k :=
  wd_eq _ _ _ (Nat.and_lt_two_pow (n := 64) _ (wd_lt g k)) fun j hj => by rw [Nat.testBit_and, wd_testBit, wd_testBit]; simp [hj, meetF]
theorem wd_or (f g : Nat → Bool) (k : Nat) : wd f k ||| wd g k = wd (unionF f g) k :=
  wd_eq _ _ _ (Nat.or_lt_two_pow (n := 64) (wd_lt f k) (wd_lt g k)) fun j hj => by rw [Nat.testBit_or, wd_testBit, wd_testBit]; simp [hj, unionF]
theorem wd_not (f : Nat → Bool) (k : Nat) : 18446744073709551615 - wd f k = wd (notF f) k :=
  wd_eq _ _ _ (by omega) fun j hj => by
    have h := wd_lt f k
    rw [show 18446744073709551615 - wd f k = 2 ^ 64 - (wd f k + 1) by omega, Nat.testBit_two_pow_sub_succ h, wd_testBit]; simp [hj, notF]
theorem wd_empty (k : Nat) : wd emptyF k = 0 := (wd_eq _ _ _ (by decide) (fun j _ => by simp [emptyF])).symm
theorem wd_set (f : Nat → Bool) (k r : Nat) (hr : r < 64) : wd f k ||| 2 ^ r = wd (withF f (64 * k + r)) k :=
  wd_eq _ _ _ (Nat.or_lt_two_pow (n := 64) (wd_lt f k) (Nat.pow_lt_pow_right (by decide) hr)) fun j hj => by
    rw [Nat.testBit_or, wd_testBit, Nat.testBit_two_pow]
    have e : decide (r = j) = (64 * k + j == 64 * k + r) := by
      rw [Bool.eq_iff_iff]; simp; omega
    simp [hj, e, withF]
theorem wd_other (f : Nat → Bool) (k b : Nat) (h : b / 64 ≠ k) : wd f k = wd (withF f b) k :=
  wd_congr k fun j hj => by
    have : (64 * k + j == b) = false := by simp; omega
    simp [withF, this]
theorem bit_of (f : Nat → Bool) (k r : Nat) (hr : r < 64) : (wd f k / 2 ^ r) % 2 = (f (64 * k + r)).toNat := by
  have h := wd_testBit f k r
  rw [Nat.testBit_eq_decide_div_mod_eq] at h
  simp only [hr, decide_true, Bool.true_and] at h
  rw [← h]
  have : wd f k / 2 ^ r % 2 < 2 := Nat.mod_lt _ (by decide)
  by_cases h1 : wd f k / 2 ^ r % 2 = 1
  · simp [h1]
  · simp [h1]; omega
end Go.Proofs.Ytfhddbjojpmbcaa.SetM
namespace Go.Proofs.Ytfhddbjojpmbcaa.PartM
set_option linter.unusedVariables false

/-- Alike is an equivalence. -/
structure Eqv (E : Nat → Nat → Bool) : Prop where
  refl : ∀ a, E a a = true
  symm : ∀ a b, E a b = true → E b a = true
  trans : ∀ a b c, E a b = true → E b c = true → E a c = true
/-- Alike by a key. -/
def byKey {α : Type} [DecidableEq α] (key : Nat → α) : Nat → Nat → Bool := fun a b => decide (key a = key b)
theorem byKey_eqv {α : Type} [DecidableEq α] (key : Nat → α) : Eqv (byKey key) :=
  ⟨fun a => by simp [byKey], fun a b h => by simp [byKey] at *; exact h.symm, fun a b c h k => by simp [byKey] at *; exact h.trans k⟩
/-- The first one that is alike. -/
def fst (E : Nat → Nat → Bool) (b : Nat) : Nat := ((List.range b).find? (fun a => E a b)).getD b
/-- How many below n are the first ones of theirs. -/
def rk (E : Nat → Nat → Bool) : Nat → Nat
  | 0 => 0
  | n + 1 => if fst E n = n then rk E n + 1 else rk E n
/-- The number of b's class. -/
def nm (E : Nat → Nat → Bool) (b : Nat) : Nat := rk E (fst E b)
/-- The class i, as far as the bytes below c go. -/
def cls (E : Nat → Nat → Bool) (c i : Nat) : Nat → Bool := fun x => decide (x < c) && (nm E x == i)

theorem fst_spec (E : Nat → Nat → Bool) (b : Nat) : (fst E b = b ∧ ∀ a, a < b → E a b = false) ∨ (fst E b < b ∧ E (fst E b) b = true ∧ ∀ a, a < fst E b → E a b = false) := by
  unfold fst
  cases h : (List.range b).find? (fun a => E a b) with
  | none =>
    left
    rw [List.find?_eq_none] at h
    exact ⟨rfl, fun a ha => by have := h a (List.mem_range.2 ha); simpa using this⟩
  | some a =>
    right
    obtain ⟨h1, xs, bs, h2, h3⟩ := List.find?_eq_some_iff_append.1 h
    have hm : a ∈ List.range b := by rw [h2]; simp
    refine ⟨List.mem_range.1 hm, h1, fun x hx => ?_⟩
    have hax : x ∈ xs := by
      have hl : xs.length = a := by
        have h4 : (List.range b)[xs.length]? = some a := by rw [h2]; simp
        have h5 := (List.getElem?_eq_some_iff.1 h4).2
        rw [List.getElem_range] at h5; exact h5
      have h6 : (List.range b)[x]? = some x := by
        rw [List.getElem?_eq_getElem (by simp; have := List.mem_range.1 hm; simp at hx; omega), List.getElem_range]
      rw [h2, List.getElem?_append_left (by rw [hl]; simpa using hx)] at h6
      exact List.mem_of_getElem? h6
    simpa using h3 x hax
theorem fst_le (E : Nat → Nat → Bool) (b : Nat) : fst E b ≤ b := by
  rcases fst_spec E b with ⟨h, _⟩ | ⟨h, _⟩ <;> omega
variable {E : Nat → Nat → Bool}
theorem fst_alike (h : Eqv E) (b : Nat) : E (fst E b) b = true := by
  rcases fst_spec E b with ⟨h1, _⟩ | ⟨_, h2, _⟩
  · rw [h1]; exact h.refl b
  · exact h2
theorem fst_min {a b : Nat} (hab : E a b = true) : fst E b ≤ a := by
  rcases fst_spec E b with ⟨h1, h2⟩ | ⟨h1, _, h2⟩
  · rw [h1]
    rcases Nat.lt_or_ge a b with h | h
    · rw [h2 a h] at hab; cases hab
    · exact h
  · rcases Nat.lt_or_ge a (fst E b) with h | h
    · rw [h2 a h] at hab; cases hab
    · exact h
theorem fst_congr (h : Eqv E) {a b : Nat} (hab : E a b = true) : fst E a = fst E b :=
  Nat.le_antisymm (fst_min (h.trans _ _ _ (fst_alike h b) (h.symm _ _ hab))) (fst_min (h.trans _ _ _ (fst_alike h a) hab))
theorem fst_fst (h : Eqv E) (b : Nat) : fst E (fst E b) = fst E b := fst_congr h (fst_alike h b)
theorem first_iff (h : Eqv E) (b : Nat) : fst E b = b ↔ ∀ a, a < b → E a b = false := by
  rcases fst_spec E b with ⟨h1, h2⟩ | ⟨h1, h2, _⟩
  · exact ⟨fun _ => h2, fun _ => h1⟩
  · exact ⟨fun e => by omega, fun e => by rw [e _ h1] at h2; cases h2⟩
theorem rk_le (n : Nat) : rk E n ≤ n := by
  induction n with
  | zero => simp [rk]
  | succ n ih => unfold rk; split <;> omega
theorem rk_mono {a b : Nat} (hab : a ≤ b) : rk E a ≤ rk E b := by
  induction b with
  | zero => have : a = 0 := by omega
            subst this; exact Nat.le_refl _
  | succ b ih =>
    rcases Nat.lt_or_ge b a with h | h
    · have : a = b + 1 := by omega
      subst this; exact Nat.le_refl _
    · have := ih h
      show _ ≤ (if fst E b = b then rk E b + 1 else rk E b)
      split <;> omega
theorem rk_new {n : Nat} (hn : fst E n = n) : rk E (n + 1) = rk E n + 1 := by simp [rk, hn]
theorem rk_old {n : Nat} (hn : fst E n ≠ n) : rk E (n + 1) = rk E n := by simp [rk, hn]
theorem rk_strict {a b : Nat} (ha : fst E a = a) (hab : a < b) : rk E a < rk E b := by
  have := rk_mono (E := E) (show a + 1 ≤ b from hab)
  rw [rk_new ha] at this; omega
theorem nm_congr (h : Eqv E) {a b : Nat} (hab : E a b = true) : nm E a = nm E b := by unfold nm; rw [fst_congr h hab]
theorem nm_inj (h : Eqv E) {a b : Nat} (hab : nm E a = nm E b) : E a b = true := by
  have e : fst E a = fst E b := by
    unfold nm at hab
    rcases Nat.lt_trichotomy (fst E a) (fst E b) with hl | hl | hl
    · have := rk_strict (fst_fst h a) hl; omega
    · exact hl
    · have := rk_strict (fst_fst h b) hl; omega
  exact h.trans _ _ _ (h.symm _ _ (fst_alike h a)) (e ▸ fst_alike h b)
theorem nm_iff (h : Eqv E) (a b : Nat) : E a b = (nm E a == nm E b) := by
  cases hab : E a b with
  | true => rw [nm_congr h hab]; simp
  | false =>
    symm
    rw [beq_eq_false_iff_ne]
    intro e
    rw [nm_inj h e] at hab; cases hab
theorem nm_first {n : Nat} (hn : fst E n = n) : nm E n = rk E n := by unfold nm; rw [hn]
theorem nm_lt (h : Eqv E) {b n : Nat} (hb : b < n) : nm E b < rk E n := by
  unfold nm
  exact rk_strict (fst_fst h b) (Nat.lt_of_le_of_lt (fst_le E b) hb)
theorem nm_le (b : Nat) : nm E b ≤ b := Nat.le_trans (rk_le _) (fst_le E b)
/-- Each number has its first one. -/
theorem nth (n i : Nat) (hi : i < rk E n) : ∃ d, d < n ∧ fst E d = d ∧ rk E d = i := by
  induction n with
  | zero => simp [rk] at hi
  | succ n ih =>
    by_cases hn : fst E n = n
    · rw [rk_new hn] at hi
      rcases Nat.lt_or_ge i (rk E n) with h | h
      · obtain ⟨d, h1, h2⟩ := ih h; exact ⟨d, by omega, h2⟩
      · exact ⟨n, by omega, hn, by omega⟩
    · rw [rk_old hn] at hi
      obtain ⟨d, h1, h2⟩ := ih hi; exact ⟨d, by omega, h2⟩
/-- What is put into the classes when a byte comes. -/
theorem cls_with (c i : Nat) (h : nm E c = i) : SetM.withF (cls E c i) c = cls E (c + 1) i := by
  funext x
  unfold SetM.withF cls
  rw [Bool.eq_iff_iff]
  simp
  constructor
  · rintro (⟨h1, h2⟩ | rfl)
    · exact ⟨by omega, h2⟩
    · exact ⟨by omega, h⟩
  · rintro ⟨h1, h2⟩
    by_cases e : x = c
    · exact .inr e
    · exact .inl ⟨by omega, h2⟩
theorem cls_other (c i : Nat) (h : nm E c ≠ i) : cls E c i = cls E (c + 1) i := by
  funext x
  unfold cls
  rw [Bool.eq_iff_iff]
  simp
  intro h2
  by_cases e : x = c
  · subst e; exact absurd h2 h
  · omega
theorem cls_none (i : Nat) : cls E 0 i = SetM.emptyF := by funext x; simp [cls, SetM.emptyF]
theorem cls_far (h : Eqv E) {c i : Nat} (hi : rk E c ≤ i) : cls E c i = SetM.emptyF := by
  funext x
  unfold cls SetM.emptyF
  rw [Bool.and_eq_false_iff]
  by_cases hx : x < c
  · right
    have := nm_lt h hx
    rw [beq_eq_false_iff_ne]; omega
  · left; simp; omega
/-- Which of the classes: its least one is alike just if the number is its. -/
theorem least_cls (h : Eqv E) {c i : Nat} (hi : i < rk E c) : ∃ d, d < c ∧ (∀ x, x < d → cls E c i x = false) ∧ cls E c i d = true ∧ ∀ x, E d x = (nm E x == i) := by
  obtain ⟨d, h1, h2, h3⟩ := nth c i hi
  have hd : nm E d = i := by rw [nm_first h2, h3]
  refine ⟨d, h1, fun x hx => ?_, by simp [cls, h1, hd], fun x => ?_⟩
  · unfold cls
    rw [Bool.and_eq_false_iff]
    right
    rw [beq_eq_false_iff_ne]
    have hx1 : nm E x < rk E d := nm_lt h hx
    omega
  · rw [nm_iff h d x, hd]
    exact BEq.comm
/-- Two ways to be alike. -/
theorem nm_ext {E E' : Nat → Nat → Bool} (n : Nat) (h : ∀ a b, a < n → b < n → E a b = E' a b) : (∀ b, b < n → nm E b = nm E' b) ∧ ∀ k, k ≤ n → rk E k = rk E' k := by
  have hf : ∀ b, b < n → fst E b = fst E' b := fun b hb => by
    rcases fst_spec E b with ⟨h1, h2⟩ | ⟨h1, h2, h3⟩
    · rcases fst_spec E' b with ⟨k1, _⟩ | ⟨k1, k2, _⟩
      · rw [h1, k1]
      · rw [← h _ _ (by omega) hb, h2 _ k1] at k2; cases k2
    · rcases fst_spec E' b with ⟨k1, k2⟩ | ⟨k1, k2, k3⟩
      · rw [h _ _ (by omega) hb, k2 _ h1] at h2; cases h2
      · rcases Nat.lt_trichotomy (fst E b) (fst E' b) with hl | hl | hl
        · have := k3 _ hl
          rw [← h _ _ (by omega) hb, h2] at this; cases this
        · exact hl
        · have := h3 _ hl
          rw [h _ _ (by omega) hb, k2] at this; cases this
  have hr : ∀ k, k ≤ n → rk E k = rk E' k := fun k => by
    induction k with
    | zero => intro _; rfl
    | succ k ih =>
      intro hk
      unfold rk
      rw [hf k (by omega), ih (by omega)]
  exact ⟨fun b hb => by
    unfold nm
    rw [hf b hb]
    exact hr _ (by have := fst_le E' b; omega), hr⟩
end Go.Proofs.Ytfhddbjojpmbcaa.PartM
namespace Go.Proofs.Ytfhddbjojpmbcaa.Base
open Go.RowKit
variable {P : Program}

theorem ret_bool {a b : Bool} (h : a = b) : Ending.returned (.bool a) = .returned (.bool b) := by rw [h]
theorem ret_int {k : IntKind} {a b : Int} (h : a = b) : Ending.returned (.int k a) = .returned (.int k b) := by rw [h]
theorem ret_str {a b : ByteArray} (h : a = b) : Ending.returned (.string a) = .returned (.string b) := by rw [h]
theorem ba_ext {a b : ByteArray} (h : a.data.toList = b.data.toList) : a = b := ByteArray.ext (Array.toList_inj.1 h)
theorem ba_app (l m : List UInt8) : (⟨l.toArray⟩ ++ ⟨m.toArray⟩ : ByteArray) = ⟨(l ++ m).toArray⟩ := ba_ext (by simp)

/-- A slice of bytes that reads as s. -/
def BSl (w : World) (v : Value) (s : ByteArray) : Prop :=
  (∃ a, v = .slice a 0 0 ∧ s = ByteArray.empty) ∨ ∃ b o cap, v = .slice (some ⟨b, o, none⟩) s.size cap ∧ s.size ≤ cap ∧ cap ≤ maxLen ∧ Lib.Bytes w b o s
theorem bytes_below {w w' : World} {b o : Nat} {s : ByteArray} (h : Lib.Bytes w b o s) (hb : Below w.heap.size w w') : Lib.Bytes w' b o s := fun i hi => by
  have hc := h i hi
  rw [hb.cell (World.block_lt_of_cell? _ _ hc)]; exact hc
theorem BSl.below {w w' : World} {v : Value} {s : ByteArray} (h : BSl w v s) (hb : Below w.heap.size w w') : BSl w' v s := by
  rcases h with h | ⟨b, o, cap, h1, h2, h3, h4⟩
  · exact .inl h
  · exact .inr ⟨b, o, cap, h1, h2, h3, bytes_below h4 hb⟩

/-- 's[l:h]' of a slice of one-cell elements: where it begins is told where there is something in it. -/
theorem run_sub (W : World) (t e : TypeId) (ht : P.underlying t = some (.slice e)) (hz : ∀ w, (Go.sizeOf e).run P w = .ok 1 w) (b o len cap l h : Nat) (hlh : l ≤ h) (hh : h ≤ cap) :
    ∃ o', (Instr.slice t (.slice (some ⟨b, o, none⟩) len cap) (some (.int .i64 (l : Int))) (some (.int .i64 (h : Int))) none).run P W = .ok (.slice (some ⟨b, o', none⟩) (h - l) (cap - l)) W ∧ (l < cap → o' = o + l) := by
  have ht' : P.underlying t = some (.slice (P.elem t)) := by simp [Program.elem, ht]
  have he : P.elem t = e := by simp [Program.elem, ht]
  rw [run_slice_lh W t _ _ _ ht' .i64 .i64 _ _ (by omega) (by omega) (by omega), he, hz]
  by_cases hc : cap = l
  · exact ⟨o, by simp [Result.andThen, sliced, hc], fun h => by omega⟩
  · refine ⟨o + l, ?_, fun _ => rfl⟩
    by_cases h0 : l = 0
    · subst h0
      simp [Result.andThen, sliced, Addr.add, hc]
    · simp [Result.andThen, sliced, Addr.add, hc, h0]

/-- 'string(b)' of no bytes, wherever it lies. -/
theorem run_conv_empty (W : World) (t e d : TypeId) (ht : P.underlying t = some (.slice e)) (he : P.underlying e = some (.int .u8)) (hd : P.underlying d = some .string) (a : Option Addr) (c : Nat) :
    (convert t d (.slice a 0 c)).run P W = .ok (.string ByteArray.empty) W := by
  cases a with
  | none => exact run_convert_bytes_nil (P := P) W t e ht he 0 c d hd
  | some a =>
    rw [run_convert_bytes_string W t d e _ 0 c ht he hd]
    have h : (loadCells a 0).run P W = .ok #[] W := by
      have := run_loadCells_list (P := P) W a [] (fun j v h => by simp at h)
      simpa using this
    simp [h, Conv.bytesToString]
/-- 's[0:0]' of nothing. -/
theorem run_slice_empty (W : World) (t e : TypeId) (ht : P.underlying t = some (.slice e)) (hz : ∀ w, (Go.sizeOf e).run P w = .ok 1 w) (a : Option Addr) :
    (Instr.slice t (.slice a 0 0) (some (.int .i64 0)) (some (.int .i64 0)) none).run P W = .ok (.slice a 0 0) W := by
  have ht' : P.underlying t = some (.slice (P.elem t)) := by simp [Program.elem, ht]
  have he : P.elem t = e := by simp [Program.elem, ht]
  rw [run_slice_lh W t _ _ _ ht' .i64 .i64 _ _ (by omega) (by omega) (by omega), he, hz]
  simp [Result.andThen, sliced]
/-- 'string(s[l:h])'. -/
theorem run_sub_str (W : World) (t e d : TypeId) (ht : P.underlying t = some (.slice e)) (he : P.underlying e = some (.int .u8)) (hd : P.underlying d = some .string) (hz : ∀ w, (Go.sizeOf e).run P w = .ok 1 w)
    (s : ByteArray) (b o cap l h : Nat) (hB : Lib.Bytes W b o s) (hcap : s.size ≤ cap) (hlh : l ≤ h) (hh : h ≤ s.size) :
    ∃ o', (Instr.slice t (.slice (some ⟨b, o, none⟩) s.size cap) (some (.int .i64 (l : Int))) (some (.int .i64 (h : Int))) none).run P W = .ok (.slice (some ⟨b, o', none⟩) (h - l) (cap - l)) W ∧
      (convert t d (.slice (some ⟨b, o', none⟩) (h - l) (cap - l))).run P W = .ok (.string (s.extract l h)) W := by
  obtain ⟨o', h1, h2⟩ := run_sub (P := P) W t e ht hz b o s.size cap l h hlh (by omega)
  refine ⟨o', h1, ?_⟩
  by_cases hlt : l < h
  · rw [h2 (by omega)]
    have := Lib.run_convert_window (P := P) W t e d ht he hd b o s hB l (h - l) (cap - l) (by omega)
    rw [show l + (h - l) = h by omega] at this
    exact this
  · obtain rfl : h = l := by omega
    have := run_convert_bytes_arg (P := P) W t e ht he b o' (h - h) (cap - h) [] (by simp) (fun i hi => by omega) d hd
    rw [this]
    congr 2
    exact ba_ext (by rw [strOfNums_data, Lib.extract_data]; simp)

/-- A slice of integers of kind k that reads as l; each fits its kind. -/
def ISl (k : IntKind) (w : World) (v : Value) (l : List Int) : Prop :=
  (∃ a, v = .slice a 0 0 ∧ l = []) ∨ ∃ b o cap, v = .slice (some ⟨b, o, none⟩) l.length cap ∧ l.length ≤ cap ∧ cap ≤ maxLen ∧ (∀ i (h : i < l.length), w.cell? ⟨b, o + i, none⟩ = some (.int k l[i])) ∧ ∀ x ∈ l, (Lit.int k x).wf = true
theorem ints_below {k : IntKind} {w w' : World} {b o : Nat} {l : List Int} (h : ∀ i (h : i < l.length), w.cell? ⟨b, o + i, none⟩ = some (.int k l[i])) (hb : Below w.heap.size w w') : ∀ i (h : i < l.length), w'.cell? ⟨b, o + i, none⟩ = some (.int k l[i]) := fun i hi => by
  have hc := h i hi
  rw [hb.cell (World.block_lt_of_cell? _ _ hc)]; exact hc
theorem ISl.below {k : IntKind} {w w' : World} {v : Value} {l : List Int} (h : ISl k w v l) (hb : Below w.heap.size w w') : ISl k w' v l := by
  rcases h with h | ⟨b, o, cap, h1, h2, h3, h4, h5⟩
  · exact .inl h
  · exact .inr ⟨b, o, cap, h1, h2, h3, ints_below h4 hb, h5⟩
/-- What the call owns reads as a slice of integers. -/
theorem isl_of_owns {k : IntKind} {w : World} {base : Nat} {e : TypeId} {v : Value} {n : Nat} {l : List Int} (h : w.ownsRow base e 1 v n (l.map (Value.int k))) (hwf : ∀ x ∈ l, (Lit.int k x).wf = true) : ISl k w v l := by
  have hl : l.length = n := by have := h.1; simpa using this
  rcases h.2 with ⟨h1, h2⟩ | ⟨g, cap, cur, rfl, hg, hh, hn, hc, hs, hx⟩
  · refine .inl ⟨_, h1, ?_⟩
    rw [h2] at hl
    exact List.length_eq_zero_iff.1 hl
  · refine .inr ⟨g, 0, cap, by rw [hl], by omega, hc, fun i hi => ?_, hwf⟩
    have h' := h
    rw [Nat.zero_add, World.ownsRow.cellAt h' i (by omega)]
    simp [hi]
theorem wf64 {x : Int} (h : (Lit.int .i64 x).wf = true) : -9223372036854775808 ≤ x ∧ x ≤ 9223372036854775807 := by
  simpa [Lit.wf, IntKind.min, IntKind.max, IntKind.signed, IntKind.bits] using h

/-! ### Arguments, opened -/
theorem byte_of_wf' {x : Int} (h : (Lit.int .u8 x).wf = true) : 0 ≤ x ∧ x < 256 := by
  have h1 : IntKind.u8.min = 0 := rfl
  have h2 : IntKind.u8.max = 255 := rfl
  simp only [Lit.wf, Bool.and_eq_true, decide_eq_true_eq] at h
  omega
open Go.ChangeShapes Go.WideShapes Go.ChangeAt
theorem isl_open {H : Type} {enc : TypeId × Value → H} {t e : TypeId} {k : IntKind} {W : World} {a : Option Addr} {len cap : Nat} {d : DataW H} {p : List MemPlace} (ht : P.underlying t = some (.slice e)) (he : P.underlying e = some (.int k)) (hc : P.cellsOf e = 1)
    (h : DataW.Trod enc P W 0 (fun _ => true) true t (.slice a len cap) d p) :
    ∃ l, ISl k W (.slice a len cap) l ∧ ((d = .nil ∧ l = []) ∨ ∃ el sp, d = .slice el sp ∧ el.length = l.length) := by
  obtain ⟨fuel, hf⟩ := h
  rcases open_ints ht he hc hf with ⟨hcs, hx⟩ | ⟨x, len', cap', zs, hcs, _, hl, hm, hz, hx, hcell, hwf⟩
  · simp only [Value.cells, List.cons.injEq, Value.slice.injEq, and_true] at hcs
    obtain ⟨rfl, rfl, rfl⟩ := hcs
    simp only [Prod.mk.injEq] at hx
    exact ⟨[], .inl ⟨none, rfl, rfl⟩, .inl ⟨hx.1, rfl⟩⟩
  · simp only [Value.cells, List.cons.injEq, Value.slice.injEq, and_true] at hcs
    obtain ⟨rfl, rfl, rfl⟩ := hcs
    simp only [Prod.mk.injEq] at hx
    simp only [if_true] at hz
    have hlen : (zs.take len).length = len := by rw [List.length_take]; omega
    refine ⟨zs.take len, ?_, .inr ⟨_, _, hx.1, by simp [lits]⟩⟩
    by_cases h0 : cap = 0
    · subst h0
      obtain rfl : len = 0 := by omega
      exact .inl ⟨some x, rfl, by simp⟩
    · have hc0 := hcell 0 (by omega)
      obtain ⟨b, off, spot⟩ := x
      have hspot : spot = none := by simpa [Addr.add] using World.cell?_spot hc0
      subst hspot
      refine .inr ⟨b, off, cap, by rw [hlen], by omega, hm, fun i hi => ?_, fun y hy => hwf y (List.mem_of_mem_take hy)⟩
      have := hcell i (by omega)
      have hplain : (⟨b, off, none⟩ : Addr).add i = ⟨b, off + i, none⟩ := by unfold Addr.add; split <;> simp_all
      rw [hplain] at this
      rw [hlen] at hi
      simpa [List.getD, List.getElem?_eq_getElem (show i < zs.length by omega)] using this
theorem bsl_open {H : Type} {enc : TypeId × Value → H} {t e : TypeId} {W : World} {a : Option Addr} {len cap : Nat} {d : DataW H} {p : List MemPlace} (ht : P.underlying t = some (.slice e)) (he : P.underlying e = some (.int .u8)) (hc : P.cellsOf e = 1)
    (h : DataW.Trod enc P W 0 (fun _ => true) true t (.slice a len cap) d p) :
    ∃ s, BSl W (.slice a len cap) s ∧ ((d = .nil ∧ s = ByteArray.empty) ∨ ∃ el sp, d = .slice el sp ∧ el.length = s.size) := by
  obtain ⟨l, hl, hd⟩ := isl_open ht he hc h
  refine ⟨strOfNums l, ?_, ?_⟩
  · rcases hl with ⟨a', h1, h2⟩ | ⟨b, o, cap', h1, h2, h3, h4, h5⟩
    · exact .inl ⟨a', h1, by rw [h2]; rfl⟩
    · refine .inr ⟨b, o, cap', by rw [h1, strOfNums_size], by rw [strOfNums_size]; exact h2, h3, ?_⟩
      exact Lib.bytes_of_nums (n := l.length) rfl (fun x hx => byte_of_wf' (h5 x hx)) (fun i hi => by rw [h4 i hi]; simp [List.getD, hi])
  · rcases hd with ⟨h1, h2⟩ | ⟨el, sp, h1, h2⟩
    · exact .inl ⟨h1, by rw [h2]; rfl⟩
    · exact .inr ⟨el, sp, h1, by rw [h2, strOfNums_size]⟩
end Go.Proofs.Ytfhddbjojpmbcaa.Base
namespace Go.Proofs.Ytfhddbjojpmbcaa.PartW
set_option linter.unusedVariables false
open Go.RowKit Go.Maps Go.Proofs.Ytfhddbjojpmbcaa.PartM
variable {P : Program}

/-- C's cells are 256 numbers of f. -/
structure IsA (C : Array Value) (f : Nat → Nat) : Prop where
  size : C.size = 256
  at' : ∀ i, i < 256 → C[i]? = some (.int .u8 (f i : Int))
theorem IsA.ext {C D : Array Value} {f g : Nat → Nat} (h : IsA C f) (k : IsA D g) (e : ∀ i, i < 256 → f i = g i) : C = D := by
  apply Array.ext_getElem?
  intro i
  by_cases hi : i < 256
  · rw [h.at' i hi, k.at' i hi, e i hi]
  · rw [Array.getElem?_eq_none (by rw [h.size]; omega), Array.getElem?_eq_none (by rw [k.size]; omega)]
theorem IsA.congr {C : Array Value} {f g : Nat → Nat} (h : IsA C f) (e : ∀ i, i < 256 → f i = g i) : IsA C g := ⟨h.size, fun i hi => by rw [h.at' i hi, e i hi]⟩
theorem IsA.one {C : Array Value} {f : Nat → Nat} (h : IsA C f) : C.all (·.oneCell') = true := by
  rw [Array.all_eq_true]
  intro i hi
  have := h.at' i (by rw [← h.size]; exact hi)
  rw [Array.getElem?_eq_getElem hi] at this
  injection this with this
  rw [this]; rfl
theorem IsA.set {C : Array Value} {f : Nat → Nat} (h : IsA C f) (k v : Nat) : IsA (C.setIfInBounds k (.int .u8 (v : Int))) (fun i => if i = k then v else f i) := by
  refine ⟨by rw [Array.size_setIfInBounds]; exact h.size, fun i hi => ?_⟩
  rw [Array.getElem?_setIfInBounds]
  by_cases e : k = i
  · subst e; simp [h.size, hi]
  · have e' : ¬ i = k := fun x => e x.symm
    simp [e, e', h.at' i hi]
theorem IsA.fn (f : Nat → Nat) : IsA (Array.ofFn (n := 256) fun i => Value.int .u8 (f i.1 : Int)) f := by
  refine ⟨by simp, fun i hi => ?_⟩
  rw [Array.getElem?_ofFn]; simp [hi]

/-- An array lies in block B. -/
abbrev Ar (w : World) (B : Nat) (C : Array Value) (t : TypeId) : Prop := w.heap[B]? = some (.cells C t (0, 0))
theorem Ar.lt {w : World} {B : Nat} {C : Array Value} {t : TypeId} (h : Ar w B C t) : B < w.heap.size := (Array.getElem?_eq_some_iff.1 h).1
theorem Ar.below {w w' : World} {B : Nat} {C : Array Value} {t : TypeId} (h : Ar w B C t) (hb : Below w.heap.size w w') : Ar w' B C t := (hb.block B h.lt).trans h
theorem Ar.new (w : World) (C : Array Value) (t : TypeId) : Ar (w.alloc (.cells C t)) w.heap.size C t := Array.getElem?_push_size
theorem Ar.alloc {w : World} {B : Nat} {C : Array Value} {t : TypeId} (h : Ar w B C t) (o : Obj) : Ar (w.alloc o) B C t := h.below ((Below.refl _ _).alloc (Nat.le_refl _) _)
theorem Ar.drew {w : World} {B : Nat} {C : Array Value} {t : TypeId} (h : Ar w B C t) : Ar w.drew B C t := h
theorem Ar.cell {w : World} {B : Nat} {C : Array Value} {t : TypeId} {f : Nat → Nat} (h : Ar w B C t) (hC : IsA C f) {i : Nat} (hi : i < 256) : w.cell? ⟨B, i, none⟩ = some (.int .u8 (f i : Int)) := by
  rw [cell_of_row w B i C t (0, 0) h]; exact hC.at' i hi
theorem Ar.frozen {w : World} {B : Nat} {C : Array Value} {t : TypeId} (h : Ar w B C t) (i : Nat) : w.frozen? ⟨B, i, none⟩ = false := by simp [World.frozen?, h]
theorem Ar.load {w : World} {B : Nat} {C : Array Value} {t : TypeId} (h : Ar w B C t) (hs : C.size = 256) : (loadCellsFrom ⟨B, 0, none⟩ 0 256 #[]).run P w = .ok C w := by
  have := run_loadCells_list (P := P) w ⟨B, 0, none⟩ C.toList (fun j v hv => by
    rw [Addr.add_mid, cell_of_row w B (0 + j) C t (0, 0) h, Nat.zero_add]
    simpa using hv)
  rw [Array.length_toList, hs] at this
  simpa [loadCells] using this
theorem Ar.set {w : World} {B : Nat} {C : Array Value} {t : TypeId} (h : Ar w B C t) (k : Nat) (v : Value) : Ar (w.setCell ⟨B, k, none⟩ v) B (C.setIfInBounds k v) t := by
  have hB := h.lt
  show (w.heap.modify B _)[B]? = _
  rw [Array.getElem?_modify]
  simp [h]
theorem Ar.other {w : World} {B : Nat} {C : Array Value} {t : TypeId} (h : Ar w B C t) {A : Addr} (hne : A.block ≠ B) (v : Value) : Ar (w.setCell A v) B C t := by
  show (w.heap.modify A.block _)[B]? = _
  rw [Array.getElem?_modify, if_neg (by simpa using hne)]; exact h
theorem Ar.store {w : World} {B : Nat} {C : Array Value} {t ty : TypeId} (h : Ar w B C t) (hs : C.size = 256) {D : Array Value} {f : Nat → Nat} (hD : IsA D f) (hi : (P.info? ty).map (·.size) = some 256) :
    (storeCells ⟨B, 0, none⟩ D.toList 0).run P w = .ok () (w.setRow B D) := by
  have := run_storeVar_row (P := P) w B t ty C D h (by rw [hD.size]; exact hi) (by rw [hs, hD.size]) hD.one
  cases hq : P.info? ty with
  | none => simp [hq] at hi
  | some i =>
    have hs : D.size = i.size := by rw [hD.size]; simpa [hq] using hi.symm
    simpa [storeVar, sizeOf, typeInfo, hq, Value.cells, hs] using this
theorem Ar.row {w : World} {B : Nat} {C : Array Value} {t : TypeId} (h : Ar w B C t) (D : Array Value) : Ar (w.setRow B D) B D t := by
  show (w.heap.modify B _)[B]? = _
  rw [Array.getElem?_modify]
  simp [h]
theorem heap_row (w : World) (B : Nat) (D : Array Value) {k : Nat} (hk : k ≠ B) : (w.setRow B D).heap[k]? = w.heap[k]? := by
  show (w.heap.modify B _)[k]? = _
  rw [Array.getElem?_modify, if_neg (fun e => hk e.symm)]
theorem size_row (w : World) (B : Nat) (D : Array Value) : (w.setRow B D).heap.size = w.heap.size := by
  show (w.heap.modify B _).size = _
  simp
theorem below_row {n : Nat} {w W : World} {B : Nat} (hb : Below n w W) (h : n ≤ B) (D : Array Value) : Below n w (W.setRow B D) :=
  hb.trans ⟨rfl, rfl, rfl, by rw [size_row]; exact Nat.le_refl _, fun k hk => heap_row _ _ _ (by omega)⟩

theorem Ar.loadVar {w : World} {B : Nat} {C : Array Value} {t ty : TypeId} {n : Nat} {e : TypeId} (h : Ar w B C t) (hs : C.size = 256) (hu : P.underlying ty = some (.array n e)) (hi : (P.info? ty).map (·.size) = some 256) :
    (loadVar ty ⟨B, 0, none⟩).run P w = .ok (.agg C) w := run_loadVar_row w B t ty C (0, 0) _ h hu rfl (by rw [hs]; exact hi)
section
variable {ops : Array Oper} {rest : List Oper} {op : Oper} {a : Act} {w : World} {Q : Exit → Act → World → Prop} {K : Act → World → Prop}
theorem run_load_arr (ty : TypeId) (x : Operand) (ho : op.op = .load ty x) {B : Nat} (hx : a.eval x = .pointer (some ⟨B, 0, none⟩)) {C : Array Value} {t : TypeId} {n : Nat} {e : TypeId} (h : Ar w B C t) (hs : C.size = 256)
    (hu : P.underlying ty = some (.array n e)) (hi : (P.info? ty).map (·.size) = some 256) : (execOp a.eval op).run P w = .ok (.value (.agg C)) w := by
  unfold execOp
  simp only [ho, hx, Instr.loadAt, Instr.sureAddr, Sem.run_bind, Sem.run_pure, Result.andThen_ok, h.loadVar hs hu hi]
theorem run_store_arr (ty : TypeId) (x y : Operand) (ho : op.op = .store ty x y) {B : Nat} (hx : a.eval x = .pointer (some ⟨B, 0, none⟩)) {C D : Array Value} (hy : a.eval y = .agg D) {t : TypeId} {f : Nat → Nat} (h : Ar w B C t) (hs : C.size = 256)
    (hD : IsA D f) (hi : (P.info? ty).map (·.size) = some 256) : (execOp a.eval op).run P w = .ok .skip (w.setRow B D) := by
  unfold execOp
  simp only [ho, hx, hy, Instr.storeAt, Instr.sureAddr, Sem.run_bind, Sem.run_pure, Result.andThen_ok, run_storeVar_row (P := P) w B t ty C D h (by rw [hD.size]; exact hi) (by rw [hs, hD.size]) hD.one]
theorem wp_load_arr (ty : TypeId) (x : Operand) (ho : op.op = .load ty x) {B : Nat} (hx : a.eval x = .pointer (some ⟨B, 0, none⟩)) {C : Array Value} {t : TypeId} {n : Nat} {e : TypeId} (h : Ar w B C t) (hs : C.size = 256)
    (hu : P.underlying ty = some (.array n e)) (hi : (P.info? ty).map (·.size) = some 256) (hK : K (a.put op.dst (.agg C)) w) : op.wp P a w K Q := by
  unfold Oper.wp execOp
  simp only [ho, hx, Instr.loadAt, Instr.sureAddr, Sem.run_bind, Sem.run_pure, Result.andThen_ok, h.loadVar hs hu hi]
  exact hK
theorem wpList_load_arr (hg : op.guard = none) (ty : TypeId) (x : Operand) (ho : op.op = .load ty x) {B : Nat} (hx : a.eval x = .pointer (some ⟨B, 0, none⟩)) {C : Array Value} {t : TypeId} {n : Nat} {e : TypeId} (h : Ar w B C t) (hs : C.size = 256)
    (hu : P.underlying ty = some (.array n e)) (hi : (P.info? ty).map (·.size) = some 256) (hK : wpList P ops Q rest (a.put op.dst (.agg C)) w) : wpList P ops Q (op :: rest) a w :=
  wpList_plain hg fun _ hK' => wp_load_arr ty x ho hx h hs hu hi (hK' _ _ hK)
theorem wpList_load_arr_g (hw : Region.wanted op (yielded ops a.tmps) = true) (ty : TypeId) (x : Operand) (ho : op.op = .load ty x) {B : Nat} (hx : a.eval x = .pointer (some ⟨B, 0, none⟩)) {C : Array Value} {t : TypeId} {n : Nat} {e : TypeId} (h : Ar w B C t) (hs : C.size = 256)
    (hu : P.underlying ty = some (.array n e)) (hi : (P.info? ty).map (·.size) = some 256) (hK : wpList P ops Q rest (a.put op.dst (.agg C)) w) : wpList P ops Q (op :: rest) a w :=
  wpList_step fun _ hK' => by rw [if_pos hw]; exact wp_load_arr ty x ho hx h hs hu hi (hK' _ _ hK)
theorem wp_store_arr (ty : TypeId) (x y : Operand) (ho : op.op = .store ty x y) {B : Nat} (hx : a.eval x = .pointer (some ⟨B, 0, none⟩)) {C D : Array Value} (hy : a.eval y = .agg D) {t : TypeId} {f : Nat → Nat} (h : Ar w B C t) (hs : C.size = 256)
    (hD : IsA D f) (hi : (P.info? ty).map (·.size) = some 256) (hK : K (a.put op.dst undef) (w.setRow B D)) : op.wp P a w K Q := by
  unfold Oper.wp execOp
  simp only [ho, hx, hy, Instr.storeAt, Instr.sureAddr, Sem.run_bind, Sem.run_pure, Result.andThen_ok, run_storeVar_row (P := P) w B t ty C D h (by rw [hD.size]; exact hi) (by rw [hs, hD.size]) hD.one]
  exact hK
theorem wpList_store_gen (hg : op.guard = none) (ty : TypeId) (x y : Operand) (ho : op.op = .store ty x y) {B : Nat} (hx : a.eval x = .pointer (some ⟨B, 0, none⟩)) {C D : Array Value} (hy : a.eval y = .agg D) {t : TypeId} (h : Ar w B C t) (hs : C.size = 256)
    (hd : D.size = 256) (h1 : D.all (·.oneCell') = true) (hi : (P.info? ty).map (·.size) = some 256) (hK : wpList P ops Q rest (a.put op.dst undef) (w.setRow B D)) : wpList P ops Q (op :: rest) a w :=
  wpList_plain hg fun _ hK' => by
    unfold Oper.wp execOp
    simp only [ho, hx, hy, Instr.storeAt, Instr.sureAddr, Sem.run_bind, Sem.run_pure, Result.andThen_ok, run_storeVar_row (P := P) w B t ty C D h (by rw [hd]; exact hi) (by rw [hs, hd]) h1]
    exact hK' _ _ hK
theorem wpList_store_arr (hg : op.guard = none) (ty : TypeId) (x y : Operand) (ho : op.op = .store ty x y) {B : Nat} (hx : a.eval x = .pointer (some ⟨B, 0, none⟩)) {C D : Array Value} (hy : a.eval y = .agg D) {t : TypeId} {f : Nat → Nat} (h : Ar w B C t) (hs : C.size = 256)
    (hD : IsA D f) (hi : (P.info? ty).map (·.size) = some 256) (hK : wpList P ops Q rest (a.put op.dst undef) (w.setRow B D)) : wpList P ops Q (op :: rest) a w :=
  wpList_plain hg fun _ hK' => wp_store_arr ty x y ho hx hy h hs hD hi (hK' _ _ hK)
end

theorem infoA : (Try.prog.info? 22).map (·.size) = some 256 := by kernel_rfl
theorem zeroA_info : (Try.prog.info? 22).map (fun i => (i.zero, i.size)) = some (some (.agg (Array.replicate 256 (.int .u8 0))), 256) := by kernel_rfl
theorem zeroA : ∃ Z, IsA Z (fun _ => 0) ∧ ∀ w, (zeroValue 22).run Try.prog w = .ok (.agg Z) w :=
  ⟨_, ⟨by simp, fun i hi => by rw [Array.getElem?_replicate]; simp [hi]⟩, (zero_of_info zeroA_info).1⟩
theorem hmf (fn : Fn) (first cap : Array Value) (w : World) : (Instr.makeFunc fn first cap).run Try.prog w = .ok (.func fn first cap) w := rfl
end Go.Proofs.Ytfhddbjojpmbcaa.PartW
namespace Go.Proofs.Ytfhddbjojpmbcaa.PartW
set_option linter.unusedVariables false
open Go.RowKit Go.Maps Go.Proofs.Ytfhddbjojpmbcaa.PartM
variable {P : Program}

/-- Keys of bytes. -/
structure Keys (P : Program) (kt : TypeId) (KV : Nat → Value) (KL : Nat → Lit) (E : Nat → Nat → Bool) : Prop where
  law : Keyed P kt
  key : ∀ b, b < 256 → keyOf P kt (KV b) = some (KL b)
  one : ∀ a b, a < 256 → b < 256 → (KL a = KL b ↔ E a b = true)
/-- What the map tells when the bytes below k have come. -/
structure Seen (D : DataW Unit) (KL : Nat → Lit) (E : Nat → Nat → Bool) (k : Nat) : Prop where
  yes : ∀ a, a < k → has D (KL a) = true ∧ ∀ z, D.atKey (KL a) z = .lit (.int .u8 (nm E a : Nat))
  no : ∀ b, b < 256 → (∀ a, a < k → E a b = false) → has D (KL b) = false
  size : size D = rk E k
theorem Seen.none (KL : Nat → Lit) (E : Nat → Nat → Bool) : Seen (.map []) KL E 0 := ⟨fun a h => absurd h (Nat.not_lt_zero _), fun b _ _ => rfl, rfl⟩
variable {kt : TypeId} {KV : Nat → Value} {KL : Nat → Lit} {E : Nat → Nat → Bool} {D : DataW Unit} {k : Nat}
/-- The key is there. -/
theorem Seen.old (hK : Keys P kt KV KL E) (hE : Eqv E) (h : Seen D KL E k) (hk : k < 256) (hn : fst E k ≠ k) :
    has D (KL k) = true ∧ (∀ z, D.atKey (KL k) z = .lit (.int .u8 (nm E k : Nat))) ∧ Seen D KL E (k + 1) := by
  have hf : fst E k < k := by have := fst_le E k; omega
  have he := fst_alike hE k
  have hl : KL (fst E k) = KL k := (hK.one _ _ (by omega) hk).2 he
  obtain ⟨h1, h2⟩ := h.yes _ hf
  rw [hl, nm_congr hE he] at h2
  rw [hl] at h1
  refine ⟨h1, h2, ⟨fun a ha => ?_, fun b hb hn' => h.no b hb fun a ha => hn' a (by omega), by rw [rk_old hn]; exact h.size⟩⟩
  by_cases e : a = k
  · subst e; exact ⟨h1, h2⟩
  · exact h.yes a (by omega)
/-- The key is new. -/
theorem Seen.new (hK : Keys P kt KV KL E) (hE : Eqv E) (h : Seen D KL E k) (hT : Tidy D) (hk : k < 256) (hn : fst E k = k) :
    has D (KL k) = false ∧ Seen (D.put (KL k) (.lit (.int .u8 (rk E k : Nat)))) KL E (k + 1) := by
  have hno := (first_iff hE k).1 hn
  have h0 := h.no k hk hno
  have hm : IsMap D := by obtain ⟨es, h1, _⟩ := hT; exact ⟨es, h1⟩
  have hkl := hK.law.key (hK.key k hk)
  refine ⟨h0, ⟨fun a ha => ?_, fun b hb hn' => ?_, ?_⟩⟩
  · by_cases e : a = k
    · subst e
      rw [nm_first hn]
      exact ⟨has_put_same hm hkl _, fun z => atKey_put_same hm hkl _ z⟩
    · have hne : KL a ≠ KL k := fun e' => by
        have := (hK.one a k (by omega) hk).1 e'
        rw [hno a (by omega)] at this; cases this
      obtain ⟨h1, h2⟩ := h.yes a (by omega)
      exact ⟨by rw [has_put_other hne]; exact h1, fun z => by rw [atKey_put_other hne]; exact h2 z⟩
  · have hne : KL b ≠ KL k := fun e' => by
      have := (hK.one k b hk hb).1 e'.symm
      rw [hn' k (by omega)] at this; cases this
    rw [has_put_other hne]
    exact h.no b hb fun a ha => hn' a (by omega)
  · rw [size_put hT, h0, rk_new hn, h.size]; rfl
/-- The array when the bytes below k have come. -/
def nmTo (E : Nat → Nat → Bool) (k : Nat) : Nat → Nat := fun i => if i < k then nm E i else 0
theorem nmTo_zero (E : Nat → Nat → Bool) : nmTo E 0 = fun _ => 0 := by funext i; simp [nmTo]
theorem nmTo_all {C : Array Value} (E : Nat → Nat → Bool) (h : IsA C (nmTo E 256)) : IsA C (nm E) := h.congr fun i hi => by simp [nmTo, hi]
theorem nmTo_set {C : Array Value} (E : Nat → Nat → Bool) {k : Nat} (h : IsA C (nmTo E k)) : IsA (C.setIfInBounds k (.int .u8 (nm E k : Nat))) (nmTo E (k + 1)) := by
  refine (h.set k (nm E k)).congr fun i hi => ?_
  unfold nmTo
  by_cases e : i = k
  · subst e; simp
  · simp [e]
    by_cases h1 : i < k
    · simp [h1, show i < k + 1 by omega]
    · simp [h1, show ¬ i < k + 1 by omega]
theorem wf_u8 {n : Nat} (h : n < 256) : (Lit.int .u8 (n : Int)).wf = true := by simp [Lit.wf, IntKind.min, IntKind.max, IntKind.signed, IntKind.bits]; omega
theorem wrap_u8 {n : Nat} (h : n < 256) : IntKind.u8.wrap (n : Int) = (n : Int) := by rw [IntKind.wrap_u8]; omega
theorem owns_map_heap {kt : TypeId} {H : Type} {R : Value → Option (DataW H × List MemPlace)} {w w' : World} {b n : Nat} {D : DataW H} (h : w.ownsMap P kt R b n D) (hh : w'.heap[b]? = w.heap[b]?) : w'.ownsMap P kt R b n D := by
  obtain ⟨es, clock, hb, r⟩ := h
  exact ⟨es, clock, by rw [hh]; exact hb, r⟩
theorem owns_map_lt {kt : TypeId} {H : Type} {R : Value → Option (DataW H × List MemPlace)} {w : World} {b n : Nat} {D : DataW H} (h : w.ownsMap P kt R b n D) : b < w.heap.size := by
  obtain ⟨es, clock, hb, r⟩ := h
  exact (Array.getElem?_eq_some_iff.1 hb).1
theorem keys_of {P : Program} {kt : TypeId} {KV : Nat → Value} {E : Nat → Nat → Bool} (law : Keyed P kt) (hk : ∀ b, b < 256 → ∃ l, keyOf P kt (KV b) = some l) (hE : ∀ a b, KV a = KV b ↔ E a b = true) :
    Keys P kt KV (fun b => (keyOf P kt (KV b)).getD (.bool false)) E := by
  refine ⟨law, fun b hb => ?_, fun a b ha hb => ?_⟩
  · obtain ⟨l, hl⟩ := hk b hb
    simp [hl]
  · obtain ⟨l, hl⟩ := hk a ha
    obtain ⟨m, hm⟩ := hk b hb
    simp only [hl, hm, Option.getD_some]
    constructor
    · rintro rfl
      exact (hE a b).1 (law.inj hl hm)
    · intro h
      have := (hE a b).2 h
      rw [this, hm] at hl
      injection hl with hl
      exact hl.symm
end Go.Proofs.Ytfhddbjojpmbcaa.PartW
namespace Go.Proofs.Ytfhddbjojpmbcaa.PartW
set_option linter.unusedVariables false
open Go.RowKit Go.Maps Go.Proofs.Ytfhddbjojpmbcaa.PartM

theorem Norm1 {w : World} {B : Nat} {C : Array Value} {f : Nat → Nat} (h : Ar w B C 22) (hC : IsA C f) {b : Nat} (hb : b < 256) :
    Calls Try.prog 49 #[.int .u8 b, .pointer (some ⟨B, 0, none⟩)] w fun e w' => e = .returned (.int .u8 (f b)) ∧ w' = w := by
  have hc := h.cell hC hb
  clear h
  go_enter Try.func49, Try.ntmps49
  go_wp2_with fail
  go_ret
  exact ⟨rfl, rfl⟩
theorem lawB : Keyed Try.prog 5 := int_keyed Try.underlying5
theorem zeroB (w : World) : (zeroValue 5).run Try.prog w = .ok (.int .u8 0) w := Try.zeroValue5 w
theorem keysB {f : Nat → Nat} (hf : ∀ b, b < 256 → f b < 256) : Keys Try.prog 5 (fun b => .int .u8 (f b : Int)) (fun b => .int .u8 (f b : Int)) (byKey f) :=
  ⟨lawB, fun b hb => keyOf_int_mk Try.underlying5 (wf_u8 (hf b hb)), fun a b ha hb => by simp [byKey]; omega⟩
set_option maxRecDepth 100000 in
set_option maxHeartbeats 1000000 in
theorem numberedB {w : World} {B : Nat} {C : Array Value} {f : Nat → Nat} (h : Ar w B C 22) (hC : IsA C f) (hf : ∀ b, b < 256 → f b < 256) :
    Calls Try.prog 48 #[.func (.func 49) #[] #[.pointer (some ⟨B, 0, none⟩)]] w fun e w' =>
      ∃ D, e = .returned (.tuple #[.agg D, .int .i64 (rk (byKey f) 256 : Nat)]) ∧ IsA D (nm (byKey f)) ∧ Below w.heap.size w w' := by
  obtain ⟨Z, hZ, hz⟩ := zeroA
  have HZ := Lib.hid hZ
  have HC := Lib.hid hC
  have HK := Lib.hid (keysB hf)
  have HE := Lib.hid (byKey_eqv f)
  have HF := Lib.hid hf
  have hmm := @run_makeMap Try.prog
  clear hZ hC hf
  go_enter Try.func48, Try.ntmps48
  go_wp2_with fail
  obtain ⟨R, hR⟩ : ∃ R, R = w.heap.size := ⟨_, rfl⟩
  obtain ⟨A, hA⟩ : ∃ A, A = w.heap.size + 1 := ⟨_, rfl⟩
  obtain ⟨M, hM⟩ : ∃ M, M = w.heap.size + 1 + 1 := ⟨_, rfl⟩
  have HR := Lib.hid hR; have HA := Lib.hid hA; have HM := Lib.hid hM
  have hlt := h.lt
  have hb0 : Below w.heap.size w (((w.alloc (.cells Z 22)).alloc (.cells Z 22)).alloc (.map #[] 0)) := (((Below.refl _ w).alloc (Nat.le_refl _) _).alloc (by simp) _).alloc (by simp; omega) _
  have hr0 : Ar (((w.alloc (.cells Z 22)).alloc (.cells Z 22)).alloc (.map #[] 0)) R Z 22 := by rw [hR]; exact ((Ar.new w Z _).alloc _).alloc _
  have ha0 : Ar (((w.alloc (.cells Z 22)).alloc (.cells Z 22)).alloc (.map #[] 0)) A Z 22 := by rw [hA, ← World.size_alloc w (.cells Z 22)]; exact (Ar.new (w.alloc (.cells Z 22)) Z _).alloc _
  have hm0 : (((w.alloc (.cells Z 22)).alloc (.cells Z 22)).alloc (.map #[] 0)).ownsMap Try.prog 5 (plainElem Try.prog 5) M 0 (.map [] : DataW Unit) := by
    have := World.ownsMap_made (H := Unit) ((w.alloc (.cells Z 22)).alloc (.cells Z 22)) Try.prog 5 (plainElem Try.prog 5)
    simp only [World.size_alloc] at this
    rw [hM]; exact this
  have hB0 := h.below hb0
  rw [← hM, ← hA, ← hR]
  have HAR := Lib.hid (show A ≠ R ∧ M ≠ R ∧ M ≠ A ∧ B ≠ R ∧ B ≠ A ∧ B ≠ M ∧ w.heap.size ≤ R ∧ w.heap.size ≤ A ∧ w.heap.size ≤ M by omega)
  generalize (((w.alloc (.cells Z 22)).alloc (.cells Z 22)).alloc (.map #[] 0)) = w0 at *
  clear hR hA hM hlt h hz hmm
  go_loopw [11] (fun i wr => ∃ k : Nat, k ≤ 256 ∧ i = .int .i64 k ∧ ∃ Y D, Ar wr B C 22 ∧ Ar wr R Z 22 ∧ Ar wr A Y 22 ∧ Hid (IsA Y (nmTo (byKey f) k)) ∧ wr.ownsMap Try.prog 5 (plainElem Try.prog 5) M k (D : DataW Unit) ∧ Hid (Seen D (fun b => .int .u8 (f b : Int)) (byKey f) k) ∧ Below w.heap.size w wr) (fun i _ => 256 - (intOf i).toNat)
  case atStart =>
    exact ⟨0, by omega, rfl, Z, .map [], hB0, hr0, ha0, Lib.hid (by rw [nmTo_zero]; exact HZ.out), hm0, Lib.hid (Seen.none _ _), hb0⟩
  case round =>
    obtain ⟨k, hk, rfl, Y, D, hB, hR, hA, HY, hM, HS, hb⟩ := hrel
    by_cases hlt : k < 256
    · have hkey := HK.out.key k hlt
      have hwr : IntKind.u8.wrap (k : Int) = (k : Int) := wrap_u8 hlt
      have hfk := HF.out k hlt
      have hfz := hA.frozen k
      obtain ⟨u, hck⟩ : ∃ u, wr.cell? ⟨A, k, none⟩ = some u := ⟨_, hA.cell HY.out hlt⟩
      have hsz := HS.out.size
      have hrk := rk_le (E := byKey f) k
      by_cases hn : fst (byKey f) k = k
      · obtain ⟨h1, h2⟩ := HS.out.new HK.out HE.out (hM.tidy lawB) hlt hn
        have HN := Lib.hid (nmTo_set (byKey f) HY.out)
        have HQ := Lib.hid (nm_first hn)
        have HS2 := Lib.hid h2
        clear h2 hn
        generalize rk (byKey f) k = n at *
        have hwn : IntKind.u8.wrap (n : Int) = (n : Int) := wrap_u8 (by omega)
        have hwf := wf_u8 (show n < 256 by omega)
        have t0 : decide ((k : Int) < 256) = true := by simp; omega
        have t1 : ¬ (256 : Int) ≤ (k : Int) := by omega
        have HLT := Lib.hid hlt; have HRK := Lib.hid hrk; have HK2 := Lib.hid hk; have HFK := Lib.hid hfk
        have HWF := Lib.hid hwf
        clear hwf hlt hrk hk hfk hb0 hr0 ha0 hm0 hB0
        go_wp2_with (first | (go_at_call 49; refine (Norm1 hB HC.out HLT.out).mono ?_; rintro e w1 ⟨rfl, rfl⟩) | (at_lookup; refine wpList_lookup_own_ok_int _ rfl _ _ 79 rfl 5 5 .u8 lawB Try.underlying79 Try.underlying5 (zeroB _) M k D rfl hM _ _ rfl hkey ?_; intro c hat hwc; clear hat hwc; rw [h1]) | (at_len; refine wpList_len_own _ rfl _ 79 rfl 5 5 Try.underlying79 _ M k D rfl hM ?_; rw [hsz]) | (at_mapUpdate; refine wpList_mapUpdate_own _ rfl _ _ _ 79 rfl 5 5 lawB Try.underlying79 _ M k D rfl hM (by have := HLT.out; unfold maxLen; omega) _ _ _ rfl rfl hkey _ [] (plainElem_int Try.underlying5 HWF.out) ?_; intro w4 hD4 hg4; have hA4 : Ar w4 A Y 22 := (hg4.block A hA.lt (by intro e; cases e; exact HAR.out.2.2.1 rfl)).trans hA; have hfz4 := hA4.frozen k; obtain ⟨u4, hck4⟩ : ∃ u, w4.cell? ⟨A, k, none⟩ = some u := ⟨_, hA4.cell HY.out HLT.out⟩; have HB4 := Lib.hid hD4; have HG4 := Lib.hid hg4; clear hD4 hg4 hck hfz))
        have hg4 := HG4.out
        refine ⟨⟨k + 1, by have := HLT.out; omega, by simp, _, _, ?_, ?_, hA4.set k _, Lib.hid (by rw [← HQ.out]; exact HN.out), HB4.out.setCell (by exact HAR.out.2.2.1) _, HS2, ?_⟩, by have := HLT.out; simp [intOf]; omega⟩
        · exact Ar.other (show Ar w4 B C 22 from (hg4.block B hB.lt (by intro e; cases e; exact HAR.out.2.2.2.2.2.1 rfl)).trans hB) (fun e => HAR.out.2.2.2.2.1 e.symm) _
        · exact Ar.other (show Ar w4 R Z 22 from (hg4.block R hR.lt (by intro e; cases e; exact HAR.out.2.1 rfl)).trans hR) (fun e => HAR.out.1 e) _
        · exact (hb.trans ⟨hg4.os, hg4.tape, hg4.output, hg4.size, fun i hi => hg4.block i (Nat.lt_of_lt_of_le hi hb.size) (by intro e; cases e; have := HAR.out.2.2.2.2.2.2.2.2; omega)⟩).setCell (p := ⟨A, k, none⟩) HAR.out.2.2.2.2.2.2.2.1 _
      · obtain ⟨h1, h3, h2⟩ := HS.out.old HK.out HE.out hlt hn
        have HN := Lib.hid (nmTo_set (byKey f) HY.out)
        have HS2 := Lib.hid h2
        have HAT := Lib.hid (h3 (.lit (.int .u8 0)))
        clear h2 h3 hn
        have t0 : decide ((k : Int) < 256) = true := by simp; omega
        have t1 : ¬ (256 : Int) ≤ (k : Int) := by omega
        have HLT := Lib.hid hlt; have HRK := Lib.hid hrk; have HK2 := Lib.hid hk; have HFK := Lib.hid hfk
        clear hlt hrk hk hfk hb0 hr0 ha0 hm0 hB0
        go_wp2_with (first | (go_at_call 49; refine (Norm1 hB HC.out HLT.out).mono ?_; rintro e w1 ⟨rfl, rfl⟩) | (at_lookup; refine wpList_lookup_own_ok_int _ rfl _ _ 79 rfl 5 5 .u8 lawB Try.underlying79 Try.underlying5 (zeroB _) M k D rfl hM _ _ rfl hkey ?_; intro c hat hwc; have HC2 := Lib.hid (hat.symm.trans HAT.out); clear hat hwc; rw [h1]))
        have hc := HC2.out
        simp only [DataW.lit.injEq, Lit.int.injEq, true_and] at hc
        refine ⟨⟨k + 1, by have := HLT.out; omega, by simp, _, _, ?_, ?_, hA.set k _, Lib.hid (by rw [hc]; exact HN.out), (hM.mono (Nat.le_succ k)).setCell (by exact HAR.out.2.2.1) _, HS2, ?_⟩, by have := HLT.out; simp [intOf]; omega⟩
        · exact hB.other (fun e => HAR.out.2.2.2.2.1 e.symm) _
        · exact hR.other (fun e => HAR.out.1 e) _
        · exact hb.setCell (p := ⟨A, k, none⟩) HAR.out.2.2.2.2.2.2.2.1 _
    · obtain rfl : k = 256 := by omega
      have hsz := HS.out.size
      have HKK := Lib.hid hk; clear hk hlt
      obtain ⟨n, hn⟩ : ∃ n, n = rk (byKey f) 256 := ⟨_, rfl⟩
      rw [← hn] at hsz
      have HNN := Lib.hid hn; clear hn
      have HN := Lib.hid (nmTo_all _ HY.out)
      go_wp2_with (first | (at_len; refine wpList_len_own _ rfl _ 79 rfl 5 5 Try.underlying79 _ M 256 D rfl hM ?_; rw [hsz]) | (refine wpList_load_arr rfl 22 (.tmp 4) rfl rfl hA HY.out.size Try.underlying22 infoA ?_) | (refine wpList_store_arr rfl 22 (.tmp 2) (.tmp 36) rfl rfl rfl hR HZ.out.size HN.out infoA ?_))
      have hld := (hR.row Y).loadVar (P := Try.prog) HY.out.size Try.underlying22 infoA
      refine bodyPost_ret (v := .tuple #[.agg Y, .int .i64 n]) ?_ rfl ⟨Y, by rw [HNN.out], HN.out, below_row hb HAR.out.2.2.2.2.2.2.1 Y⟩
      rw [results_cell_tmp rfl]
      simp [asAddr, Result.andThen, hld]
theorem Norm_any {C : Array Value} {f : Nat → Nat} (hC : IsA C f) (hf : ∀ b, b < 256 → f b < 256) (w : World) :
    Calls Try.prog 33 #[.agg C] w fun e w' => ∃ D, e = .returned (.tuple #[.agg D, .int .i64 (rk (byKey f) 256 : Nat)]) ∧ IsA D (nm (byKey f)) ∧ Below w.heap.size w w' := by
  obtain ⟨Z, hZ, hz⟩ := zeroA
  have HZ := Lib.hid hZ
  have HC := Lib.hid hC
  have HF := Lib.hid hf
  have hs := hC.size
  have hm := hmf
  clear hZ hC hf
  go_enter Try.func33, Try.ntmps33
  go_wp2_with fail
  refine (numberedB (B := w.heap.size) (C := C) (f := f) ((Ar.new w C _).alloc _) HC.out HF.out).mono ?_
  rintro e w1 ⟨D, rfl, hD, hb⟩
  have hr : Ar w1 (w.heap.size + 1) Z 22 := by
    have := (Ar.new (w.alloc (.cells C 22)) Z 22).below hb
    rw [World.size_alloc] at this; exact this
  have hb1 : Below w.heap.size w w1 := (((Below.refl _ w).alloc (Nat.le_refl _) _).alloc (by simp) _).trans (hb.mono (by simp; omega))
  have HD := Lib.hid hD; have HB := Lib.hid hb1
  clear hD hb hb1
  go_wp2_with (refine wpList_store_arr rfl 22 (.tmp 2) (.tmp 6) rfl rfl rfl hr HZ.out.size HD.out infoA ?_)
  have hld := (hr.row D).loadVar (P := Try.prog) HD.out.size Try.underlying22 infoA
  refine bodyPost_ret (v := .tuple #[.agg D, .int .i64 (rk (byKey f) 256 : Nat)]) ?_ rfl ⟨D, rfl, HD.out, below_row HB.out (by omega) D⟩
  rw [results_cell_tmp rfl]
  simp [asAddr, Result.andThen, hld]
end Go.Proofs.Ytfhddbjojpmbcaa.PartW
namespace Go.Proofs.Ytfhddbjojpmbcaa.PartW
set_option linter.unusedVariables false
open Go.RowKit Go.Maps Go.Proofs.Ytfhddbjojpmbcaa.PartM
theorem part_at {C : Array Value} {f : Nat → Nat} (h : IsA C f) {i : Nat} (hi : i < 256) (w : World) : (part 5 C i).run Try.prog w = .ok (.int .u8 (f i : Int)) w := by
  have := h.at' i hi
  unfold part
  have u3 := Try.underlying5
  have a3 := Try.isAgg5
  have z3 := Try.sizeOf5
  simp [a3, z3, this]
theorem eqByte (d : Nat) (x y : Int) (w : World) : (Op.equalIn (d + 1) 5 (.int .u8 x) (.int .u8 y)).run Try.prog w = .ok (x == y) w := by
  rw [Op.equalIn]
  simp only [Sem.run_bind, run_underlying Try.underlying5, Result.andThen_ok]
  simp
/-- Are two arrays of numbers the same? -/
def sameA (f g : Nat → Nat) : Bool := (List.range 256).all fun i => f i == g i
theorem sameA_iff (f g : Nat → Nat) : sameA f g = true ↔ ∀ i, i < 256 → f i = g i := by
  unfold sameA
  rw [List.all_eq_true]
  exact ⟨fun h i hi => by simpa using h i (List.mem_range.2 hi), fun h i hi => by simpa using h i (List.mem_range.1 hi)⟩
theorem eqLoop {C D : Array Value} {f g : Nat → Nat} (h : IsA C f) (k : IsA D g) (w : World) : ∀ n j, j + n ≤ 256 →
    (forIn (m := Sem) (List.range' j n) ((none : Option Bool), ()) fun i __s => do
            let __do_lift ← part 5 C i
            let __do_lift_1 ← part 5 D i
            let __do_lift ← Op.equalIn (9998 + 1) 5 __do_lift __do_lift_1
            if (!__do_lift) = true then pure (ForInStep.done (some false, ())) else pure (ForInStep.yield (none, ()))).run Try.prog w
      = .ok (if (List.range' j n).all (fun i => f i == g i) then (none, ()) else (some false, ())) w
  | 0, j, _ => by simp
  | n + 1, j, hj => by
    have ih := eqLoop h k w n (j + 1) (by omega)
    rw [List.range'_succ, List.forIn_cons]
    simp only [Sem.run_bind, part_at h (show j < 256 by omega), part_at k (show j < 256 by omega), Result.andThen_ok, eqByte]
    by_cases e : f j = g j
    · have e1 : ((f j : Int) == (g j : Int)) = true := by rw [e]; simp
      have e2 : (f j == g j) = true := by rw [e]; simp
      simp only [e1, Bool.not_true, Bool.false_eq_true, if_false, Sem.run_pure, Result.andThen_ok, List.all_cons, e2, Bool.true_and]
      exact ih
    · have e1 : ((f j : Int) == (g j : Int)) = false := by simp; omega
      have e2 : (f j == g j) = false := by simpa using e
      simp [e1, e2]
theorem eqArr {C D : Array Value} {f g : Nat → Nat} (h : IsA C f) (k : IsA D g) (w : World) : (Op.equalIn 10000 22 (.agg C) (.agg D)).run Try.prog w = .ok (sameA f g) w := by
  have z3 := Try.sizeOf5
  rw [show (10000 : Nat) = 9998 + 1 + 1 from rfl, Op.equalIn]
  simp only [Sem.run_bind, run_underlying Try.underlying22, Result.andThen_ok]
  simp only [Std.Legacy.Range.forIn_eq_forIn_range', Std.Legacy.Range.size, Nat.sub_zero, Nat.add_sub_cancel, Nat.div_one, z3, Result.andThen_ok, Nat.mul_one]
  rw [eqLoop h k w 256 0 (by omega)]
  simp only [Result.andThen_ok]
  unfold sameA
  rw [← List.range_eq_range']
  split <;> rename_i hx
  · split at hx
    · cases hx
    · rename_i hy
      injection hx with hx
      subst hx
      simp only [Sem.run_pure]
      rw [Bool.not_eq_true] at hy
      rw [hy]
  · split at hx
    · rename_i hy
      simp only [Sem.run_pure]
      rw [hy]
    · cases hx
end Go.Proofs.Ytfhddbjojpmbcaa.PartW
