/- Bytes as text: the plain mathematics of layer 3. -/
import Derived.Lib.Hide
namespace Go.Proofs.YtmlheppkclppfaaDoor.QuoM

/-- Does a byte stand for itself? -/
def pl (c : UInt8) : Bool := decide (33 ≤ c.toNat) && (decide (c.toNat ≤ 126) && decide (c.toNat ≠ 92))
/-- The digit of sixteen. -/
def hx (n : Nat) : UInt8 := UInt8.ofNat (if n < 10 then 48 + n else 87 + n)
/-- What a digit says. -/
def vl (c : UInt8) : Int := if 48 ≤ c.toNat ∧ c.toNat ≤ 57 then (c.toNat : Int) - 48 else if 97 ≤ c.toNat ∧ c.toNat ≤ 102 then (c.toNat : Int) - 87 else -1
/-- A byte's part of the text. -/
def one (c : UInt8) : List UInt8 := if pl c then [c] else [92, 120, hx (c.toNat / 16), hx (c.toNat % 16)]
/-- The parts, one behind the other. -/
def ones : List UInt8 → List UInt8
  | [] => []
  | c :: l => one c ++ ones l
/-- Bytes as text. -/
def quoteL (l : List UInt8) : List UInt8 := if l = [] then [92, 101] else ones l
/-- The byte that four bytes of text write. -/
def four (x h l : UInt8) : Option UInt8 :=
  if x = 120 ∧ 0 ≤ vl h ∧ 0 ≤ vl l ∧ pl (UInt8.ofNat (16 * vl h + vl l).toNat) = false then some (UInt8.ofNat (16 * vl h + vl l).toNat) else none
/-- The byte at the front of a text, and how much of the text it takes; none: there is no byte's text. -/
def behind (c : UInt8) : List UInt8 → Option (UInt8 × Nat)
  | x :: h :: l :: _ => if c = 92 then (four x h l).map (·, 4) else none
  | _ => none
def front : List UInt8 → Option (UInt8 × Nat)
  | [] => none
  | c :: t => if pl c then some (c, 1) else behind c t
theorem front_pl {c : UInt8} {t : List UInt8} (h : pl c = true) : front (c :: t) = some (c, 1) := by simp [front, h]
theorem front_npl {c : UInt8} {t : List UInt8} (h : pl c = false) : front (c :: t) = behind c t := by simp [front, h]

theorem hx_vl : ∀ n : Fin 16, vl (hx n.val) = n.val := by decide
theorem vl_lt : ∀ c : UInt8, vl c < 16 := fun c => by
  unfold vl; split
  · omega
  · split <;> omega
theorem vl_hx {c : UInt8} (h : 0 ≤ vl c) : hx (vl c).toNat = c := by
  have hc : c.toNat < 256 := c.toNat_lt
  unfold vl at h ⊢
  unfold hx
  apply UInt8.toNat_inj.1
  rw [UInt8.toNat_ofNat']
  split at h
  · rename_i h1
    rw [if_pos h1, if_pos (by omega)]; omega
  · rename_i h1
    rw [if_neg h1]
    split at h
    · rename_i h2
      rw [if_pos h2, if_neg (by omega)]; omega
    · omega
theorem pl_92 : pl 92 = false := by decide
theorem pl_ne92 {c : UInt8} (h : pl c = true) : c ≠ 92 := by
  rintro rfl; simp [pl_92] at h
theorem of_hx (c : UInt8) : UInt8.ofNat (16 * vl (hx (c.toNat / 16)) + vl (hx (c.toNat % 16))).toNat = c := by
  have hc : c.toNat < 256 := c.toNat_lt
  have h1 := hx_vl ⟨c.toNat / 16, by omega⟩
  have h2 := hx_vl ⟨c.toNat % 16, by omega⟩
  simp only at h1 h2
  rw [h1, h2]
  apply UInt8.toNat_inj.1
  rw [UInt8.toNat_ofNat']
  omega
theorem vl_hx_nonneg (c : UInt8) : 0 ≤ vl (hx (c.toNat / 16)) ∧ 0 ≤ vl (hx (c.toNat % 16)) := by
  have hc : c.toNat < 256 := c.toNat_lt
  have h1 := hx_vl ⟨c.toNat / 16, by omega⟩
  have h2 := hx_vl ⟨c.toNat % 16, by omega⟩
  simp only at h1 h2
  omega
theorem four_hx {c : UInt8} (h : pl c = false) : four 120 (hx (c.toNat / 16)) (hx (c.toNat % 16)) = some c := by
  unfold four
  rw [of_hx, if_pos ⟨rfl, (vl_hx_nonneg c).1, (vl_hx_nonneg c).2, h⟩]
theorem four_some {x h l c : UInt8} (e : four x h l = some c) : pl c = false ∧ [92, x, h, l] = one c := by
  unfold four at e
  split at e
  · rename_i hh
    obtain ⟨rfl, h1, h2, h3⟩ := hh
    simp only [Option.some.injEq] at e
    have b1 := vl_lt h; have b2 := vl_lt l
    have hn : c.toNat = (16 * vl h + vl l).toNat := by
      rw [← e, UInt8.toNat_ofNat']; omega
    rw [e] at h3
    refine ⟨h3, ?_⟩
    unfold one
    rw [if_neg (by simp [h3]), hn, show (16 * vl h + vl l).toNat / 16 = (vl h).toNat by omega, show (16 * vl h + vl l).toNat % 16 = (vl l).toNat by omega, vl_hx h1, vl_hx h2]
  · simp at e

/-- What stands at the front is that byte's text. -/
theorem front_some {s : List UInt8} {c : UInt8} {n : Nat} (h : front s = some (c, n)) : s = one c ++ s.drop n ∧ n ≤ s.length ∧ 0 < n ∧ n = (one c).length := by
  cases s with
  | nil => simp [front] at h
  | cons d t =>
    cases hp : pl d
    case true =>
      rw [front_pl hp] at h
      simp only [Option.some.injEq, Prod.mk.injEq] at h
      obtain ⟨rfl, rfl⟩ := h
      simp [one, hp]
    case false =>
      rw [front_npl hp] at h
      unfold behind at h
      split at h
      · rename_i x hh l tt
        split at h
        · rename_i h92
          cases e : four x hh l with
          | none => rw [e] at h; simp at h
          | some c' =>
            rw [e] at h
            simp only [Option.map_some, Option.some.injEq, Prod.mk.injEq] at h
            obtain ⟨rfl, rfl⟩ := h
            subst h92
            obtain ⟨_, e2⟩ := four_some e
            rw [← e2]
            simp
        · simp at h
      · simp at h
/-- A byte's text at the front is found. -/
theorem front_one (c : UInt8) (t : List UInt8) : front (one c ++ t) = some (c, (one c).length) := by
  unfold one
  cases hp : pl c
  · simp [front_npl pl_92, behind, four_hx hp]
  · simp [front_pl hp]
theorem one_pos (c : UInt8) : 0 < (one c).length := by unfold one; split <;> simp
theorem one_le (c : UInt8) : (one c).length ≤ 4 := by unfold one; split <;> simp
theorem ones_append (a b : List UInt8) : ones (a ++ b) = ones a ++ ones b := by
  induction a with
  | nil => rfl
  | cons c a ih => simp [ones, ih, List.append_assoc]
theorem ones_snoc (a : List UInt8) (c : UInt8) : ones (a ++ [c]) = ones a ++ one c := by
  rw [ones_append]; simp [ones]
theorem ones_length_le (a : List UInt8) : (ones a).length ≤ 4 * a.length := by
  induction a with
  | nil => simp [ones]
  | cons c a ih => have := one_le c; simp only [ones, List.length_append, List.length_cons]; omega
theorem ones_length_ge (a : List UInt8) : a.length ≤ (ones a).length := by
  induction a with
  | nil => simp [ones]
  | cons c a ih => have := one_pos c; simp only [ones, List.length_append, List.length_cons]; omega
theorem ones_nil_iff {a : List UInt8} : ones a = [] ↔ a = [] := by
  constructor
  · intro h
    have := ones_length_ge a
    rw [h] at this
    exact List.length_eq_zero_iff.1 (by simpa using this)
  · rintro rfl; rfl
/-- What is read is read in one way alone. -/
theorem ones_front_none {b : List UInt8} (h : front (ones b) = none) : b = [] := by
  cases b with
  | nil => rfl
  | cons c b => rw [ones, front_one] at h; simp at h
theorem ones_inj_split {b p : List UInt8} {r : List UInt8} (h : ones b = ones p ++ r) : ∃ q, b = p ++ q ∧ ones q = r := by
  induction p generalizing b with
  | nil => exact ⟨b, rfl, h⟩
  | cons c p ih =>
    cases b with
    | nil =>
      exfalso
      have h0 := congrArg List.length h
      have := one_pos c
      simp only [ones, List.length_append, List.length_nil] at h0
      omega
    | cons d b =>
      have h1 : front (ones (d :: b)) = some (d, (one d).length) := by rw [ones, front_one]
      have h2 : front (ones (c :: p) ++ r) = some (c, (one c).length) := by rw [ones, List.append_assoc, front_one]
      rw [h, h2] at h1
      simp only [Option.some.injEq, Prod.mk.injEq] at h1
      obtain ⟨rfl, _⟩ := h1
      simp only [ones, List.append_assoc] at h
      obtain ⟨q, rfl, hq⟩ := ih (List.append_cancel_left h)
      exact ⟨q, rfl, hq⟩
theorem ones_inj {a b : List UInt8} (h : ones a = ones b) : a = b := by
  obtain ⟨q, rfl, hq⟩ := ones_inj_split (b := a) (p := b) (r := []) (by simpa using h)
  rw [ones_nil_iff.1 hq]; simp
theorem front_e : front [92, 101] = none := by decide
theorem ones_ne_e (b : List UInt8) : ones b ≠ [92, 101] := by
  intro h
  have h1 : b = [] := ones_front_none (by rw [h]; exact front_e)
  rw [h1] at h; exact absurd h (by simp [ones])
theorem quoteL_inj {a b : List UInt8} (h : quoteL a = quoteL b) : a = b := by
  unfold quoteL at h
  split at h
  · rename_i ha
    split at h
    · rename_i hb; rw [ha, hb]
    · exact absurd h.symm (ones_ne_e b)
  · split at h
    · exact absurd h (ones_ne_e a)
    · exact ones_inj h
theorem quoteL_ne_nil (b : List UInt8) : quoteL b ≠ [] := by
  unfold quoteL; split
  · simp
  · rename_i h; exact fun h2 => h (ones_nil_iff.1 h2)

/-- Is a text the one of some bytes, and of which? -/
def Reads (s : List UInt8) (o : Option (List UInt8)) : Prop := match o with
  | some b => quoteL b = s
  | none => ∀ b, quoteL b ≠ s
theorem reads_one {s : List UInt8} {o p : Option (List UInt8)} (h : Reads s o) (h2 : Reads s p) : o = p := by
  cases o with
  | none => cases p with
    | none => rfl
    | some b => exact absurd h2 (h b)
  | some a => cases p with
    | none => exact absurd h (h2 a)
    | some b => rw [quoteL_inj (h.trans h2.symm)]
/-- A text of which something is left that is no byte's text is the text of none. -/
theorem reads_stuck {s r : List UInt8} {p : List UInt8} (he : s ≠ [92, 101]) (h : s = ones p ++ r) (hr : r ≠ []) (hf : front r = none) : Reads s none := by
  intro b hb
  unfold quoteL at hb
  split at hb
  · exact he hb.symm
  · rw [h] at hb
    obtain ⟨q, rfl, hq⟩ := ones_inj_split hb
    rw [← hq] at hf hr
    rw [ones_front_none hf] at hr
    exact hr rfl
theorem reads_empty : Reads [] none := fun b hb => quoteL_ne_nil b hb
theorem reads_e : Reads [92, 101] (some []) := rfl
theorem reads_all {s p : List UInt8} (h : s = ones p) (hp : p ≠ []) : Reads s (some p) := by
  show quoteL p = s
  rw [quoteL, if_neg hp, h]

/-! ### The document's way: read first, then hold the text against what was read -/
/-- One step of reading without a look at whether it is right. -/
def lstep : List UInt8 → Option (UInt8 × Nat)
  | [] => none
  | c :: t => match t with
    | x :: h :: l :: _ => if c = 92 ∧ x = 120 ∧ 0 ≤ vl h ∧ 0 ≤ vl l then some (UInt8.ofNat (16 * vl h + vl l).toNat, 4) else some (c, 1)
    | _ => some (c, 1)
theorem lstep_one (c : UInt8) (t : List UInt8) : lstep (one c ++ t) = some (c, (one c).length) := by
  unfold one
  cases hp : pl c
  · simp [lstep, of_hx, vl_hx_nonneg c]
  · have := pl_ne92 hp
    simp only [if_true, List.cons_append, List.nil_append, List.length_cons, List.length_nil]
    unfold lstep
    split
    · rename_i heq; simp at heq
    · rename_i d t' heq
      simp only [List.cons.injEq] at heq
      obtain ⟨rfl, rfl⟩ := heq
      split
      · rw [if_neg (by rintro ⟨h, _⟩; exact this h)]
      · rfl
end Go.Proofs.YtmlheppkclppfaaDoor.QuoM
