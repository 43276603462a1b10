/- Plain mathematics of going through states as they are met. -/
import Derived.Test.YtkghnjgioijgpaaProg
namespace Go.Proofs.Ytkghnjgioijgpaa.DfaM
set_option linter.unusedVariables false

theorem nodup_sub_len : ∀ (l l' : List Nat), l.Nodup → (∀ x ∈ l, x ∈ l') → l.length ≤ l'.length
  | [], l', _, _ => Nat.zero_le _
  | x :: l, l', hn, hs => by
    have hx := hs x (List.mem_cons_self ..)
    rw [List.nodup_cons] at hn
    have := nodup_sub_len l (l'.erase x) hn.2 (fun y hy => by
      have hne : y ≠ x := fun e => hn.1 (by rw [← e]; exact hy)
      exact (List.mem_erase_of_ne hne).2 (hs y (List.mem_cons_of_mem _ hy)))
    rw [List.length_erase_of_mem hx] at this
    have := List.length_pos_of_mem hx
    simp only [List.length_cons]
    omega
theorem nodup_le {l : List Nat} {n : Nat} (h : l.Nodup) (hl : ∀ x ∈ l, x < n) : l.length ≤ n := by
  have := nodup_sub_len l (List.range n) h (fun x hx => List.mem_range.2 (hl x hx))
  simpa using this
/-- How many of the numbers below n are in o. -/
theorem count_in {o : List Nat} {n : Nat} (h : o.Nodup) (hl : ∀ x ∈ o, x < n) (p : Nat → Bool) (hp : ∀ i, i < n → (p i = true ↔ i ∈ o)) : ((List.range n).filter p).length = o.length := by
  apply Nat.le_antisymm
  · refine nodup_sub_len _ _ (List.nodup_range.filter _) fun x hx => ?_
    rw [List.mem_filter, List.mem_range] at hx
    exact (hp x hx.1).1 hx.2
  · refine nodup_sub_len _ _ h fun x hx => ?_
    rw [List.mem_filter, List.mem_range]
    exact ⟨hl x hx, (hp x (hl x hx)).2 hx⟩

/-- One state more, if it is new; some of them. -/
def put (o : List Nat) (t : Nat) : List Nat := if t ∈ o then o else o ++ [t]
def puts (o ts : List Nat) : List Nat := ts.foldl put o
theorem put_old {o : List Nat} {t : Nat} (h : t ∈ o) : put o t = o := if_pos h
theorem put_new {o : List Nat} {t : Nat} (h : t ∉ o) : put o t = o ++ [t] := if_neg h
theorem mem_put {o : List Nat} {t x : Nat} : x ∈ put o t ↔ x ∈ o ∨ x = t := by
  unfold put
  split
  · rename_i h
    exact ⟨.inl, fun h' => h'.elim id (fun e => e ▸ h)⟩
  · simp
theorem mem_puts {ts : List Nat} : ∀ {o : List Nat} {x : Nat}, x ∈ puts o ts ↔ x ∈ o ∨ x ∈ ts := by
  induction ts with
  | nil => intro o x; simp [puts]
  | cons t ts ih =>
    intro o x
    show x ∈ puts (put o t) ts ↔ _
    rw [ih, mem_put, List.mem_cons, or_assoc]
theorem put_nodup {o : List Nat} {t : Nat} (h : o.Nodup) : (put o t).Nodup := by
  unfold put
  split
  · exact h
  · rename_i hn
    rw [List.nodup_append]
    refine ⟨h, by simp, fun a ha b hb => ?_⟩
    rw [List.mem_singleton] at hb
    subst hb
    exact fun e => hn (e ▸ ha)
theorem puts_nodup {ts : List Nat} : ∀ {o : List Nat}, o.Nodup → (puts o ts).Nodup := by
  induction ts with
  | nil => intro o h; exact h
  | cons t ts ih => intro o h; exact ih (put_nodup h)
theorem put_prefix (o : List Nat) (t : Nat) : o <+: put o t := by
  unfold put
  split
  · exact List.prefix_rfl
  · exact List.prefix_append _ _
theorem puts_prefix {ts : List Nat} : ∀ (o : List Nat), o <+: puts o ts := by
  induction ts with
  | nil => intro o; exact List.prefix_rfl
  | cons t ts ih => intro o; exact (put_prefix o t).trans (ih _)
theorem puts_snoc (o ts : List Nat) (t : Nat) : puts o (ts ++ [t]) = put (puts o ts) t := by simp [puts]

/-- The states met when those of l and what k of them lead to have come. -/
def bfs (nb : Nat → List Nat) (l : List Nat) : Nat → List Nat
  | 0 => puts [] l
  | i + 1 => match (bfs nb l i)[i]? with
    | some s => puts (bfs nb l i) (nb s)
    | none => bfs nb l i
variable {nb : Nat → List Nat} {l : List Nat} {n : Nat}
theorem bfs_next {i s : Nat} (h : (bfs nb l i)[i]? = some s) : bfs nb l (i + 1) = puts (bfs nb l i) (nb s) := by
  show (match (bfs nb l i)[i]? with | some s => puts (bfs nb l i) (nb s) | none => bfs nb l i) = _
  rw [h]
theorem bfs_stop {i : Nat} (h : (bfs nb l i).length ≤ i) : bfs nb l (i + 1) = bfs nb l i := by
  show (match (bfs nb l i)[i]? with | some s => puts (bfs nb l i) (nb s) | none => bfs nb l i) = _
  rw [List.getElem?_eq_none h]
theorem bfs_step (i : Nat) : bfs nb l i <+: bfs nb l (i + 1) := by
  cases h : (bfs nb l i)[i]? with
  | some s => rw [bfs_next h]; exact puts_prefix _
  | none => rw [bfs_stop (by rw [List.getElem?_eq_none_iff] at h; exact h)]; exact List.prefix_rfl
theorem bfs_mono {i j : Nat} (h : i ≤ j) : bfs nb l i <+: bfs nb l j := by
  induction j with
  | zero => obtain rfl : i = 0 := by omega
            exact List.prefix_rfl
  | succ j ih =>
    rcases Nat.lt_or_ge j i with h' | h'
    · obtain rfl : i = j + 1 := by omega
      exact List.prefix_rfl
    · exact (ih h').trans (bfs_step j)
theorem bfs_stays {i j : Nat} (h : (bfs nb l i).length ≤ i) (hij : i ≤ j) : bfs nb l j = bfs nb l i := by
  induction j with
  | zero => obtain rfl : i = 0 := by omega
            rfl
  | succ j ih =>
    rcases Nat.lt_or_ge j i with h' | h'
    · obtain rfl : i = j + 1 := by omega
      rfl
    · have e := ih h'
      rw [bfs_stop (by rw [e]; omega), e]
theorem bfs_nodup (i : Nat) : (bfs nb l i).Nodup := by
  induction i with
  | zero => exact puts_nodup List.nodup_nil
  | succ i ih =>
    cases h : (bfs nb l i)[i]? with
    | some s => rw [bfs_next h]; exact puts_nodup ih
    | none => rw [bfs_stop (by rw [List.getElem?_eq_none_iff] at h; exact h)]; exact ih
theorem bfs_all {P : Nat → Prop} (hl : ∀ x ∈ l, P x) (hn : ∀ s, P s → ∀ t ∈ nb s, P t) (i : Nat) : ∀ x ∈ bfs nb l i, P x := by
  induction i with
  | zero =>
    intro x hx
    rcases mem_puts.1 hx with h | h
    · cases h
    · exact hl x h
  | succ i ih =>
    cases h : (bfs nb l i)[i]? with
    | some s =>
      rw [bfs_next h]
      intro x hx
      rcases mem_puts.1 hx with h' | h'
      · exact ih x h'
      · exact hn s (ih s (List.mem_of_getElem? h)) x h'
    | none => rw [bfs_stop (by rw [List.getElem?_eq_none_iff] at h; exact h)]; exact ih
/-- All of it. -/
def fin (nb : Nat → List Nat) (l : List Nat) (n : Nat) : List Nat := bfs nb l n
/-- Into n states nothing leads but of them. -/
structure In (nb : Nat → List Nat) (l : List Nat) (n : Nat) : Prop where
  l : ∀ x ∈ l, x < n
  nb : ∀ s, s < n → ∀ t ∈ nb s, t < n
theorem In.lt (h : In nb l n) (i : Nat) : ∀ x ∈ bfs nb l i, x < n := bfs_all h.l h.nb i
theorem In.len (h : In nb l n) (i : Nat) : (bfs nb l i).length ≤ n := nodup_le (bfs_nodup i) (h.lt i)
theorem fin_of (h : In nb l n) {k : Nat} (hk : k ≤ n) (hs : (bfs nb l k).length ≤ k) : fin nb l n = bfs nb l k := bfs_stays hs hk
theorem fin_closed (h : In nb l n) {s : Nat} (hs : s ∈ fin nb l n) : ∀ t ∈ nb s, t ∈ fin nb l n := by
  obtain ⟨k, hk, e⟩ := List.mem_iff_getElem.1 hs
  have hlen := h.len n
  have hkn : k < n := by unfold fin at hk; omega
  have hk2 : k < (bfs nb l k).length := by
    rcases Nat.lt_or_ge k (bfs nb l k).length with h' | h'
    · exact h'
    · have e2 := bfs_stays h' (Nat.le_of_lt hkn)
      unfold fin at hk
      rw [e2] at hk
      omega
  have e3 : (bfs nb l k)[k]? = some s := by
    obtain ⟨r, hr⟩ := bfs_mono (nb := nb) (l := l) (Nat.le_of_lt hkn)
    have h1 : (fin nb l n)[k]? = some s := by rw [List.getElem?_eq_getElem hk, e]
    unfold fin at h1
    rw [← hr, List.getElem?_append_left hk2] at h1
    exact h1
  intro t ht
  have : t ∈ bfs nb l (k + 1) := by rw [bfs_next e3]; exact mem_puts.2 (.inr ht)
  exact (bfs_mono (show k + 1 ≤ n by omega)).subset this
theorem fin_base (h : In nb l n) : ∀ x ∈ l, x ∈ fin nb l n := fun x hx => (bfs_mono (Nat.zero_le n)).subset (mem_puts.2 (.inr hx))
/-- What can be come to. -/
def Rch (nb : Nat → List Nat) (l : List Nat) (x : Nat) : Prop := ∀ P : Nat → Prop, (∀ y ∈ l, P y) → (∀ s, P s → ∀ t ∈ nb s, P t) → P x
theorem mem_fin (h : In nb l n) {x : Nat} : x ∈ fin nb l n ↔ Rch nb l x :=
  ⟨fun hx P hl hn => bfs_all hl hn n x hx, fun hx => hx (· ∈ fin nb l n) (fin_base h) (fun s hs => fin_closed h hs)⟩
theorem fin_nodup : (fin nb l n).Nodup := bfs_nodup n

/-- Two rising lists of the same numbers are one. -/
theorem rising_eq : ∀ {l l' : List Nat}, l.Pairwise (· < ·) → l'.Pairwise (· < ·) → (∀ x, x ∈ l ↔ x ∈ l') → l = l'
  | [], [], _, _, _ => rfl
  | [], y :: l', _, _, h => by have := (h y).2 (List.mem_cons_self ..); cases this
  | x :: l, [], _, _, h => by have := (h x).1 (List.mem_cons_self ..); cases this
  | x :: l, y :: l', hl, hl', h => by
    rw [List.pairwise_cons] at hl hl'
    have hxy : x = y := by
      rcases List.mem_cons.1 ((h x).1 (List.mem_cons_self ..)) with e | e
      · exact e
      · rcases List.mem_cons.1 ((h y).2 (List.mem_cons_self ..)) with e' | e'
        · exact e'.symm
        · have h1 := hl'.1 x e
          have h2 := hl.1 y e'
          omega
    subst hxy
    congr 1
    refine rising_eq hl.2 hl'.2 fun z => ⟨fun hz => ?_, fun hz => ?_⟩
    · rcases List.mem_cons.1 ((h z).1 (List.mem_cons_of_mem _ hz)) with e | e
      · subst e; have := hl.1 z hz; omega
      · exact e
    · rcases List.mem_cons.1 ((h z).2 (List.mem_cons_of_mem _ hz)) with e | e
      · subst e; have := hl'.1 z hz; omega
      · exact e
end Go.Proofs.Ytkghnjgioijgpaa.DfaM
