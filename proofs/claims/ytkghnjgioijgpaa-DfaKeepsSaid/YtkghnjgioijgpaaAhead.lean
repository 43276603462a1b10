/- Walk of ahead: for each state those from which a row leads to it. -/
import Derived.Test.YtkghnjgioijgpaaReach
namespace Go.Proofs.Ytkghnjgioijgpaa.DfaW
set_option linter.unusedVariables false
open Go.RowKit Go.Maps Go.Proofs.Ytkghnjgioijgpaa.PartM Go.Proofs.Ytkghnjgioijgpaa.PartW Go.Proofs.Ytkghnjgioijgpaa.DfaM

/-- Those of the first f states that lead to t; and so when j entries of f's row have come. -/
def preL (nb : Nat → List Nat) (f t : Nat) : List Nat := (List.range f).filter fun x => decide (t ∈ nb x)
def preJ (nb : Nat → List Nat) (f j t : Nat) : List Nat := preL nb f t ++ (if t ∈ (nb f).take j then [f] else [])
theorem preJ_zero (nb : Nat → List Nat) (f t : Nat) : preJ nb f 0 t = preL nb f t := by simp [preJ]
theorem preL_succ (nb : Nat → List Nat) (f t : Nat) : preL nb (f + 1) t = preJ nb f (nb f).length t := by
  unfold preL preJ preL
  rw [List.range_succ, List.filter_append, List.take_length]
  congr 1
  by_cases h : t ∈ nb f <;> simp [h]
theorem preL_lt {nb : Nat → List Nat} {f t x : Nat} (h : x ∈ preL nb f t) : x < f := by
  unfold preL at h
  rw [List.mem_filter, List.mem_range] at h
  exact h.1
theorem preL_len (nb : Nat → List Nat) (f t : Nat) : (preL nb f t).length ≤ f := by
  have := List.length_filter_le (fun x => decide (t ∈ nb x)) (List.range f)
  simpa [preL] using this
theorem preJ_len (nb : Nat → List Nat) (f j t : Nat) : (preJ nb f j t).length ≤ f + 1 := by
  have := preL_len nb f t
  unfold preJ
  rw [List.length_append]
  split <;> simp <;> omega
theorem preJ_next (nb : Nat → List Nat) {f j : Nat} (hj : j < (nb f).length) (t : Nat) :
    preJ nb f (j + 1) t = if t = (nb f).getD j 0 ∧ t ∉ (nb f).take j then preJ nb f j t ++ [f] else preJ nb f j t := by
  unfold preJ
  have hm : t ∈ (nb f).take (j + 1) ↔ t ∈ (nb f).take j ∨ t = (nb f).getD j 0 := by rw [take_snoc _ hj, List.mem_append, List.mem_singleton]
  by_cases h : t ∈ (nb f).take j
  · rw [if_pos (hm.2 (.inl h)), if_neg (fun x => x.2 h), if_pos h]
  · by_cases h2 : t = (nb f).getD j 0
    · rw [if_pos (hm.2 (.inr h2)), if_pos ⟨h2, h⟩, if_neg h, List.append_nil]
    · rw [if_neg (fun x => (hm.1 x).elim h h2), if_neg (fun x => h2 x.1), if_neg h]

/-- The lists L in memory, each the call's own, no two in one block; their slices lie in block mL. -/
structure Ah (base mL n : Nat) (W : World) (L : Nat → List Nat) : Prop where
  le : base ≤ mL
  ex : ∃ (C : Array Value) (vs : Nat → Value), Ar W mL C 24 ∧ C.size = n ∧ (∀ i, i < n → C[i]? = some (vs i) ∧ OI W base (vs i) (castL (L i))) ∧ ∀ i j, i < n → j < n → i ≠ j → ∀ g, (vs i).ownBlock = some g → (vs j).ownBlock ≠ some g
theorem Ah.below {base mL n : Nat} {W W' : World} {L : Nat → List Nat} (h : Ah base mL n W L) (hb : Below W.heap.size W W') : Ah base mL n W' L := by
  obtain ⟨C, vs, h1, h2, h3, h4⟩ := h.ex
  exact ⟨h.le, C, vs, h1.below hb, h2, fun i hi => ⟨(h3 i hi).1, (h3 i hi).2.below hb⟩, h4⟩
theorem Ah.congr {base mL n : Nat} {W : World} {L L' : Nat → List Nat} (h : Ah base mL n W L) (e : ∀ i, i < n → L i = L' i) : Ah base mL n W L' := by
  obtain ⟨C, vs, h1, h2, h3, h4⟩ := h.ex
  exact ⟨h.le, C, vs, h1, h2, fun i hi => ⟨(h3 i hi).1, by rw [← e i hi]; exact (h3 i hi).2⟩, h4⟩
theorem oi_lt {W : World} {base : Nat} {v : Value} {l : List Int} (h : OI W base v l) {g : Nat} (hg : v.ownBlock = some g) : base ≤ g ∧ g < W.heap.size ∧ ∃ cur, W.heap[g]? = some (.cells cur 3 (0, 0)) := by
  rcases h.2 with ⟨rfl, _⟩ | ⟨g', cap, cur, rfl, h1, h2, _⟩
  · simp [Value.ownBlock] at hg
  · obtain rfl : g' = g := by simpa [Value.ownBlock] using hg
    exact ⟨h1, (Array.getElem?_eq_some_iff.1 h2).1, cur, h2⟩
theorem oi_keep {W W' : World} {base : Nat} {v : Value} {l : List Int} (h : OI W base v l) (hk : ∀ g, v.ownBlock = some g → W'.heap[g]? = W.heap[g]?) : OI W' base v l := by
  obtain ⟨h1, h2⟩ := h
  refine ⟨h1, ?_⟩
  rcases h2 with h2 | ⟨g, cap, cur, rfl, hg, hgh, hr⟩
  · exact .inl h2
  · exact .inr ⟨g, cap, cur, rfl, hg, (hk g rfl).trans hgh, hr⟩
/-- What is stored for one state. -/
theorem Ah.at {base mL n : Nat} {W : World} {L : Nat → List Nat} (h : Ah base mL n W L) {i : Nat} (hi : i < n) : ∃ v, W.cell? ⟨mL, i, none⟩ = some v ∧ W.frozen? ⟨mL, i, none⟩ = false ∧ OI W base v (castL (L i)) := by
  obtain ⟨C, vs, h1, h2, h3, h4⟩ := h.ex
  exact ⟨vs i, (cell_of_row W mL i C _ (0, 0) h1).trans (h3 i hi).1, Ar.frozen h1 i, (h3 i hi).2⟩
/-- One more in one of them. -/
theorem Ah.put {base mL n : Nat} {W W1 W2 : World} {L : Nat → List Nat} (h : Ah base mL n W L) {i : Nat} (hi : i < n) {v v' : Value} (hv : W.cell? ⟨mL, i, none⟩ = some v) (hb : Below W.heap.size W W1) (hbase : base ≤ W.heap.size)
    {l' : List Nat} (ho : OI W2 base v' (castL l')) (hg : W1.grownBy W2 v.ownBlock) (hat : v'.ownBlock = v.ownBlock ∨ v'.ownBlock = some W1.heap.size) :
    Ah base mL n (W2.setCell ⟨mL, i, none⟩ v') (fun x => if x = i then l' else L x) ∧ Below base W (W2.setCell ⟨mL, i, none⟩ v') ∧ W2.cell? ⟨mL, i, none⟩ = some v ∧ W2.frozen? ⟨mL, i, none⟩ = false := by
  obtain ⟨C, vs, h1, h2, h3, h4⟩ := h.ex
  have hvi : v = vs i := by
    have e := (cell_of_row W mL i C _ (0, 0) h1).trans (h3 i hi).1
    rw [hv] at e
    injection e
  subst hvi
  have hml : mL < W.heap.size := h1.lt
  have hne : ∀ j, j < n → ∀ g, (vs j).ownBlock = some g → g ≠ mL := fun j hj g hg' e => by
    obtain ⟨_, _, cur, hc⟩ := oi_lt (h3 j hj).2 hg'
    rw [e, show W.heap[mL]? = _ from h1] at hc
    injection hc with hc
    injection hc with _ hc
    exact absurd hc (by decide)
  have hm2 : W2.heap[mL]? = W.heap[mL]? := (hg.block mL (Nat.lt_of_lt_of_le hml hb.size) (fun e => hne i hi mL e.symm rfl)).trans (hb.block mL hml)
  have hr2 : Ar W2 mL C 24 := hm2.trans h1
  have hk2 : ∀ k, k < W.heap.size → some k ≠ (vs i).ownBlock → W2.heap[k]? = W.heap[k]? := fun k hk hne => (hg.block k (Nat.lt_of_lt_of_le hk hb.size) hne).trans (hb.block k hk)
  have hv'ne : ∀ g, v'.ownBlock = some g → g ≠ mL := fun g hg' => by
    rcases hat with e | e
    · exact hne i hi g (e ▸ hg')
    · rw [e] at hg'; injection hg' with hg'; have := hb.size; omega
  refine ⟨⟨h.le, C.setIfInBounds i v', fun x => if x = i then v' else vs x, hr2.set i v', by simp [h2], fun j hj => ?_, fun j j' hj hj' hjj g hg1 hg2 => ?_⟩, ?_, (cell_of_row W2 mL i C _ (0, 0) hr2).trans (h3 i hi).1, Ar.frozen hr2 i⟩
  · rw [Array.getElem?_setIfInBounds]
    by_cases e : i = j
    · subst e
      dsimp only
      rw [if_pos rfl, if_pos (by omega), if_pos rfl, if_pos rfl]
      exact ⟨rfl, oi_keep ho fun g hg' => Below.heap_setCell _ ⟨mL, i, none⟩ _ g (hv'ne g hg')⟩
    · have e' : ¬ j = i := fun x => e x.symm
      dsimp only
      rw [if_neg e, if_neg e', if_neg e']
      refine ⟨(h3 j hj).1, oi_keep (h3 j hj).2 fun g hg' => (Below.heap_setCell _ ⟨mL, i, none⟩ _ g (hne j hj g hg')).trans (hk2 g (oi_lt (h3 j hj).2 hg').2.1 fun ee => h4 i j hi hj e g ee.symm hg')⟩
  · simp only at hg1 hg2
    by_cases e : j = i
    · subst e
      have e' : ¬ j' = j := fun x => hjj x.symm
      rw [if_pos rfl] at hg1
      rw [if_neg e'] at hg2
      rcases hat with ea | ea
      · rw [ea] at hg1; exact h4 j j' hj hj' hjj g hg1 hg2
      · rw [ea] at hg1; injection hg1 with hg1
        have := (oi_lt (h3 j' hj').2 hg2).2.1
        have := hb.size
        omega
    · rw [if_neg e] at hg1
      by_cases e' : j' = i
      · subst e'
        rw [if_pos rfl] at hg2
        rcases hat with ea | ea
        · rw [ea] at hg2; exact h4 j' j hj' hj (fun x => e x.symm) g hg2 hg1
        · rw [ea] at hg2; injection hg2 with hg2
          have := (oi_lt (h3 j hj).2 hg1).2.1
          have := hb.size
          omega
      · rw [if_neg e'] at hg2
        exact h4 j j' hj hj' hjj g hg1 hg2
  · refine ⟨hg.os.trans hb.os, hg.tape.trans hb.tape, hg.output.trans hb.output, ?_, fun k hk => ?_⟩
    · have := hb.size; have := hg.size; simp [World.setCell]; omega
    · refine (Below.heap_setCell _ ⟨mL, i, none⟩ _ k (fun e => ?_)).trans (hk2 k (by omega) fun e => ?_)
      · have : k = mL := e
        have := h.le
        omega
      · have := (oi_lt (h3 i hi).2 e.symm).1
        omega
/-- Read as rows. -/
theorem Ah.rows {base mL n : Nat} {W : World} {L : Nat → List Nat} (h : Ah base mL n W L) (hn : n ≤ maxLen) : RS W.heap.size W (.slice (some ⟨mL, 0, none⟩) n n) (castLL ((List.range n).map L)) := by
  obtain ⟨C, vs, h1, h2, h3, h4⟩ := h.ex
  refine ⟨(List.range n).map vs, ⟨_, n, by simp, by simp, hn, fun i hi => ⟨mL, 0, rfl, h1.lt, ?_⟩⟩, by simp [castLL], fun i hi => ?_⟩
  · simp only [List.length_map, List.length_range] at hi
    rw [Nat.zero_add, cell_of_row W mL i C _ (0, 0) h1, (h3 i hi).1]
    simp [hi]
  · rw [castLL_len] at hi
    simp only [List.length_map, List.length_range] at hi
    refine ⟨vs i, by simp [hi], ?_⟩
    rw [castLL_at]
    have : ((List.range n).map L).getD i [] = L i := by simp [List.getD, hi]
    rw [this]
    exact (h3 i hi).2.is
end Go.Proofs.Ytkghnjgioijgpaa.DfaW
