/- Plain mathematics: a set's pieces, as the document tells them, and as they come byte by byte. -/
import Derived.Test.YtgmoaglanjfdmaaDoorListMath
namespace Go.Proofs.YtgmoaglanjfdmaaDoor.SetM

def isLo (f : Nat → Bool) (k : Nat) : Bool := f k && (k == 0 || !f (k - 1))
def isHi (f : Nat → Bool) (k : Nat) : Bool := f k && (k == 255 || !f (k + 1))
/-- Where the piece began that was begun last, ahead of k. -/
def loF (f : Nat → Bool) : Nat → Nat
  | 0 => 0
  | k + 1 => if isLo f k then k else loF f k
/-- The pieces that have ended ahead of k. -/
def spF (f : Nat → Bool) : Nat → List (Nat × Nat)
  | 0 => []
  | k + 1 => if isHi f k then spF f k ++ [(loF f (k + 1), k)] else spF f k
theorem loF_le (f : Nat → Bool) : ∀ k, loF f k ≤ k
  | 0 => Nat.le_refl _
  | k + 1 => by
    unfold loF; split
    · omega
    · have := loF_le f k; omega
theorem loF_lt (f : Nat → Bool) (k : Nat) : loF f (k + 1) ≤ k := by
  unfold loF; split
  · omega
  · exact loF_le f k
theorem loF_yes {f : Nat → Bool} {k : Nat} (h : isLo f k = true) : loF f (k + 1) = k := if_pos h
theorem loF_no {f : Nat → Bool} {k : Nat} (h : isLo f k = false) : loF f (k + 1) = loF f k := if_neg (by simp [h])
theorem spF_yes {f : Nat → Bool} {k : Nat} (h : isHi f k = true) : spF f (k + 1) = spF f k ++ [(loF f (k + 1), k)] := if_pos h
theorem spF_no {f : Nat → Bool} {k : Nat} (h : isHi f k = false) : spF f (k + 1) = spF f k := if_neg (by simp [h])
theorem spF_length (f : Nat → Bool) : ∀ k, (spF f k).length ≤ k
  | 0 => Nat.le_refl _
  | k + 1 => by
    have := spF_length f k
    unfold spF; split
    · rw [List.length_append]; simp; omega
    · omega
theorem spF_mem {f : Nat → Bool} : ∀ {k : Nat} {p : Nat × Nat}, p ∈ spF f k → p.2 < k ∧ f p.2 = true ∧ p.1 ≤ p.2
  | 0, p, h => by cases h
  | k + 1, p, h => by
    unfold spF at h
    split at h
    · rename_i hh
      rcases List.mem_append.1 h with h | h
      · have := spF_mem h; exact ⟨by omega, this.2⟩
      · rw [List.mem_singleton] at h
        subst h
        unfold isHi at hh
        simp only [Bool.and_eq_true] at hh
        exact ⟨by simp, hh.1, loF_lt f k⟩
    · have := spF_mem h; exact ⟨by omega, this.2⟩

/-- One byte more to pieces, as they come. -/
def stepSp (l : List (Nat × Nat)) (b : Nat) : List (Nat × Nat) :=
  match l.getLast? with
  | some p => if p.2 = (b + 255) % 256 then l.dropLast ++ [(p.1, b)] else l ++ [(b, b)]
  | none => [(b, b)]
def foldSp (bs : List Nat) : List (Nat × Nat) := bs.foldl stepSp []
theorem foldSp_snoc (bs : List Nat) (b : Nat) : foldSp (bs ++ [b]) = stepSp (foldSp bs) b := by
  unfold foldSp; rw [List.foldl_append]; rfl
theorem stepSp_nil (b : Nat) : stepSp [] b = [(b, b)] := rfl
theorem stepSp_more (l : List (Nat × Nat)) (p : Nat × Nat) (b : Nat) (h : p.2 = (b + 255) % 256) : stepSp (l ++ [p]) b = l ++ [(p.1, b)] := by
  unfold stepSp; rw [List.getLast?_append]; simp [h]
theorem stepSp_new (l : List (Nat × Nat)) (p : Nat × Nat) (b : Nat) (h : p.2 ≠ (b + 255) % 256) : stepSp (l ++ [p]) b = l ++ [p] ++ [(b, b)] := by
  unfold stepSp; rw [List.getLast?_append]; simp [h]
theorem stepSp_length (l : List (Nat × Nat)) (b : Nat) : (stepSp l b).length ≤ l.length + 1 := by
  rcases List.eq_nil_or_concat l with rfl | ⟨l', p, rfl⟩
  · rw [stepSp_nil]; simp
  · rw [List.concat_eq_append]
    by_cases h : p.2 = (b + 255) % 256
    · rw [stepSp_more _ _ _ h]; simp
    · rw [stepSp_new _ _ _ h]; simp
theorem foldSp_length (bs : List Nat) : (foldSp bs).length ≤ bs.length := by
  suffices h : ∀ (bs : List Nat) (l : List (Nat × Nat)), (bs.foldl stepSp l).length ≤ l.length + bs.length by
    have := h bs []; simpa [foldSp] using this
  intro bs
  induction bs with
  | nil => intro l; simp
  | cons b bs ih => intro l; have h1 := ih (stepSp l b); have h2 := stepSp_length l b; simp only [List.foldl_cons, List.length_cons]; omega
/-- The two ways agree. -/
theorem fold_sp (f : Nat → Bool) : ∀ k, k ≤ 256 → foldSp (upTo f k) = if k ≠ 0 ∧ f (k - 1) = true then spF f (k - 1) ++ [(loF f k, k - 1)] else spF f k
  | 0, _ => by simp [upTo_zero, foldSp, spF]
  | k + 1, hk => by
    have ih := fold_sp f k (by omega)
    by_cases hf : f k = true
    · rw [if_pos ⟨by omega, by simpa using hf⟩, upTo_yes hf, foldSp_snoc, ih]
      simp only [Nat.add_sub_cancel]
      by_cases hp : k ≠ 0 ∧ f (k - 1) = true
      · rw [if_pos hp, stepSp_more _ _ _ (by show k - 1 = (k + 255) % 256; omega)]
        obtain ⟨m, rfl⟩ : ∃ m, k = m + 1 := ⟨k - 1, by omega⟩
        simp only [Nat.add_sub_cancel] at hp ⊢
        have h1 : isLo f (m + 1) = false := by simp [isLo, hf, hp.2]
        have h2 : isHi f m = false := by simp [isHi, hf, hp.2]; omega
        rw [loF_no h1, spF_no h2]
      · rw [if_neg hp]
        have h1 : isLo f k = true := by
          unfold isLo
          by_cases h0 : k = 0
          · rw [h0] at hf; simp [hf, h0]
          · have : f (k - 1) = false := by
              cases h3 : f (k - 1)
              · rfl
              · exact absurd ⟨h0, h3⟩ hp
            simp [hf, this]
        rw [loF_yes h1]
        rcases List.eq_nil_or_concat (spF f k) with h2 | ⟨l, p, h2⟩
        · rw [h2]; rfl
        · rw [List.concat_eq_append] at h2
          rw [h2]
          apply stepSp_new
          have h3 := spF_mem (f := f) (k := k) (p := p) (by rw [h2]; simp)
          intro h4
          by_cases h0 : k = 0
          · omega
          · have h5 : p.2 = k - 1 := by omega
            rw [h5] at h3
            exact hp ⟨h0, h3.2.1⟩
    · have hf' : f k = false := by simpa using hf
      rw [if_neg (by simp [hf']), upTo_no hf', ih]
      have h0 : isHi f k = false := by simp [isHi, hf']
      rw [spF_no h0]
      by_cases hp : k ≠ 0 ∧ f (k - 1) = true
      · rw [if_pos hp]
        obtain ⟨m, rfl⟩ : ∃ m, k = m + 1 := ⟨k - 1, by omega⟩
        simp only [Nat.add_sub_cancel] at hp ⊢
        have h2 : isHi f m = true := by simp [isHi, hf', hp.2]
        rw [spF_yes h2]
      · rw [if_neg hp]
theorem fold_spans (f : Nat → Bool) : foldSp (elems f) = spF f 256 := by
  have h := fold_sp f 256 (Nat.le_refl _)
  show foldSp (upTo f 256) = _
  rw [h]
  by_cases hp : (256 : Nat) ≠ 0 ∧ f (256 - 1) = true
  · rw [if_pos hp]
    have h2 : isHi f 255 = true := by have := hp.2; simp at this; simp [isHi, this]
    rw [show (256 : Nat) = 255 + 1 from rfl, spF_yes h2]
  · rw [if_neg hp]

/-- Who is in one of the pieces. -/
def coverF (l : List (Nat × Nat)) : Nat → Bool := fun i => l.any fun p => spanF p.1 (p.2 + 1) i
theorem coverF_snoc (l : List (Nat × Nat)) (p : Nat × Nat) : coverF (l ++ [p]) = unionF (coverF l) (spanF p.1 (p.2 + 1)) := by
  funext i; unfold coverF unionF; rw [List.any_append]; simp
theorem cover_step (l : List (Nat × Nat)) (b : Nat) (hb : b < 256) (h : ∀ p ∈ l, p.1 ≤ p.2 ∧ p.2 < b) : coverF (stepSp l b) = withF (coverF l) b := by
  funext i
  unfold withF
  rcases List.eq_nil_or_concat l with rfl | ⟨l', p, rfl⟩
  · rw [stepSp_nil]; unfold coverF spanF; rw [Bool.eq_iff_iff]; simp; omega
  · rw [List.concat_eq_append] at h ⊢
    obtain ⟨h1, h2⟩ := h p (by simp)
    by_cases hm : p.2 = (b + 255) % 256
    · have hb1 : b = p.2 + 1 := by omega
      rw [stepSp_more _ _ _ hm, coverF_snoc, coverF_snoc]
      unfold unionF spanF
      cases coverF l' i
      · rw [Bool.eq_iff_iff]; simp; omega
      · simp
    · rw [stepSp_new _ _ _ hm, coverF_snoc]
      unfold unionF spanF
      cases coverF (l' ++ [p]) i
      · rw [Bool.eq_iff_iff]; simp; omega
      · simp
theorem step_mem {l : List (Nat × Nat)} {b : Nat} (h : ∀ p ∈ l, p.1 ≤ p.2 ∧ p.2 < b) : ∀ p ∈ stepSp l b, p.1 ≤ p.2 ∧ p.2 < b + 1 := by
  rcases List.eq_nil_or_concat l with rfl | ⟨l', q, rfl⟩
  · rw [stepSp_nil]; intro p hp; rw [List.mem_singleton] at hp; subst hp; exact ⟨Nat.le_refl _, Nat.lt_succ_self _⟩
  · rw [List.concat_eq_append] at h ⊢
    by_cases hm : q.2 = (b + 255) % 256
    · rw [stepSp_more _ _ _ hm]
      intro p hp
      rcases List.mem_append.1 hp with hp | hp
      · have := h p (by simp [hp]); omega
      · rw [List.mem_singleton] at hp; subst hp
        have := h q (by simp)
        show q.1 ≤ b ∧ b < b + 1
        omega
    · rw [stepSp_new _ _ _ hm]
      intro p hp
      rcases List.mem_append.1 hp with hp | hp
      · have := h p hp; omega
      · rw [List.mem_singleton] at hp; subst hp; exact ⟨Nat.le_refl _, Nat.lt_succ_self _⟩
theorem cover_fold (f : Nat → Bool) : ∀ k, k ≤ 256 → coverF (foldSp (upTo f k)) = toF f k ∧ ∀ p ∈ foldSp (upTo f k), p.1 ≤ p.2 ∧ p.2 < k
  | 0, _ => by
    refine ⟨?_, by simp [upTo_zero, foldSp]⟩
    funext i; simp [upTo_zero, foldSp, coverF, toF]
  | k + 1, hk => by
    obtain ⟨ih1, ih2⟩ := cover_fold f k (by omega)
    cases hf : f k
    · rw [upTo_no hf]
      refine ⟨?_, fun p hp => ?_⟩
      · rw [ih1]; funext i; unfold toF
        by_cases e : i = k
        · subst e; simp [hf]
        · have e1 : decide (i < k + 1) = decide (i < k) := by rw [Bool.eq_iff_iff]; simp; omega
          rw [e1]
      · have := ih2 p hp; omega
    · rw [upTo_yes hf, foldSp_snoc]
      refine ⟨?_, step_mem ih2⟩
      rw [cover_step _ _ (by omega) ih2, ih1]
      funext i; unfold toF withF
      by_cases e : i = k
      · subst e; simp [hf]
      · have e1 : decide (i < k + 1) = decide (i < k) := by rw [Bool.eq_iff_iff]; simp; omega
        rw [e1]; simp [e]
/-- The pieces of a set together are the set. -/
theorem cover_spans (f : Nat → Bool) : coverF (spF f 256) = toF f 256 := by
  have := (cover_fold f 256 (Nat.le_refl _)).1
  rw [← fold_spans]; exact this
end Go.Proofs.YtgmoaglanjfdmaaDoor.SetM
