/- Blocks that are joined with what is said of each state: the latest number in each block, what is told, what the map has. -/
import Derived.Test.YtfhddbjojpmbcaaNumP
import Derived.Test.YtfhddbjojpmbcaaMooMath
namespace Go.Proofs.Ytfhddbjojpmbcaa.DfaW
set_option linter.unusedVariables false
set_option linter.unusedSimpArgs false
open Go.RowKit Go.Maps Go.Proofs.Ytfhddbjojpmbcaa.PartM Go.Proofs.Ytfhddbjojpmbcaa.PartW
/-- In one block, and the same is said of both. -/
def joinE (E : Nat → Nat → Bool) (f : Nat → Int) : Nat → Nat → Bool := fun a b => E a b && (f a == f b)
theorem joinE_iff {E : Nat → Nat → Bool} {f : Nat → Int} {a b : Nat} : joinE E f a b = true ↔ E a b = true ∧ f a = f b := by simp [joinE]
theorem joinE_eqv {E : Nat → Nat → Bool} (h : Eqv E) (f : Nat → Int) : Eqv (joinE E f) :=
  ⟨fun a => joinE_iff.2 ⟨h.refl a, rfl⟩, fun a b x => joinE_iff.2 ⟨h.symm _ _ (joinE_iff.1 x).1, (joinE_iff.1 x).2.symm⟩,
    fun a b c x y => joinE_iff.2 ⟨h.trans _ _ _ (joinE_iff.1 x).1 (joinE_iff.1 y).1, (joinE_iff.1 x).2.trans (joinE_iff.1 y).2⟩⟩
/-- The latest new number in block b, ahead of s; or -1. -/
def lat (E G : Nat → Nat → Bool) : Nat → Nat → Int
  | 0, _ => -1
  | s + 1, b => if nm E s = b then (nm G s : Nat) else lat E G s b
theorem lat_cases (E G : Nat → Nat → Bool) (b : Nat) : ∀ s, ((∀ i, i < s → nm E i ≠ b) ∧ lat E G s b = -1) ∨ ∃ i, i < s ∧ nm E i = b ∧ lat E G s b = (nm G i : Nat)
  | 0 => .inl ⟨fun i h => absurd h (Nat.not_lt_zero _), rfl⟩
  | s + 1 => by
    by_cases e : nm E s = b
    · exact .inr ⟨s, Nat.lt_succ_self _, e, by rw [lat, if_pos e]⟩
    · rcases lat_cases E G b s with ⟨h1, h2⟩ | ⟨i, h1, h2, h3⟩
      · refine .inl ⟨fun i hi => ?_, by rw [lat, if_neg e]; exact h2⟩
        by_cases e2 : i = s
        · subst e2; exact e
        · exact h1 i (by omega)
      · exact .inr ⟨i, by omega, h2, by rw [lat, if_neg e]; exact h3⟩
def latL (E G : Nat → Nat → Bool) (s n : Nat) : List Value := (List.range n).map fun b => .int .i64 (lat E G s b)
theorem latL_len (E G : Nat → Nat → Bool) (s n : Nat) : (latL E G s n).length = n := by simp [latL]
theorem latL_at (E G : Nat → Nat → Bool) {s n b : Nat} (h : b < n) : (latL E G s n)[b]? = some (.int .i64 (lat E G s b)) := by simp [latL, h]
theorem latL_set (E G : Nat → Nat → Bool) {s n : Nat} (h : nm E s < n) : (latL E G s n).toArray.setIfInBounds (nm E s) (.int .i64 (nm G s : Nat)) = (latL E G (s + 1) n).toArray := by
  apply Array.toList_inj.1
  rw [Array.toList_setIfInBounds]
  show (latL E G s n).set _ _ = latL E G (s + 1) n
  refine List.ext_getElem (by simp [latL]) fun i h1 h2 => ?_
  rw [List.getElem_set]
  simp only [latL, List.getElem_map, List.getElem_range, lat]
  by_cases e : nm E s = i
  · rw [if_pos e, if_pos e]
  · rw [if_neg e, if_neg e]
/-- New numbers ahead of s, old ones from s on. -/
def mixI (E G : Nat → Nat → Bool) (s n : Nat) : List Int := (List.range n).map fun i => if i < s then (nm G i : Int) else (nm E i : Int)
theorem mixI_len (E G : Nat → Nat → Bool) (s n : Nat) : (mixI E G s n).length = n := by simp [mixI]
theorem mixI_zero (E G : Nat → Nat → Bool) (n : Nat) : mixI E G 0 n = numsTo E n := by simp [mixI, numsTo]
theorem mixI_all (E G : Nat → Nat → Bool) (n : Nat) : mixI E G n n = numsTo G n := by
  unfold mixI numsTo
  exact List.map_congr_left fun i hi => by rw [if_pos (List.mem_range.1 hi)]
theorem mixI_at (E G : Nat → Nat → Bool) {s n : Nat} (h : s < n) : (mixI E G s n).getD s 0 = (nm E s : Nat) := by simp [mixI, List.getD, h]
theorem mixI_set (E G : Nat → Nat → Bool) (s n : Nat) : (mixI E G s n).set s (nm G s : Nat) = mixI E G (s + 1) n := by
  refine List.ext_getElem (by simp [mixI]) fun i h1 h2 => ?_
  rw [List.getElem_set]
  simp only [mixI, List.getElem_map, List.getElem_range]
  by_cases e : s = i
  · subst e; simp
  · rw [if_neg e]
    by_cases e2 : i < s
    · rw [if_pos e2, if_pos (by omega)]
    · rw [if_neg e2, if_neg (by omega)]
/-- What is told of each new block, by its first state. -/
def toldI (G : Nat → Nat → Bool) (f : Nat → Int) (s : Nat) : List Int := (reps G s).map f
theorem toldI_len (G : Nat → Nat → Bool) (f : Nat → Int) (s : Nat) : (toldI G f s).length = rk G s := by simp [toldI, reps_len]
theorem toldI_new {G : Nat → Nat → Bool} (f : Nat → Int) {s : Nat} (h : fst G s = s) : toldI G f (s + 1) = toldI G f s ++ [f s] := by simp [toldI, reps_succ, h]
theorem toldI_old {G : Nat → Nat → Bool} (f : Nat → Int) {s : Nat} (h : fst G s ≠ s) : toldI G f (s + 1) = toldI G f s := by simp [toldI, reps_succ, h]
theorem toldI_at {E : Nat → Nat → Bool} (hE : Eqv E) (f : Nat → Int) {i s : Nat} (h : i < s) : (toldI (joinE E f) f s).getD (nm (joinE E f) i) 0 = f i := by
  have h1 := reps_nm (joinE_eqv hE f) h
  unfold toldI
  rw [List.getD_eq_getElem?_getD, List.getElem?_map, h1]
  show f _ = f i
  exact (joinE_iff.1 (fst_alike (joinE_eqv hE f) i)).2
/-- What the map has, when the states ahead of s have come. -/
structure Met (D : DataW Unit) (n : Nat) (KL : Nat → Lit) (E G : Nat → Nat → Bool) (s : Nat) : Prop where
  yes : ∀ a, a < n → has D (KL a) = true → (∃ j, j < s ∧ G j a = true) ∧ ∀ z, D.atKey (KL a) z = .lit (.int .i64 (nm G a : Nat))
  all : ∀ j, j < s → has D (KL j) = true ∨ lat E G s (nm E j) = (nm G j : Nat)
theorem Met.none (n : Nat) (KL : Nat → Lit) (E G : Nat → Nat → Bool) : Met (.map []) n KL E G 0 := ⟨fun a _ h => (by cases h), fun j h => absurd h (Nat.not_lt_zero _)⟩
section
variable {P : Program} {kt : TypeId} {KV : Nat → Value} {KL : Nat → Lit} {E : Nat → Nat → Bool} {f : Nat → Int} {D : DataW Unit} {s n : Nat}
/-- A state of a block in which none was. -/
theorem Met.first (hE : Eqv E) (h : Met D n KL E (joinE E f) s) (h0 : lat E (joinE E f) s (nm E s) = -1) :
    fst (joinE E f) s = s ∧ Met D n KL E (joinE E f) (s + 1) := by
  have hno : ∀ i, i < s → nm E i ≠ nm E s := by
    rcases lat_cases E (joinE E f) (nm E s) s with ⟨h1, _⟩ | ⟨i, _, _, h3⟩
    · exact h1
    · rw [h3] at h0; omega
  refine ⟨(first_iff (joinE_eqv hE f) s).2 fun a ha => ?_, ⟨fun a ha hd => ?_, fun j hj => ?_⟩⟩
  · cases e : joinE E f a s with
    | false => rfl
    | true => exact absurd (nm_congr hE (joinE_iff.1 e).1) (hno a ha)
  · obtain ⟨⟨j, hj, h1⟩, h2⟩ := h.yes a ha hd
    exact ⟨⟨j, by omega, h1⟩, h2⟩
  · by_cases e : j = s
    · subst e; exact .inr (by rw [lat, if_pos rfl])
    · rcases h.all j (by omega) with h1 | h1
      · exact .inl h1
      · exact .inr (by rw [lat, if_neg (fun e' => hno j (by omega) e'.symm)]; exact h1)
/-- A state of which the same is said as of the latest one of its block. -/
theorem Met.same (hE : Eqv E) (h : Met D n KL E (joinE E f) s) {i : Nat} (hi : i < s) (he : nm E i = nm E s) (hl : lat E (joinE E f) s (nm E s) = (nm (joinE E f) i : Nat)) (hf : f i = f s) :
    fst (joinE E f) s ≠ s ∧ nm (joinE E f) s = nm (joinE E f) i ∧ Met D n KL E (joinE E f) (s + 1) := by
  have hG : joinE E f i s = true := joinE_iff.2 ⟨nm_inj hE he, hf⟩
  have hn := (nm_congr (joinE_eqv hE f) hG).symm
  have hlat : ∀ b, lat E (joinE E f) (s + 1) b = lat E (joinE E f) s b := fun b => by
    rw [lat]
    by_cases e : nm E s = b
    · rw [if_pos e, ← e, hl, hn]
    · rw [if_neg e]
  refine ⟨fun e => ?_, hn, ⟨fun a ha hd => ?_, fun j hj => ?_⟩⟩
  · have := (first_iff (joinE_eqv hE f) s).1 e i hi
    rw [hG] at this; cases this
  · obtain ⟨⟨j, hj, h1⟩, h2⟩ := h.yes a ha hd
    exact ⟨⟨j, by omega, h1⟩, h2⟩
  · by_cases e : j = s
    · subst e; exact .inr (by rw [lat, if_pos rfl])
    · rw [hlat]; exact h.all j (by omega)
/-- A state of which another thing is said: the latest one's is put down, and then it is looked for. -/
theorem Met.other (hK : KeysN P kt n KV KL (joinE E f)) (hE : Eqv E) (h : Met D n KL E (joinE E f) s) (hT : Tidy D) (hs : s < n) {i : Nat} (hi : i < s) (he : nm E i = nm E s) (hl : lat E (joinE E f) s (nm E s) = (nm (joinE E f) i : Nat)) (hf : f i ≠ f s) :
    Met (D.put (KL i) (.lit (.int .i64 (nm (joinE E f) i : Nat)))) n KL E (joinE E f) (s + 1) ∧
    ((has (D.put (KL i) (.lit (.int .i64 (nm (joinE E f) i : Nat)))) (KL s) = true ∧ (∀ z, (D.put (KL i) (.lit (.int .i64 (nm (joinE E f) i : Nat)))).atKey (KL s) z = .lit (.int .i64 (nm (joinE E f) s : Nat))) ∧ fst (joinE E f) s ≠ s) ∨
     (has (D.put (KL i) (.lit (.int .i64 (nm (joinE E f) i : Nat)))) (KL s) = false ∧ fst (joinE E f) s = s)) := by
  have hm : IsMap D := by obtain ⟨es, h1, _⟩ := hT; exact ⟨es, h1⟩
  have hkl := hK.law.key (hK.key i (by omega))
  have hG := joinE_eqv hE f
  have hyes : ∀ a, a < n → has (D.put (KL i) (.lit (.int .i64 (nm (joinE E f) i : Nat)))) (KL a) = true → (∃ j, j < s ∧ joinE E f j a = true) ∧ ∀ z, (D.put (KL i) (.lit (.int .i64 (nm (joinE E f) i : Nat)))).atKey (KL a) z = .lit (.int .i64 (nm (joinE E f) a : Nat)) := fun a ha hd => by
    by_cases e : KL a = KL i
    · have h1 := (hK.one a i ha (by omega)).1 e
      refine ⟨⟨i, hi, hG.symm _ _ h1⟩, fun z => ?_⟩
      rw [e, nm_congr hG h1]
      exact atKey_put_same hm hkl _ z
    · rw [has_put_other e] at hd
      obtain ⟨h1, h2⟩ := h.yes a ha hd
      exact ⟨h1, fun z => by rw [atKey_put_other e]; exact h2 z⟩
  have hin : ∀ j, j < s → nm E j = nm E s → has (D.put (KL i) (.lit (.int .i64 (nm (joinE E f) i : Nat)))) (KL j) = true := fun j hj ej => by
    by_cases e : KL j = KL i
    · rw [e]; exact has_put_same hm hkl _
    · rw [has_put_other e]
      rcases h.all j hj with h1 | h1
      · exact h1
      · rw [ej, hl] at h1
        have h1 : nm (joinE E f) i = nm (joinE E f) j := by omega
        exact absurd ((hK.one j i (by omega) (by omega)).2 (hG.symm _ _ (nm_inj hG h1))) e
  refine ⟨⟨fun a ha hd => ?_, fun j hj => ?_⟩, ?_⟩
  · obtain ⟨⟨j, hj, h1⟩, h2⟩ := hyes a ha hd
    exact ⟨⟨j, by omega, h1⟩, h2⟩
  · by_cases e : j = s
    · subst e; exact .inr (by rw [lat, if_pos rfl])
    · by_cases ej : nm E j = nm E s
      · exact .inl (hin j (by omega) ej)
      · rcases h.all j (by omega) with h1 | h1
        · refine .inl ?_
          by_cases e2 : KL j = KL i
          · rw [e2]; exact has_put_same hm hkl _
          · rw [has_put_other e2]; exact h1
        · exact .inr (by rw [lat, if_neg (fun e' => ej e'.symm)]; exact h1)
  · cases hd : has (D.put (KL i) (.lit (.int .i64 (nm (joinE E f) i : Nat)))) (KL s) with
    | true =>
      obtain ⟨⟨j, hj, h1⟩, h2⟩ := hyes s hs hd
      refine .inl ⟨rfl, h2, fun e => ?_⟩
      have := (first_iff hG s).1 e j hj
      rw [h1] at this; cases this
    | false =>
      refine .inr ⟨rfl, (first_iff hG s).2 fun a ha => ?_⟩
      cases e : joinE E f a s with
      | false => rfl
      | true =>
        have h1 := hin a ha (nm_congr hE (joinE_iff.1 e).1)
        rw [(hK.one a s (by omega) hs).2 e, hd] at h1
        cases h1
end
/-- All classes below c have been asked. -/
def rndE (E : Nat → Nat → Bool) (g : Nat → Nat → Nat) : Nat → Nat → Nat → Bool
  | 0 => E
  | c + 1 => joinE (rndE E g c) fun s => (nm E (g s c) : Nat)
theorem rndE_eqv {E : Nat → Nat → Bool} (h : Eqv E) (g : Nat → Nat → Nat) : ∀ c, Eqv (rndE E g c)
  | 0 => h
  | c + 1 => joinE_eqv (rndE_eqv h g c) _
theorem rndE_iff {E : Nat → Nat → Bool} (h : Eqv E) {g : Nat → Nat → Nat} {s t : Nat} : ∀ c, rndE E g c s t = true ↔ E s t = true ∧ ∀ k, k < c → E (g s k) (g t k) = true
  | 0 => ⟨fun x => ⟨x, fun k hk => absurd hk (Nat.not_lt_zero _)⟩, fun x => x.1⟩
  | c + 1 => by
    have e : (((nm E (g s c) : Nat) : Int) = ((nm E (g t c) : Nat) : Int)) ↔ E (g s c) (g t c) = true := by
      rw [nm_iff h, beq_iff_eq]; omega
    rw [rndE, joinE_iff, rndE_iff h c]
    show (_ ∧ ((nm E (g s c) : Nat) : Int) = ((nm E (g t c) : Nat) : Int)) ↔ _
    rw [e]
    constructor
    · rintro ⟨⟨h1, h2⟩, h3⟩
      refine ⟨h1, fun k hk => ?_⟩
      by_cases e : k = c
      · rw [e]; exact h3
      · exact h2 k (by omega)
    · rintro ⟨h1, h2⟩
      exact ⟨⟨h1, fun k hk => h2 k (by omega)⟩, h2 c (Nat.lt_succ_self _)⟩
/-- A round leads from those that are alike up to k to those up to k + 1. -/
theorem rndE_alk {m : Mc} (k : Nat) : numsTo (rndE (alk m k) (at2 m.nx) m.wd.toNat) m.lb.length = aftN m (k + 1) := by
  unfold aftN
  refine numsTo_congr fun s t _ _ => ?_
  rw [Bool.eq_iff_iff, rndE_iff (alk_eqv m k), alk_succ]
  exact ⟨fun x => ⟨x.1, fun c hc => x.2 c (by omega)⟩, fun x => ⟨x.1, fun c hc => x.2 c (by omega)⟩⟩
theorem aftN_zero {m : Mc} : aftN m 0 = normV m.lb := by
  unfold aftN normV
  refine numsTo_congr fun s t _ _ => ?_
  rw [Bool.eq_iff_iff, alk_zero, blkE_iff]
end Go.Proofs.Ytfhddbjojpmbcaa.DfaW
