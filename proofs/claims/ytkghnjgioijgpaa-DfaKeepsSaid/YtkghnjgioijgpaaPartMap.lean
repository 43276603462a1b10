/- What a map tells of the bytes that have come: the number of each key. -/
import Derived.Test.YtkghnjgioijgpaaPartArr
namespace Go.Proofs.Ytkghnjgioijgpaa.PartW
set_option linter.unusedVariables false
open Go.RowKit Go.Maps Go.Proofs.Ytkghnjgioijgpaa.PartM
variable {P : Program}

/-- Keys of bytes. -/
structure Keys (P : Program) (kt : TypeId) (KV : Nat → Value) (KL : Nat → Lit) (E : Nat → Nat → Bool) : Prop where
  law : Keyed P kt
  key : ∀ b, b < 256 → keyOf P kt (KV b) = some (KL b)
  one : ∀ a b, a < 256 → b < 256 → (KL a = KL b ↔ E a b = true)
/-- What the map tells when the bytes below k have come. -/
structure Seen (D : DataW Unit) (KL : Nat → Lit) (E : Nat → Nat → Bool) (k : Nat) : Prop where
  yes : ∀ a, a < k → has D (KL a) = true ∧ ∀ z, D.atKey (KL a) z = .lit (.int .u8 (nm E a : Nat))
  no : ∀ b, b < 256 → (∀ a, a < k → E a b = false) → has D (KL b) = false
  size : size D = rk E k
theorem Seen.none (KL : Nat → Lit) (E : Nat → Nat → Bool) : Seen (.map []) KL E 0 := ⟨fun a h => absurd h (Nat.not_lt_zero _), fun b _ _ => rfl, rfl⟩
variable {kt : TypeId} {KV : Nat → Value} {KL : Nat → Lit} {E : Nat → Nat → Bool} {D : DataW Unit} {k : Nat}
/-- The key is there. -/
theorem Seen.old (hK : Keys P kt KV KL E) (hE : Eqv E) (h : Seen D KL E k) (hk : k < 256) (hn : fst E k ≠ k) :
    has D (KL k) = true ∧ (∀ z, D.atKey (KL k) z = .lit (.int .u8 (nm E k : Nat))) ∧ Seen D KL E (k + 1) := by
  have hf : fst E k < k := by have := fst_le E k; omega
  have he := fst_alike hE k
  have hl : KL (fst E k) = KL k := (hK.one _ _ (by omega) hk).2 he
  obtain ⟨h1, h2⟩ := h.yes _ hf
  rw [hl, nm_congr hE he] at h2
  rw [hl] at h1
  refine ⟨h1, h2, ⟨fun a ha => ?_, fun b hb hn' => h.no b hb fun a ha => hn' a (by omega), by rw [rk_old hn]; exact h.size⟩⟩
  by_cases e : a = k
  · subst e; exact ⟨h1, h2⟩
  · exact h.yes a (by omega)
/-- The key is new. -/
theorem Seen.new (hK : Keys P kt KV KL E) (hE : Eqv E) (h : Seen D KL E k) (hT : Tidy D) (hk : k < 256) (hn : fst E k = k) :
    has D (KL k) = false ∧ Seen (D.put (KL k) (.lit (.int .u8 (rk E k : Nat)))) KL E (k + 1) := by
  have hno := (first_iff hE k).1 hn
  have h0 := h.no k hk hno
  have hm : IsMap D := by obtain ⟨es, h1, _⟩ := hT; exact ⟨es, h1⟩
  have hkl := hK.law.key (hK.key k hk)
  refine ⟨h0, ⟨fun a ha => ?_, fun b hb hn' => ?_, ?_⟩⟩
  · by_cases e : a = k
    · subst e
      rw [nm_first hn]
      exact ⟨has_put_same hm hkl _, fun z => atKey_put_same hm hkl _ z⟩
    · have hne : KL a ≠ KL k := fun e' => by
        have := (hK.one a k (by omega) hk).1 e'
        rw [hno a (by omega)] at this; cases this
      obtain ⟨h1, h2⟩ := h.yes a (by omega)
      exact ⟨by rw [has_put_other hne]; exact h1, fun z => by rw [atKey_put_other hne]; exact h2 z⟩
  · have hne : KL b ≠ KL k := fun e' => by
      have := (hK.one k b hk hb).1 e'.symm
      rw [hn' k (by omega)] at this; cases this
    rw [has_put_other hne]
    exact h.no b hb fun a ha => hn' a (by omega)
  · rw [size_put hT, h0, rk_new hn, h.size]; rfl
/-- The array when the bytes below k have come. -/
def nmTo (E : Nat → Nat → Bool) (k : Nat) : Nat → Nat := fun i => if i < k then nm E i else 0
theorem nmTo_zero (E : Nat → Nat → Bool) : nmTo E 0 = fun _ => 0 := by funext i; simp [nmTo]
theorem nmTo_all {C : Array Value} (E : Nat → Nat → Bool) (h : IsA C (nmTo E 256)) : IsA C (nm E) := h.congr fun i hi => by simp [nmTo, hi]
theorem nmTo_set {C : Array Value} (E : Nat → Nat → Bool) {k : Nat} (h : IsA C (nmTo E k)) : IsA (C.setIfInBounds k (.int .u8 (nm E k : Nat))) (nmTo E (k + 1)) := by
  refine (h.set k (nm E k)).congr fun i hi => ?_
  unfold nmTo
  by_cases e : i = k
  · subst e; simp
  · simp [e]
    by_cases h1 : i < k
    · simp [h1, show i < k + 1 by omega]
    · simp [h1, show ¬ i < k + 1 by omega]
theorem wf_u8 {n : Nat} (h : n < 256) : (Lit.int .u8 (n : Int)).wf = true := by simp [Lit.wf, IntKind.min, IntKind.max, IntKind.signed, IntKind.bits]; omega
theorem wrap_u8 {n : Nat} (h : n < 256) : IntKind.u8.wrap (n : Int) = (n : Int) := by rw [IntKind.wrap_u8]; omega
theorem owns_map_heap {kt : TypeId} {H : Type} {R : Value → Option (DataW H × List MemPlace)} {w w' : World} {b n : Nat} {D : DataW H} (h : w.ownsMap P kt R b n D) (hh : w'.heap[b]? = w.heap[b]?) : w'.ownsMap P kt R b n D := by
  obtain ⟨es, clock, hb, r⟩ := h
  exact ⟨es, clock, by rw [hh]; exact hb, r⟩
theorem owns_map_lt {kt : TypeId} {H : Type} {R : Value → Option (DataW H × List MemPlace)} {w : World} {b n : Nat} {D : DataW H} (h : w.ownsMap P kt R b n D) : b < w.heap.size := by
  obtain ⟨es, clock, hb, r⟩ := h
  exact (Array.getElem?_eq_some_iff.1 hb).1
theorem keys_of {P : Program} {kt : TypeId} {KV : Nat → Value} {E : Nat → Nat → Bool} (law : Keyed P kt) (hk : ∀ b, b < 256 → ∃ l, keyOf P kt (KV b) = some l) (hE : ∀ a b, KV a = KV b ↔ E a b = true) :
    Keys P kt KV (fun b => (keyOf P kt (KV b)).getD (.bool false)) E := by
  refine ⟨law, fun b hb => ?_, fun a b ha hb => ?_⟩
  · obtain ⟨l, hl⟩ := hk b hb
    simp [hl]
  · obtain ⟨l, hl⟩ := hk a ha
    obtain ⟨m, hm⟩ := hk b hb
    simp only [hl, hm, Option.getD_some]
    constructor
    · rintro rfl
      exact (hE a b).1 (law.inj hl hm)
    · intro h
      have := (hE a b).2 h
      rw [this, hm] at hl
      injection hl with hl
      exact hl.symm
end Go.Proofs.Ytkghnjgioijgpaa.PartW
