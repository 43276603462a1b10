/- Walks of numbered with pairs of numbers as keys: keys; the closure of Join. -/
import Derived.Test.YtfhddbjojpmbcaaNumI
import Derived.DeepKeys4
import Derived.ChangeKeysEq
import Derived.RegionTactic
import Derived.BigRegion
import Derived.ChangeAlike
import Derived.Deep.RegionHeld3
namespace Go.Proofs.Ytfhddbjojpmbcaa.DfaW
set_option linter.unusedVariables false
set_option linter.unusedSimpArgs false
open Go.RowKit Go.Maps Go.Proofs.Ytfhddbjojpmbcaa.PartM Go.Proofs.Ytfhddbjojpmbcaa.PartW
theorem laidP : laidOutB Try.prog = true := by kernel_rfl
theorem rowP : (64 : TypeId) < Try.prog.types.size := of_decide_eq_true (by kernel_rfl)
theorem wideP : (match Try.prog.underlying 64 with | some (.array _ _) | some (.struct _) => true | _ => false) = true := by rw [Try.underlying64]
theorem lawP : Keyed Try.prog 64 := Keyed.of_law (deep_law_laid laidP (m := 2) (by omega) rowP (by kernel_rfl) wideP)
theorem cellsP : Try.prog.cellsOf 64 = 2 := by kernel_rfl
theorem cellsI : Try.prog.cellsOf 3 = 1 := by kernel_rfl
theorem formedP {c0 c1 : Value} : (Value.agg #[c0, c1]).formed Try.prog 64 = true := by simp [Value.formed, Try.underlying64, cellsP]
theorem keyTypeP : Try.prog.keyType 64 = true := by kernel_rfl
theorem litI {n : Nat} {x : Int} (hx : (Lit.int .i64 x).wf = true) : Try.prog.keyLits (n + 1) 3 [.int .i64 x] = some [.int .i64 x] := by
  simp [Program.keyLits, Try.underlying3, hx]
theorem litP {n : Nat} {x y : Int} (hx : (Lit.int .i64 x).wf = true) (hy : (Lit.int .i64 y).wf = true) : Try.prog.keyLits (n + 2) 64 [.int .i64 x, .int .i64 y] = some [.int .i64 x, .int .i64 y] := by
  unfold Program.keyLits
  simp only [Try.underlying64, cellsP, cellsI]
  simp [List.range, List.range.loop, litI hx, litI hy]
theorem keyP {x y : Int} (hx : (Lit.int .i64 x).wf = true) (hy : (Lit.int .i64 y).wf = true) : ∃ lx, keyOf Try.prog 64 (.agg #[.int .i64 x, .int .i64 y]) = some lx := by
  obtain ⟨n, hn⟩ : ∃ n, Try.prog.types.size + 1 = n + 2 := ⟨Try.prog.types.size - 1, by have h : 64 < Try.prog.types.size := rowP; omega⟩
  unfold keyOf
  rw [Try.underlying64]
  simp only [keyTypeP, formedP, hn, Bool.and_self, if_true]
  exact ⟨_, by simp [Value.cells, litP hx hy]; rfl⟩
abbrev KVP (f g : Nat → Int) : Nat → Value := fun b => .agg #[.int .i64 (f b), .int .i64 (g b)]
theorem keysP {n : Nat} {f g : Nat → Int} {E : Nat → Nat → Bool} (hf : ∀ b, b < n → (Lit.int .i64 (f b)).wf = true) (hg : ∀ b, b < n → (Lit.int .i64 (g b)).wf = true) (hE : ∀ a b, a < n → b < n → (E a b = true ↔ f a = f b ∧ g a = g b)) :
    KeysN Try.prog 64 n (KVP f g) (fun b => (keyOf Try.prog 64 (KVP f g b)).getD (.bool false)) E := by
  refine ⟨lawP, fun b hb => ?_, fun a b ha hb => ?_⟩
  · obtain ⟨l, hl⟩ := keyP (hf b hb) (hg b hb)
    simp [hl]
  · obtain ⟨l, hl⟩ := keyP (hf a ha) (hg a ha)
    obtain ⟨m, hm⟩ := keyP (hf b hb) (hg b hb)
    simp only [hl, hm, Option.getD_some]
    rw [hE a b ha hb]
    constructor
    · rintro rfl
      have := lawP.inj hl hm
      simpa using this
    · rintro ⟨h1, h2⟩
      rw [h1, h2, hm] at hl
      injection hl with hl
      exact hl.symm
end Go.Proofs.Ytfhddbjojpmbcaa.DfaW
