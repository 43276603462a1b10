/- '==' of two arrays of 256 small numbers. -/
import Derived.Test.YtkghnjgioijgpaaNumB
namespace Go.Proofs.Ytkghnjgioijgpaa.PartW
set_option linter.unusedVariables false
open Go.RowKit Go.Maps Go.Proofs.Ytkghnjgioijgpaa.PartM
theorem part_at {C : Array Value} {f : Nat → Nat} (h : IsA C f) {i : Nat} (hi : i < 256) (w : World) : (part 5 C i).run Try.prog w = .ok (.int .u8 (f i : Int)) w := by
  have := h.at' i hi
  unfold part
  have u3 := Try.underlying5
  have a3 := Try.isAgg5
  have z3 := Try.sizeOf5
  simp [a3, z3, this]
theorem eqByte (d : Nat) (x y : Int) (w : World) : (Op.equalIn (d + 1) 5 (.int .u8 x) (.int .u8 y)).run Try.prog w = .ok (x == y) w := by
  rw [Op.equalIn]
  simp only [Sem.run_bind, run_underlying Try.underlying5, Result.andThen_ok]
  simp
/-- Are two arrays of numbers the same? -/
def sameA (f g : Nat → Nat) : Bool := (List.range 256).all fun i => f i == g i
theorem sameA_iff (f g : Nat → Nat) : sameA f g = true ↔ ∀ i, i < 256 → f i = g i := by
  unfold sameA
  rw [List.all_eq_true]
  exact ⟨fun h i hi => by simpa using h i (List.mem_range.2 hi), fun h i hi => by simpa using h i (List.mem_range.1 hi)⟩
theorem eqLoop {C D : Array Value} {f g : Nat → Nat} (h : IsA C f) (k : IsA D g) (w : World) : ∀ n j, j + n ≤ 256 →
    (forIn (m := Sem) (List.range' j n) ((none : Option Bool), ()) fun i __s => do
            let __do_lift ← part 5 C i
            let __do_lift_1 ← part 5 D i
            let __do_lift ← Op.equalIn (9998 + 1) 5 __do_lift __do_lift_1
            if (!__do_lift) = true then pure (ForInStep.done (some false, ())) else pure (ForInStep.yield (none, ()))).run Try.prog w
      = .ok (if (List.range' j n).all (fun i => f i == g i) then (none, ()) else (some false, ())) w
  | 0, j, _ => by simp
  | n + 1, j, hj => by
    have ih := eqLoop h k w n (j + 1) (by omega)
    rw [List.range'_succ, List.forIn_cons]
    simp only [Sem.run_bind, part_at h (show j < 256 by omega), part_at k (show j < 256 by omega), Result.andThen_ok, eqByte]
    by_cases e : f j = g j
    · have e1 : ((f j : Int) == (g j : Int)) = true := by rw [e]; simp
      have e2 : (f j == g j) = true := by rw [e]; simp
      simp only [e1, Bool.not_true, Bool.false_eq_true, if_false, Sem.run_pure, Result.andThen_ok, List.all_cons, e2, Bool.true_and]
      exact ih
    · have e1 : ((f j : Int) == (g j : Int)) = false := by simp; omega
      have e2 : (f j == g j) = false := by simpa using e
      simp [e1, e2]
theorem eqArr {C D : Array Value} {f g : Nat → Nat} (h : IsA C f) (k : IsA D g) (w : World) : (Op.equalIn 10000 22 (.agg C) (.agg D)).run Try.prog w = .ok (sameA f g) w := by
  have z3 := Try.sizeOf5
  rw [show (10000 : Nat) = 9998 + 1 + 1 from rfl, Op.equalIn]
  simp only [Sem.run_bind, run_underlying Try.underlying22, Result.andThen_ok]
  simp only [Std.Legacy.Range.forIn_eq_forIn_range', Std.Legacy.Range.size, Nat.sub_zero, Nat.add_sub_cancel, Nat.div_one, z3, Result.andThen_ok, Nat.mul_one]
  rw [eqLoop h k w 256 0 (by omega)]
  simp only [Result.andThen_ok]
  unfold sameA
  rw [← List.range_eq_range']
  split <;> rename_i hx
  · split at hx
    · cases hx
    · rename_i hy
      injection hx with hx
      subst hx
      simp only [Sem.run_pure]
      rw [Bool.not_eq_true] at hy
      rw [hy]
  · split at hx
    · rename_i hy
      simp only [Sem.run_pure]
      rw [hy]
    · cases hx
end Go.Proofs.Ytkghnjgioijgpaa.PartW
