/- Walks of layer 2: With, Has. -/
import Derived.Test.YtkghnjgioijgpaaProg
import Derived.Test.YtkghnjgioijgpaaSetMath
import Derived.Test.YtkghnjgioijgpaaBase
import Derived.Laws.Bits64b
import Derived.Laws.DeepNot64
import Derived.LoopN
namespace Go.Proofs.Ytkghnjgioijgpaa.SetW
set_option linter.unusedVariables false
open Go.RowKit Go.Proofs.Ytkghnjgioijgpaa.SetM
/-- A set as a value. -/
abbrev SV (f : Nat → Bool) : Value := .agg #[.int .u64 (wd f 0), .int .u64 (wd f 1), .int .u64 (wd f 2), .int .u64 (wd f 3)]
theorem sv_at (f : Nat → Bool) (k : Nat) (hk : k < 4) : [Value.int IntKind.u64 (wd f 0), Value.int IntKind.u64 (wd f 1), Value.int IntKind.u64 (wd f 2), Value.int IntKind.u64 (wd f 3)][k]? = some (.int .u64 (wd f k)) := by
  rcases k with _ | _ | _ | _ | k <;> first | rfl | omega

theorem bitTest (x r : Nat) (hx : x < 18446744073709551616) : (bits BinOp.and IntKind.u64 ((x : Int) / 2 ^ r) 1 == 1) = x.testBit r := by
  have hd : x / 2 ^ r ≤ x := Nat.div_le_self _ _
  have e : ((x : Int) / 2 ^ r) = ((x / 2 ^ r : Nat) : Int) := by rw [Int.natCast_ediv]; simp
  have h1 := bits_and_u64_nat (x / 2 ^ r) 1 (by omega) (by decide)
  rw [e, show (1 : Int) = ((1 : Nat) : Int) from rfl, h1, Nat.and_one_is_mod, Nat.testBit_eq_decide_div_mod_eq]
  rw [Bool.eq_iff_iff]; simp; omega
theorem has_bit (f : Nat → Bool) (b : Nat) : (bits BinOp.and IntKind.u64 ((wd f (b / 64) : Int) / 2 ^ (b % 64)) 1 == 1) = f b := by
  rw [bitTest _ _ (wd_lt f _), wd_testBit, show 64 * (b / 64) + b % 64 = b by omega]
  simp [Nat.mod_lt]

theorem refHas_any (f : Nat → Bool) (b : Nat) (hb : b < 256) (w : World) :
    Calls Try.prog 88 #[SV f, .int .i64 b] w fun e w' => e = .returned (.bool (f b)) ∧ Below w.heap.size w w' := by
  have hc := sv_at f (b / 64) (by omega)
  go_enter Try.func88, Try.ntmps88
  go_wp2_with fail
  go_ret
  exact ⟨Base.ret_bool (has_bit f b), (Below.refl _ _).alloc (Nat.le_refl _) _⟩

theorem or_bit (f : Nat → Bool) (b k : Nat) (hk : b / 64 = k) : bits BinOp.or IntKind.u64 (wd f k) (IntKind.u64.wrap (2 ^ (b % 64))) = (wd (withF f b) k : Int) := by
  have hr : b % 64 < 64 := Nat.mod_lt _ (by decide)
  have hp : 2 ^ (b % 64) < 2 ^ 64 := Nat.pow_lt_pow_right (by decide) hr
  have e : IntKind.u64.wrap (2 ^ (b % 64)) = ((2 ^ (b % 64) : Nat) : Int) := by
    rw [show ((2 : Int) ^ (b % 64)) = ((2 ^ (b % 64) : Nat) : Int) by simp, IntKind.wrap_u64]
    generalize 2 ^ (b % 64) = p at *
    omega
  rw [e, bits_or_u64_nat _ _ (wd_lt f k) hp, wd_set f k _ hr, show 64 * k + b % 64 = b by omega]
theorem other_word (f : Nat → Bool) (b k : Nat) (h : b / 64 ≠ k) : (wd f k : Int) = (wd (withF f b) k : Int) := by rw [← wd_other f k b h]

theorem With_any (f : Nat → Bool) (b : Nat) (hb : b < 256) (w : World) :
    Calls Try.prog 89 #[SV f, .int .i64 b] w fun e w' => e = .returned (SV (withF f b)) ∧ Below w.heap.size w w' := by
  have hq : ((b : Int) / 64 = 0 ∧ b / 64 = 0) ∨ ((b : Int) / 64 = 1 ∧ b / 64 = 1) ∨ ((b : Int) / 64 = 2 ∧ b / 64 = 2) ∨ ((b : Int) / 64 = 3 ∧ b / 64 = 3) := by omega
  rcases hq with ⟨h1, h2⟩ | ⟨h1, h2⟩ | ⟨h1, h2⟩ | ⟨h1, h2⟩
  · have H0 := Lib.hid (or_bit f b 0 h2); have H1 := Lib.hid (other_word f b 1 (by omega)); have H2 := Lib.hid (other_word f b 2 (by omega)); have H3 := Lib.hid (other_word f b 3 (by omega))
    go_enter Try.func89, Try.ntmps89
    go_wp2_with fail
    rw [H0.out, H1.out, H2.out, H3.out]
    exact bodyPost_ret (v := SV (withF f b)) (by simp [results, Try.results89, go_sem]) rfl ⟨rfl, ((Below.refl _ _).alloc (Nat.le_refl _) _).alloc (by simp) _⟩
  · have H0 := Lib.hid (other_word f b 0 (by omega)); have H1 := Lib.hid (or_bit f b 1 h2); have H2 := Lib.hid (other_word f b 2 (by omega)); have H3 := Lib.hid (other_word f b 3 (by omega))
    go_enter Try.func89, Try.ntmps89
    go_wp2_with fail
    rw [H1.out, H0.out, H2.out, H3.out]
    exact bodyPost_ret (v := SV (withF f b)) (by simp [results, Try.results89, go_sem]) rfl ⟨rfl, ((Below.refl _ _).alloc (Nat.le_refl _) _).alloc (by simp) _⟩
  · have H0 := Lib.hid (other_word f b 0 (by omega)); have H2 := Lib.hid (or_bit f b 2 h2); have H1 := Lib.hid (other_word f b 1 (by omega)); have H3 := Lib.hid (other_word f b 3 (by omega))
    go_enter Try.func89, Try.ntmps89
    go_wp2_with fail
    rw [H2.out, H0.out, H1.out, H3.out]
    exact bodyPost_ret (v := SV (withF f b)) (by simp [results, Try.results89, go_sem]) rfl ⟨rfl, ((Below.refl _ _).alloc (Nat.le_refl _) _).alloc (by simp) _⟩
  · have H0 := Lib.hid (other_word f b 0 (by omega)); have H3 := Lib.hid (or_bit f b 3 h2); have H1 := Lib.hid (other_word f b 1 (by omega)); have H2 := Lib.hid (other_word f b 2 (by omega))
    go_enter Try.func89, Try.ntmps89
    go_wp2_with fail
    rw [H3.out, H0.out, H1.out, H2.out]
    exact bodyPost_ret (v := SV (withF f b)) (by simp [results, Try.results89, go_sem]) rfl ⟨rfl, ((Below.refl _ _).alloc (Nat.le_refl _) _).alloc (by simp) _⟩

theorem index0 (a b c d : Value) (w : World) : (Instr.index 105 (.agg #[a, b, c, d]) (.int .i64 0)).run Try.prog w = .ok a w := by kernel_rfl
theorem index1 (a b c d : Value) (w : World) : (Instr.index 105 (.agg #[a, b, c, d]) (.int .i64 1)).run Try.prog w = .ok b w := by kernel_rfl
theorem index2 (a b c d : Value) (w : World) : (Instr.index 105 (.agg #[a, b, c, d]) (.int .i64 2)).run Try.prog w = .ok c w := by kernel_rfl
theorem index3 (a b c d : Value) (w : World) : (Instr.index 105 (.agg #[a, b, c, d]) (.int .i64 3)).run Try.prog w = .ok d w := by kernel_rfl
theorem not_word (f : Nat → Bool) (k : Nat) : bits BinOp.xor IntKind.u64 IntKind.u64.max (wd f k) = (wd (notF f) k : Int) := by
  have h := wd_lt f k
  rw [← wd_not]
  show IntKind.u64.wrap ((BitVec.ofInt 64 IntKind.u64.max ^^^ BitVec.ofInt 64 (wd f k : Int)).toNat : Int) = _
  have h1 : BitVec.ofInt 64 IntKind.u64.max = BitVec.allOnes 64 := by decide
  rw [h1, BitVec.allOnes_xor, BitVec.toNat_not, BitVec.ofInt_natCast, BitVec.toNat_ofNat, Nat.mod_eq_of_lt h, IntKind.wrap_u64]
  omega
theorem and_word (f g : Nat → Bool) (k : Nat) : bits BinOp.and IntKind.u64 (wd f k) (wd g k) = (wd (meetF f g) k : Int) := by
  rw [bits_and_u64_nat _ _ (wd_lt f k) (wd_lt g k), wd_and]
theorem or_word (f g : Nat → Bool) (k : Nat) : bits BinOp.or IntKind.u64 (wd f k) (wd g k) = (wd (unionF f g) k : Int) := by
  rw [bits_or_u64_nat _ _ (wd_lt f k) (wd_lt g k), wd_or]
theorem or_word0 (g : Nat → Bool) (k : Nat) : bits BinOp.or IntKind.u64 0 (wd g k) = (wd g k : Int) := by
  have := bits_or_u64_nat 0 (wd g k) (by decide) (wd_lt g k)
  simpa using this
end Go.Proofs.Ytkghnjgioijgpaa.SetW
