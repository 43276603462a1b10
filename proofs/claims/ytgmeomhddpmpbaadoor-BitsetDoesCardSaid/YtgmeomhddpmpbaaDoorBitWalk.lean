/- Walks of math/bits.OnesCount64, TrailingZeros64. -/
import Derived.Test.YtgmeomhddpmpbaaDoorBitMath
import Derived.Test.YtgmeomhddpmpbaaDoorBase
import Derived.Laws.Bits64b
import Derived.Laws.DeepNot64
import Derived.LoopN
import Derived.Lib.LaidTab
namespace Go.Proofs.YtgmeomhddpmpbaaDoor.SetW
set_option linter.unusedVariables false
open Go.RowKit Go.Proofs.YtgmeomhddpmpbaaDoor.SetM

theorem mk85 : mk 85 8 = 6148914691236517205 := by decide
theorem mk51 : mk 51 8 = 3689348814741910323 := by decide
theorem mk15 : mk 15 8 = 1085102592571150095 := by decide
theorem and_lit (a m : Nat) (ha : a < 18446744073709551616) (hm : m < 18446744073709551616) : bits BinOp.and IntKind.u64 (a : Int) (m : Int) = ((a &&& m : Nat) : Int) := bits_and_u64_nat a m ha hm
theorem ones1 (x : Nat) (hx : x < 18446744073709551616) : IntKind.u64.wrap (bits BinOp.and IntKind.u64 ((x : Int) / 2) 6148914691236517205 + bits BinOp.and IntKind.u64 (x : Int) 6148914691236517205) = (s1 x 8 : Int) ∧ s1 x 8 ≤ 12297829382473034410 := by
  have h1 := and_lit (x / 2) 6148914691236517205 (by omega) (by decide)
  have h2 := and_lit x 6148914691236517205 hx (by decide)
  have l1 : x / 2 &&& 6148914691236517205 ≤ 6148914691236517205 := Nat.and_le_right
  have l2 : x &&& 6148914691236517205 ≤ 6148914691236517205 := Nat.and_le_right
  have e : s1 x 8 = (x / 2 &&& 6148914691236517205) + (x &&& 6148914691236517205) := by unfold s1; rw [mk85]
  rw [e, show ((x : Int) / 2) = ((x / 2 : Nat) : Int) by omega, show (6148914691236517205 : Int) = ((6148914691236517205 : Nat) : Int) from rfl, h1, h2, IntKind.wrap_u64]
  omega
theorem ones2 (x : Nat) (hx : x < 18446744073709551616) : IntKind.u64.wrap (bits BinOp.and IntKind.u64 ((x : Int) / 4) 3689348814741910323 + bits BinOp.and IntKind.u64 (x : Int) 3689348814741910323) = (s2 x 8 : Int) ∧ s2 x 8 ≤ 7378697629483820646 := by
  have h1 := and_lit (x / 4) 3689348814741910323 (by omega) (by decide)
  have h2 := and_lit x 3689348814741910323 hx (by decide)
  have l1 : x / 4 &&& 3689348814741910323 ≤ 3689348814741910323 := Nat.and_le_right
  have l2 : x &&& 3689348814741910323 ≤ 3689348814741910323 := Nat.and_le_right
  have e : s2 x 8 = (x / 4 &&& 3689348814741910323) + (x &&& 3689348814741910323) := by unfold s2; rw [mk51]
  rw [e, show ((x : Int) / 4) = ((x / 4 : Nat) : Int) by omega, show (3689348814741910323 : Int) = ((3689348814741910323 : Nat) : Int) from rfl, h1, h2, IntKind.wrap_u64]
  omega
theorem ones3 (x : Nat) (hx : x ≤ 7378697629483820646) : bits BinOp.and IntKind.u64 (IntKind.u64.wrap ((x : Int) / 16 + (x : Int))) 1085102592571150095 = (s3 x 8 : Int) := by
  have h1 := and_lit (x / 16 + x) 1085102592571150095 (by omega) (by decide)
  have e : s3 x 8 = ((x / 16 + x) &&& 1085102592571150095) := by unfold s3; rw [mk15]
  have e2 : IntKind.u64.wrap ((x : Int) / 16 + (x : Int)) = ((x / 16 + x : Nat) : Int) := by rw [IntKind.wrap_u64]; omega
  rw [e, e2, show (1085102592571150095 : Int) = ((1085102592571150095 : Nat) : Int) from rfl, h1]
theorem ones4 (m : Nat) (M : Int) (hM : M = (m : Int)) (x : Nat) (hx : x < 2000000000000000000) : IntKind.u64.wrap ((x : Int) + (x : Int) / M) = ((x + x / m : Nat) : Int) := by
  have h := Nat.div_le_self x m
  rw [hM, show ((x : Int) / (m : Int)) = ((x / m : Nat) : Int) by rw [Int.natCast_ediv], IntKind.wrap_u64]
  generalize x / m = q at *
  omega
theorem ones5 (x : Nat) (hx : x < 9223372036854775808) : bits BinOp.and IntKind.i64 (x : Int) 127 = ((x % 128 : Nat) : Int) := by
  show IntKind.i64.wrap ((BitVec.ofInt 64 (x : Int) &&& BitVec.ofInt 64 127).toNat : Int) = _
  have h1 : (BitVec.ofInt 64 (x : Int)).toNat = x := by
    rw [BitVec.ofInt_natCast, BitVec.toNat_ofNat]; exact Nat.mod_eq_of_lt (by omega)
  have h2 : (BitVec.ofInt 64 127).toNat = 127 := by decide
  have h3 : x &&& 127 = x % 128 := Nat.and_two_pow_sub_one_eq_mod x 7
  rw [BitVec.toNat_and, h1, h2, h3, IntKind.wrap_i64]
  omega

theorem ones_any (x : Nat) (hx : x < 18446744073709551616) (w : World) :
    Calls Tryd.prog 30 #[.int .u64 x] w fun e w' => e = .returned (.int .i64 (bitsOf x).length) ∧ w = w' := by
  obtain ⟨e1, l1⟩ := ones1 x hx
  have E1 := Lib.hid e1; clear e1
  generalize hy1 : s1 x 8 = y1 at *
  obtain ⟨e2, l2⟩ := ones2 y1 (by omega)
  have E2 := Lib.hid e2; clear e2
  generalize hy2 : s2 y1 8 = y2 at *
  have E3 := Lib.hid (ones3 y2 l2)
  generalize hy3 : s3 y2 8 = y3 at *
  obtain ⟨z, hz⟩ : ∃ z, z = y3 + y3 / 256 := ⟨_, rfl⟩
  obtain ⟨u, hu⟩ : ∃ u, u = z + z / 65536 := ⟨_, rfl⟩
  obtain ⟨s0, b0, b1, b2⟩ := swar_all x y3 z u (by rw [hy1, hy2, hy3]) hz hu
  have E4 := Lib.hid (ones4 256 256 rfl y3 (by omega))
  rw [← hz] at E4
  have E5 := Lib.hid (ones4 65536 65536 rfl z b1)
  rw [← hu] at E5
  have E6 := Lib.hid (ones4 4294967296 4294967296 rfl u b2)
  have E7 := Lib.hid (show wrap64 ((u + u / 4294967296 : Nat) : Int) = ((u + u / 4294967296 : Nat) : Int) by unfold wrap64; omega)
  have E8 := Lib.hid (ones5 (u + u / 4294967296) (by omega))
  rw [s0, pcn_bits] at E8
  generalize u + u / 4294967296 = t at *
  clear hy1 hy2 hy3 hz hu s0 b0 b1 b2 l1 l2
  go_enter Tryd.func30, Tryd.ntmps30
  go_wp2_with fail
  rw [E1.out, E2.out, E3.out, E4.out, E5.out, E6.out, E7.out, E8.out]
  go_ret
  exact ⟨rfl, rfl⟩

def tabZ : List Int := Lib.deBruijn64tab.map fun (n : Nat) => (n : Int)
theorem tabZ_at (i : Nat) : tabZ.getD i 0 = ((Lib.deBruijn64tab.getD i 0 : Nat) : Int) := by
  unfold tabZ
  rw [List.getD_eq_getElem?_getD, List.getD_eq_getElem?_getD, List.getElem?_map]
  cases Lib.deBruijn64tab[i]? <;> rfl
/-- The table of the lowest bits, and that it lies below. -/
def Env (w : World) : Prop := Lib.TabIs Tryd.prog w "math/bits.deBruijn64tab" .u8 tabZ ∧ 0 < w.heap.size
theorem gTab : Tryd.prog.globalNamed "math/bits.deBruijn64tab" = some 0 := by kernel_rfl
theorem Env.below {w w' : World} (h : Env w) (hb : Below w.heap.size w w') : Env w' :=
  ⟨var?_below hb gTab h.2 h.1, Nat.lt_of_lt_of_le h.2 hb.size⟩
theorem Env.of {w : World} (h : Lib.TabIs Tryd.prog w "math/bits.deBruijn64tab" .u8 tabZ) : Env w :=
  ⟨h, World.block_lt_of_cell? _ _ (h.cell gTab 0 (by decide))⟩

theorem tz_core (x k idx : Nat) (w : World) (hx0 : ((x : Int) == 0) = false)
    (key : IntKind.u64.wrap (bits BinOp.and IntKind.u64 (x : Int) (IntKind.u64.wrap (-(x : Int))) * 285870213051353865) / 288230376151711744 = (idx : Int))
    (hi : idx < 64) (hk : k < 64) (hcell : w.cell? ⟨0, idx, none⟩ = some (.int .u8 k)) :
    Calls Tryd.prog 29 #[.int .u64 x] w fun e w' => e = .returned (.int .i64 k) ∧ w = w' := by
  go_enter Tryd.func29, Tryd.ntmps29
  go_wp2_with (simp only [key])
  go_ret
  exact ⟨rfl, rfl⟩
theorem tz_key (x a : Nat) (hx : x < 18446744073709551616) (hx0 : x ≠ 0) (hlow : x &&& (18446744073709551616 - x) = a) :
    IntKind.u64.wrap (bits BinOp.and IntKind.u64 (x : Int) (IntKind.u64.wrap (-(x : Int))) * 285870213051353865) / 288230376151711744 = ((a * 285870213051353865 % 18446744073709551616 / 288230376151711744 : Nat) : Int) := by
  have e1 : IntKind.u64.wrap (-(x : Int)) = ((18446744073709551616 - x : Nat) : Int) := by rw [IntKind.wrap_u64]; omega
  rw [e1, bits_and_u64_nat x _ hx (by omega), hlow, IntKind.wrap_u64]
  omega
theorem tz_any (x : Nat) (hx : x < 18446744073709551616) (h0 : x ≠ 0) (w : World) (he : Env w) :
    Calls Tryd.prog 29 #[.int .u64 x] w fun e w' => e = .returned (.int .i64 (Lib.ctz 64 x)) ∧ w = w' := by
  obtain ⟨hlow, hk⟩ := Lib.lowest_bit 64 x h0 hx
  obtain ⟨hi, htab⟩ := Lib.deBruijn64_at _ hk
  have hcell := he.1.cell gTab _ (show _ < tabZ.length from hi)
  rw [tabZ_at, htab] at hcell
  refine tz_core x _ _ w (by simp; omega) (tz_key x _ hx h0 hlow) hi hk hcell
end Go.Proofs.YtgmeomhddpmpbaaDoor.SetW
