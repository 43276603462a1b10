/- Walks of layer 3 (quote): Value, in both texts; Plain, by the table. -/
import Derived.Test.YtmlheppkclppfaaDoorQuoWalk1
import Derived.Test.YtmlheppkclppfaaDoorShelf
namespace Go.Proofs.YtmlheppkclppfaaDoor.QuoW
set_option linter.unusedVariables false
open Go.RowKit Go.Proofs.YtmlheppkclppfaaDoor.QuoM
open Go.Proofs.YtmlheppkclppfaaDoor.Base (ret_bool ret_int ret_str)

theorem u8_self (c : UInt8) : UInt8.ofNat c.toNat = c := UInt8.toNat_inj.1 (by rw [UInt8.toNat_ofNat']; have := c.toNat_lt; omega)
theorem all_bytes {p : UInt8 → Prop} (h : ∀ n : Fin 256, p (UInt8.ofNat n.val)) (c : UInt8) : p c := by
  have := h ⟨c.toNat, c.toNat_lt⟩
  rwa [u8_self] at this
theorem index_vl (c : UInt8) : Lib.indexByte digs.data.toList c = vl c := all_bytes (p := fun c => Lib.indexByte digs.data.toList c = vl c) (by decide +kernel) c
theorem Value_any (c : UInt8) (w : World) : Calls Tryd.prog 9 #[.int .u8 c.toNat] w fun e w' => e = .returned (.int .i64 (vl c)) ∧ w = w' := by
  have H := Lib.hid (fun w => Tryd.strings_IndexByte digs (c.toNat : Int) w)
  have HV := Lib.hid (index_vl c)
  go_enter Tryd.func9, Tryd.ntmps9
  go_wp2_with fail
  refine (H.out _).mono ?_
  rintro e w1 ⟨rfl, rfl⟩
  go_wp2_with fail
  go_ret
  exact ⟨ret_int HV.out, rfl⟩

theorem vl_at {k : Nat} {c : UInt8} (hk : k < 16) (h : hx k = c) : vl c = k := by rw [← h]; exact hx_vl ⟨k, hk⟩
theorem vl_ge (c : UInt8) : -1 ≤ vl c := by
  unfold vl; split
  · omega
  · split <;> omega
theorem vl_none {c : UInt8} (h : ∀ j, j < 16 → hx j ≠ c) : vl c = -1 := by
  have h1 := vl_ge c
  have h2 := vl_lt c
  by_cases h3 : 0 ≤ vl c
  · exact absurd (vl_hx h3) (h _ (by omega))
  · omega
theorem refValue_any (c : UInt8) (w : World) : Calls Tryd.prog 10 #[.int .u8 c.toNat] w fun e w' => e = .returned (.int .i64 (vl c)) ∧ w = w' := by
  go_enter Tryd.func10, Tryd.ntmps10
  go_wp2_with fail
  go_loop [3] (fun i => ∃ k : Nat, k ≤ 16 ∧ i = .int .i64 k ∧ ∀ j, j < k → hx j ≠ c) (fun i => 16 - (intOf i).toNat)
  case atStart => exact ⟨0, Nat.zero_le _, rfl, fun j h => absurd h (Nat.not_lt_zero _)⟩
  case round =>
    obtain ⟨k, hk, rfl, ha⟩ := hrel
    have HA := Lib.hid ha; clear ha
    by_cases hlt : k < 16
    · have hr := run_digs w k (by omega)
      by_cases he : hx k = c
      · have t : (((hx k).toNat : Int) == (c.toNat : Int)) = true := by rw [he]; simp
        have HE := Lib.hid (vl_at hlt he)
        clear he
        go_wp2_with fail
        go_ret
        exact ⟨ret_int HE.out.symm, rfl⟩
      · have t : (((hx k).toNat : Int) == (c.toNat : Int)) = false := by
          rw [beq_eq_false_iff_ne]; intro e; exact he (UInt8.toNat_inj.1 (by omega))
        have HE := Lib.hid he
        clear he
        go_wp2_with fail
        exact ⟨⟨k + 1, by omega, by go_num, fun j hj => by
          by_cases h : j = k
          · rw [h]; exact HE.out
          · exact HA.out j (by omega)⟩, by simp [intOf]; omega⟩
    · obtain rfl : k = 16 := by omega
      have HE := Lib.hid (vl_none HA.out)
      go_wp2_with fail
      go_ret
      exact ⟨ret_int HE.out.symm, rfl⟩

/-- The table of the plain bytes. -/
def tabP : List Int := [0, 4294967294, 4026531839, 2147483647, 0, 0, 0, 0]
theorem gPlain : Tryd.prog.globalNamed "doublet/quote.plain" = some 0 := by kernel_rfl
/-- The table as it lies, and that it lies below. -/
def Env (w : World) : Prop := ∀ j, j < 8 → w.cell? ⟨0, j, none⟩ = some (.int .u32 (tabP.getD j 0))
theorem Env.below {w w' : World} (h : Env w) (hb : Below w.heap.size w w') : Env w' := fun j hj => by
  have hc := h j hj
  rw [hb.cell (World.block_lt_of_cell? _ _ hc)]; exact hc
theorem Env.of {w : World} (h : Lib.TabIs Tryd.prog w "doublet/quote.plain" .u32 tabP) : Env w := fun j hj => h.cell gPlain j hj

theorem plain_bit (c : UInt8) : (bits BinOp.and IntKind.u32 (tabP.getD (c.toNat / 32) 0 / 2 ^ (c.toNat % 32)) 1 == 1) = pl c :=
  all_bytes (p := fun c => (bits BinOp.and IntKind.u32 (tabP.getD (c.toNat / 32) 0 / 2 ^ (c.toNat % 32)) 1 == 1) = pl c) (by decide +kernel) c
theorem Plain_any (c : UInt8) (w : World) (he : Env w) : Calls Tryd.prog 11 #[.int .u8 c.toNat] w fun e w' => e = .returned (.bool (pl c)) ∧ w = w' := by
  have hc := c.toNat_lt
  have h := he (c.toNat / 32) (by omega)
  clear he
  have b1 : 0 ≤ (c.toNat : Int) / 32 := by omega
  have b2 : (c.toNat : Int) / 32 < 8 := by omega
  have HP := Lib.hid (plain_bit c)
  generalize tabP.getD (c.toNat / 32) 0 = T at *
  go_enter Tryd.func11, Tryd.ntmps11
  go_wp2_with fail
  go_ret
  exact ⟨ret_bool HP.out, rfl⟩
end Go.Proofs.YtmlheppkclppfaaDoor.QuoW
