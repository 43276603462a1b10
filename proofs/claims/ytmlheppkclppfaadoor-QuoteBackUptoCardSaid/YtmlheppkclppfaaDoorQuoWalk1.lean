/- Walks of layer 3 (quote): Digit, Plain, in both texts; Value in the document's. -/
import Derived.Test.YtmlheppkclppfaaDoorProg
import Derived.Test.YtmlheppkclppfaaDoorQuoteMath
import Derived.Test.YtmlheppkclppfaaDoorBase
import Derived.WalkKit
import Derived.WalkLawsBesides
import Derived.WalkSpells
import Derived.LoopTactic
import Derived.Deep.QuietTactic
import Derived.BigQuiet
import Derived.Lib.Hide
import Derived.Lib.LaidTab
import Derived.Outline
namespace Go.Proofs.YtmlheppkclppfaaDoor.QuoW
set_option linter.unusedVariables false
open Go.RowKit Go.Proofs.YtmlheppkclppfaaDoor.QuoM
open Go.Proofs.YtmlheppkclppfaaDoor.Base (ret_bool ret_int ret_str)

/-- What Digit answers. -/
def dg (n : Int) : Int := if 0 ≤ n ∧ n ≤ 15 then (hx n.toNat).toNat else 0
theorem dg_out {n : Int} (h : n < 0 ∨ 15 < n) : dg n = 0 := if_neg (by omega)
theorem dg_in {k : Nat} (h : k ≤ 15) : dg k = ((hx k).toNat : Int) := by unfold dg; rw [if_pos (by omega)]; rfl
def digs : ByteArray := { data := #[48, 49, 50, 51, 52, 53, 54, 55, 56, 57, 97, 98, 99, 100, 101, 102] }
theorem digs_at : ∀ k : Fin 16, digs[k.val]'k.isLt = hx k.val := by decide
theorem run_digs (w : World) (k : Nat) (h : k ≤ 15) : (Instr.index 9 (.string { data := #[48, 49, 50, 51, 52, 53, 54, 55, 56, 57, 97, 98, 99, 100, 101, 102] }) (.int .i64 (k : Int))).run Tryd.prog w = .ok (.int .u8 ((hx k).toNat : Int)) w := by
  rcases (by omega : k = 0 ∨ k = 1 ∨ k = 2 ∨ k = 3 ∨ k = 4 ∨ k = 5 ∨ k = 6 ∨ k = 7 ∨ k = 8 ∨ k = 9 ∨ k = 10 ∨ k = 11 ∨ k = 12 ∨ k = 13 ∨ k = 14 ∨ k = 15) with h | h | h | h | h | h | h | h | h | h | h | h | h | h | h | h <;> subst h <;> kernel_rfl

theorem Digit_any (n : Int) (w : World) (h0 : -9223372036854775808 ≤ n) (h1 : n ≤ 9223372036854775807) : Calls Tryd.prog 7 #[.int .i64 n] w fun e w' => e = .returned (.int .u8 (dg n)) ∧ w = w' := by
  by_cases ha : n < 0
  · have HD := Lib.hid (dg_out (n := n) (.inl ha))
    go_enter Tryd.func7, Tryd.ntmps7
    go_wp2_with fail
    go_ret
    exact ⟨ret_int HD.out.symm, rfl⟩
  · by_cases hb : 15 < n
    · have HD := Lib.hid (dg_out (n := n) (.inr hb))
      have t : decide (16 ≤ n) = true := decide_eq_true (by omega)
      go_enter Tryd.func7, Tryd.ntmps7
      go_wp2_with fail
      go_ret
      exact ⟨ret_int HD.out.symm, rfl⟩
    · obtain ⟨k, rfl⟩ : ∃ k : Nat, n = k := ⟨n.toNat, by omega⟩
      have hk : k ≤ 15 := by omega
      have HD := Lib.hid (dg_in hk)
      have hr := run_digs w k hk
      go_enter Tryd.func7, Tryd.ntmps7
      go_wp2_with fail
      go_ret
      exact ⟨ret_int HD.out.symm, rfl⟩
theorem refDigit_any (n : Int) (w : World) (h0 : -9223372036854775808 ≤ n) (h1 : n ≤ 9223372036854775807) : Calls Tryd.prog 8 #[.int .i64 n] w fun e w' => e = .returned (.int .u8 (dg n)) ∧ w = w' := by
  by_cases ha : n < 0
  · have HD := Lib.hid (dg_out (n := n) (.inl ha))
    go_enter Tryd.func8, Tryd.ntmps8
    go_wp2_with fail
    go_ret
    exact ⟨ret_int HD.out.symm, rfl⟩
  · by_cases hb : 15 < n
    · have HD := Lib.hid (dg_out (n := n) (.inr hb))
      go_enter Tryd.func8, Tryd.ntmps8
      go_wp2_with fail
      go_ret
      exact ⟨ret_int HD.out.symm, rfl⟩
    · obtain ⟨k, rfl⟩ : ∃ k : Nat, n = k := ⟨n.toNat, by omega⟩
      have hk : k ≤ 15 := by omega
      have HD := Lib.hid (dg_in hk)
      have hr := run_digs w k hk
      go_enter Tryd.func8, Tryd.ntmps8
      go_wp2_with fail
      go_ret
      exact ⟨ret_int HD.out.symm, rfl⟩

theorem refPlain_any (c : UInt8) (w : World) : Calls Tryd.prog 12 #[.int .u8 c.toNat] w fun e w' => e = .returned (.bool (pl c)) ∧ w = w' := by
  have hd : pl c = (decide (33 ≤ c.toNat) && (decide (c.toNat ≤ 126) && decide (c.toNat ≠ 92))) := rfl
  have HD := Lib.hid hd; clear hd
  by_cases h1 : 33 ≤ c.toNat
  · by_cases h2 : c.toNat ≤ 126
    · by_cases h3 : c.toNat = 92
      · have t : ((c.toNat : Int) != 92) = false := by rw [h3]; rfl
        have H3 := Lib.hid h3; clear h3
        go_enter Tryd.func12, Tryd.ntmps12
        go_wp2_with fail
        go_ret
        exact ⟨ret_bool (by rw [HD.out]; simp [H3.out]), rfl⟩
      · have t : ((c.toNat : Int) != 92) = true := by rw [bne_iff_ne]; omega
        go_enter Tryd.func12, Tryd.ntmps12
        go_wp2_with fail
        go_ret
        exact ⟨ret_bool (by rw [HD.out]; simp [h1, h2, h3]), rfl⟩
    · go_enter Tryd.func12, Tryd.ntmps12
      go_wp2_with fail
      go_ret
      exact ⟨ret_bool (by rw [HD.out]; simp [h2]), rfl⟩
  · go_enter Tryd.func12, Tryd.ntmps12
    go_wp2_with fail
    go_ret
    exact ⟨ret_bool (by rw [HD.out]; simp [h1]), rfl⟩

end Go.Proofs.YtmlheppkclppfaaDoor.QuoW
