/- Walk of layer 3 (quote): coded. -/
import Derived.Test.YtmlheppkclppfaaDoorQuoWalk2
import Derived.Below
import Derived.Lib.SlBytesRow
namespace Go.Proofs.YtmlheppkclppfaaDoor.QuoW
set_option linter.unusedVariables false
open Go.RowKit Go.Proofs.YtmlheppkclppfaaDoor.QuoM
open Go.Proofs.YtmlheppkclppfaaDoor.Base (ret_bool ret_int ret_str)

/-- The byte that two digits say. -/
def two (h l : UInt8) : UInt8 := UInt8.ofNat (16 * vl h + vl l).toNat
/-- What coded answers. -/
def cdV : List UInt8 → UInt8
  | a :: x :: h :: l :: _ => if a = 92 ∧ x = 120 ∧ 0 ≤ vl h ∧ 0 ≤ vl l then two h l else 0
  | _ => 0
def cdB : List UInt8 → Bool
  | a :: x :: h :: l :: _ => if a = 92 ∧ x = 120 ∧ 0 ≤ vl h ∧ 0 ≤ vl l then !pl (two h l) else false
  | _ => false
theorem ret_cb {a b : Int} {c d : Bool} (h : a = b) (h2 : c = d) : Ending.returned (.tuple #[.int .u8 a, .bool c]) = .returned (.tuple #[.int .u8 b, .bool d]) := by rw [h, h2]

theorem list4 {s : ByteArray} (h : 4 ≤ s.size) : ∃ r, s.data.toList = s[0] :: s[1] :: s[2] :: s[3] :: r := by
  have hl : s.data.toList.length = s.size := by simp
  refine ⟨s.data.toList.drop 4, ?_⟩
  have e : s.data.toList = s.data.toList.take 4 ++ s.data.toList.drop 4 := (List.take_append_drop 4 _).symm
  conv => lhs; rw [e]
  rw [List.take_succ_eq_append_getElem (by omega), List.take_succ_eq_append_getElem (by omega), List.take_succ_eq_append_getElem (by omega), List.take_succ_eq_append_getElem (by omega)]
  rfl
theorem ext2 {s : ByteArray} (h : 4 ≤ s.size) : (s.extract 0 2).toList = [s[0], s[1]] := by
  obtain ⟨r, hr⟩ := list4 h
  rw [ByteArray.toList_eq, Lib.extract_data, hr]; rfl
theorem cd_short {s : ByteArray} (h : s.size < 4) : cdV s.data.toList = 0 ∧ cdB s.data.toList = false := by
  have hl : s.data.toList.length = s.size := by simp
  unfold cdV cdB
  constructor
  · split
    · rename_i heq; rw [heq] at hl; simp only [List.length_cons] at hl; omega
    · rfl
  · split
    · rename_i heq; rw [heq] at hl; simp only [List.length_cons] at hl; omega
    · rfl
theorem cd_not {s : ByteArray} (h : 4 ≤ s.size) (h2 : ¬ (s[0] = 92 ∧ s[1] = 120 ∧ 0 ≤ vl s[2] ∧ 0 ≤ vl s[3])) : cdV s.data.toList = 0 ∧ cdB s.data.toList = false := by
  obtain ⟨r, hr⟩ := list4 h
  rw [hr]
  exact ⟨if_neg h2, if_neg h2⟩
theorem cd_yes {s : ByteArray} (h : 4 ≤ s.size) (h2 : s[0] = 92 ∧ s[1] = 120 ∧ 0 ≤ vl s[2] ∧ 0 ≤ vl s[3]) : cdV s.data.toList = two s[2] s[3] ∧ cdB s.data.toList = !pl (two s[2] s[3]) := by
  obtain ⟨r, hr⟩ := list4 h
  rw [hr]
  exact ⟨if_pos h2, if_pos h2⟩
theorem two_nat {h l : UInt8} (a : 0 ≤ vl h) (b : 0 ≤ vl l) : ((two h l).toNat : Int) = 16 * vl h + vl l := by
  have h1 := vl_lt h; have h2 := vl_lt l
  unfold two
  rw [UInt8.toNat_ofNat']; omega
theorem Value_q (c : UInt8) (w : World) (n : Nat) : Calls Tryd.prog 9 #[.int .u8 c.toNat] (w.drewN n) fun e w' => e = .returned (.int .i64 (vl c)) ∧ w' = w.drewN n :=
  (Value_any c _).mono fun _ _ ⟨h1, h2⟩ => ⟨h1, h2.symm⟩

theorem below_drewN {B : Nat} {a w : World} (h : Below B a w) (n : Nat) : Below B a (w.drewN n) := ⟨h.os, h.tape, h.output, h.size, h.block⟩
theorem Env.drewN {w : World} (h : Env w) (n : Nat) : Env (w.drewN n) := h
theorem coded_any (s : ByteArray) (w : World) (he : Env w) (hs : s.size ≤ maxLen) : Calls Tryd.prog 20 #[.string s] w fun e w' =>
    e = .returned (.tuple #[.int .u8 (cdV s.data.toList).toNat, .bool (cdB s.data.toList)]) ∧ Below w.heap.size w w' := by
  unfold maxLen at hs
  have HE := Lib.hid he; clear he
  by_cases h4 : s.size < 4
  · have H := Lib.hid (cd_short h4)
    go_enter Tryd.func20, Tryd.ntmps20
    go_wp2_with fail
    go_ret2
    exact ⟨ret_cb (by rw [H.out.1]; rfl) H.out.2.symm, Below.refl _ _⟩
  · have h4' : 4 ≤ s.size := Nat.le_of_not_lt h4
    clear h4
    have e2 := ext2 h4'
    by_cases h2 : s[0] = 92 ∧ s[1] = 120
    · have t : ((s.extract 0 2).toList == [92, 120]) = true := by rw [e2, h2.1, h2.2]; rfl
      have H2 := Lib.hid h2
      clear e2 h2
      have i2 : (2 : Int) < s.size := by omega
      have i3 : (3 : Int) < s.size := by omega
      have l2 := vl_lt s[2]; have l3 := vl_lt s[3]; have g2 := vl_ge s[2]; have g3 := vl_ge s[3]
      by_cases n2 : vl s[2] < 0
      · have H := Lib.hid (cd_not h4' (fun h => by omega))
        go_enter Tryd.func20, Tryd.ntmps20
        go_wp2_with fail
        go_quiet ((go_at_call 9; exact Calls.quiet_of_same (Value_q _ _ _)))
        go_wp2_with fail
        go_ret2
        exact ⟨ret_cb (by rw [H.out.1]; rfl) H.out.2.symm, below_drewN (Below.refl _ _) _⟩
      · by_cases n3 : vl s[3] < 0
        · have H := Lib.hid (cd_not h4' (fun h => by omega))
          go_enter Tryd.func20, Tryd.ntmps20
          go_wp2_with fail
          go_quiet ((go_at_call 9; exact Calls.quiet_of_same (Value_q _ _ _)))
          go_wp2_with fail
          go_ret2
          exact ⟨ret_cb (by rw [H.out.1]; rfl) H.out.2.symm, below_drewN (Below.refl _ _) _⟩
        · have H := Lib.hid (cd_yes h4' ⟨H2.out.1, H2.out.2, by omega, by omega⟩)
          have HN := Lib.hid (two_nat (h := s[2]) (l := s[3]) (by omega) (by omega))
          go_enter Tryd.func20, Tryd.ntmps20
          go_wp2_with fail
          go_quiet ((go_at_call 9; exact Calls.quiet_of_same (Value_q _ _ _)))
          go_wp2_with fail
          rw [← HN.out]
          refine (Plain_any _ _ (HE.out.drewN _)).mono ?_
          rintro e w1 ⟨rfl, rfl⟩
          go_wp2_with fail
          go_ret2
          exact ⟨ret_cb (by rw [H.out.1]) H.out.2.symm, below_drewN (Below.refl _ _) _⟩
    · have t : ((s.extract 0 2).toList == [92, 120]) = false := by
        rw [e2, beq_eq_false_iff_ne]; intro e; simp only [List.cons.injEq, and_true] at e; exact h2 e
      have H := Lib.hid (cd_not h4' (fun h => h2 ⟨h.1, h.2.1⟩))
      clear e2 h2
      go_enter Tryd.func20, Tryd.ntmps20
      go_wp2_with fail
      go_ret2
      exact ⟨ret_cb (by rw [H.out.1]; rfl) H.out.2.symm, Below.refl _ _⟩
end Go.Proofs.YtmlheppkclppfaaDoor.QuoW
