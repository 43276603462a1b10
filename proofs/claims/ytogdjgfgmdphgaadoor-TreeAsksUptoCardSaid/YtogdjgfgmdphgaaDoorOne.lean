/- Walks: may a node be, as the document says it. -/
import Derived.Test.YtogdjgfgmdphgaaDoorLies
namespace Go.Proofs.YtogdjgfgmdphgaaDoor.TreeW
set_option linter.unusedVariables false
open Go.RowKit Go.Proofs.YtogdjgfgmdphgaaDoor.TreeM
/-! ### May a node be -/
set_option maxHeartbeats 4000000 in
theorem one_any (n : Nd) (a : Option Addr) (len cap : Nat) (w : World) :
    Calls Tryd.prog 45 #[NV n (.slice a len cap)] w fun e w' => e = .returned (.bool (okR n len)) ∧ Below w.heap.size w w' := by
  obtain ⟨K, A, B, C, D, L, H⟩ := n
  have hq := SetW.eqSet A B C D 0 0 0 0
  have hb := (Below.refl w.heap.size w).alloc (Nat.le_refl _) (.cells #[.int .i64 K, .int .u64 A, .int .u64 B, .int .u64 C, .int .u64 D, .slice a len cap, .int .i64 L, .int .i64 H] 28)
  have HB := Lib.hid hb; clear hb
  by_cases h1 : K < 1
  · have HV := Lib.hid (show okR ⟨K, A, B, C, D, L, H⟩ len = false by unfold okR; dsimp only; (repeat' split) <;> first | rfl | (exfalso; omega) | (simp <;> omega))
    go_enter Tryd.func45, Tryd.ntmps45
    go_wp2_with fail
    go_ret
    exact ⟨Base.ret_bool (by first | exact HV.out.symm | (rw [HV.out]; simp <;> omega)), HB.out⟩
  · by_cases h2 : 9 < K
    · have HV := Lib.hid (show okR ⟨K, A, B, C, D, L, H⟩ len = false by unfold okR; dsimp only; (repeat' split) <;> first | rfl | (exfalso; omega) | (simp <;> omega))
      go_enter Tryd.func45, Tryd.ntmps45
      go_wp2_with fail
      go_ret
      exact ⟨Base.ret_bool (by first | exact HV.out.symm | (rw [HV.out]; simp <;> omega)), HB.out⟩
    · by_cases h3 : K = 3
      · subst h3
        by_cases h5 : L = 0
        · subst h5
          by_cases h6 : H = 0
          · subst h6
            by_cases h8 : len = 0
            · subst h8
              have HV := Lib.hid (show okR ⟨3, A, B, C, D, 0, 0⟩ 0 = true by unfold okR; dsimp only; (repeat' split) <;> first | rfl | (exfalso; omega) | (simp <;> omega))
              go_enter Tryd.func45, Tryd.ntmps45
              go_wp2_with fail
              go_ret
              exact ⟨Base.ret_bool (by first | exact HV.out.symm | (rw [HV.out]; simp <;> omega)), HB.out⟩
            · have e0N : ((len : Int) == 0) = false := by simp; omega
              have n0N : ((len : Int) != 0) = true := by simp; omega
              have HV := Lib.hid (show okR ⟨3, A, B, C, D, 0, 0⟩ len = false by unfold okR; dsimp only; (repeat' split) <;> first | rfl | (exfalso; omega) | (simp <;> omega))
              go_enter Tryd.func45, Tryd.ntmps45
              go_wp2_with fail
              go_ret
              exact ⟨Base.ret_bool (by first | exact HV.out.symm | (rw [HV.out]; simp <;> omega)), HB.out⟩
          · have e0H : ((H : Int) == 0) = false := by simp; omega
            have n0H : ((H : Int) != 0) = true := by simp; omega
            have HV := Lib.hid (show okR ⟨3, A, B, C, D, 0, H⟩ len = false by unfold okR; dsimp only; (repeat' split) <;> first | rfl | (exfalso; omega) | (simp <;> omega))
            go_enter Tryd.func45, Tryd.ntmps45
            go_wp2_with fail
            go_ret
            exact ⟨Base.ret_bool (by first | exact HV.out.symm | (rw [HV.out]; simp <;> omega)), HB.out⟩
        · have e0L : ((L : Int) == 0) = false := by simp; omega
          have n0L : ((L : Int) != 0) = true := by simp; omega
          have HV := Lib.hid (show okR ⟨3, A, B, C, D, L, H⟩ len = false by unfold okR; dsimp only; (repeat' split) <;> first | rfl | (exfalso; omega) | (simp <;> omega))
          go_enter Tryd.func45, Tryd.ntmps45
          go_wp2_with fail
          go_ret
          exact ⟨Base.ret_bool (by first | exact HV.out.symm | (rw [HV.out]; simp <;> omega)), HB.out⟩
      · have e3K : ((K : Int) == 3) = false := by simp; omega
        have n3K : ((K : Int) != 3) = true := by simp; omega
        by_cases hz : A = 0 ∧ B = 0 ∧ C = 0 ∧ D = 0
        · have HZ := eqZ hz
          have HY := Lib.hid hz; clear hz
          by_cases h4 : K = 9
          · subst h4
            by_cases h8 : len = 1
            · subst h8
              by_cases h10 : L < 0
              · have HV := Lib.hid (show okR ⟨9, A, B, C, D, L, H⟩ 1 = false by unfold okR; dsimp only; rw [if_neg (by have := HY.out; omega)]; (repeat' split) <;> first | rfl | (exfalso; omega) | (simp <;> omega))
                go_enter Tryd.func45, Tryd.ntmps45
                go_wp2_with fail
                go_ret
                exact ⟨Base.ret_bool (by first | exact HV.out.symm | (rw [HV.out]; simp <;> omega)), HB.out⟩
              · by_cases h11 : 1000 < L
                · have HV := Lib.hid (show okR ⟨9, A, B, C, D, L, H⟩ 1 = false by unfold okR; dsimp only; rw [if_neg (by have := HY.out; omega)]; (repeat' split) <;> first | rfl | (exfalso; omega) | (simp <;> omega))
                  go_enter Tryd.func45, Tryd.ntmps45
                  go_wp2_with fail
                  go_ret
                  exact ⟨Base.ret_bool (by first | exact HV.out.symm | (rw [HV.out]; simp <;> omega)), HB.out⟩
                · by_cases h12 : H = -1
                  · subst h12
                    have HV := Lib.hid (show okR ⟨9, A, B, C, D, L, (-1)⟩ 1 = true by unfold okR; dsimp only; rw [if_neg (by have := HY.out; omega)]; (repeat' split) <;> first | rfl | (exfalso; omega) | (simp <;> omega))
                    go_enter Tryd.func45, Tryd.ntmps45
                    go_wp2_with fail
                    go_ret
                    exact ⟨Base.ret_bool (by first | exact HV.out.symm | (rw [HV.out]; simp <;> omega)), HB.out⟩
                  · have em1H : ((H : Int) == -1) = false := by simp; omega
                    have nm1H : ((H : Int) != -1) = true := by simp; omega
                    by_cases h13 : H < L
                    · have HV := Lib.hid (show okR ⟨9, A, B, C, D, L, H⟩ 1 = false by unfold okR; dsimp only; rw [if_neg (by have := HY.out; omega)]; (repeat' split) <;> first | rfl | (exfalso; omega) | (simp <;> omega))
                      go_enter Tryd.func45, Tryd.ntmps45
                      go_wp2_with fail
                      go_ret
                      exact ⟨Base.ret_bool (by first | exact HV.out.symm | (rw [HV.out]; simp <;> omega)), HB.out⟩
                    · by_cases h14 : 1000 < H
                      · have HV := Lib.hid (show okR ⟨9, A, B, C, D, L, H⟩ 1 = false by unfold okR; dsimp only; rw [if_neg (by have := HY.out; omega)]; (repeat' split) <;> first | rfl | (exfalso; omega) | (simp <;> omega))
                        go_enter Tryd.func45, Tryd.ntmps45
                        go_wp2_with fail
                        go_ret
                        exact ⟨Base.ret_bool (by first | exact HV.out.symm | (rw [HV.out]; simp <;> omega)), HB.out⟩
                      · have HV := Lib.hid (show okR ⟨9, A, B, C, D, L, H⟩ 1 = true by unfold okR; dsimp only; rw [if_neg (by have := HY.out; omega)]; (repeat' split) <;> first | rfl | (exfalso; omega) | (simp <;> omega))
                        go_enter Tryd.func45, Tryd.ntmps45
                        go_wp2_with fail
                        go_ret
                        exact ⟨Base.ret_bool (by first | exact HV.out.symm | (rw [HV.out]; simp <;> omega)), HB.out⟩
            · have e1N : ((len : Int) == 1) = false := by simp; omega
              have n1N : ((len : Int) != 1) = true := by simp; omega
              have HV := Lib.hid (show okR ⟨9, A, B, C, D, L, H⟩ len = false by unfold okR; dsimp only; rw [if_neg (by have := HY.out; omega)]; (repeat' split) <;> first | rfl | (exfalso; omega) | (simp <;> omega))
              go_enter Tryd.func45, Tryd.ntmps45
              go_wp2_with fail
              go_ret
              exact ⟨Base.ret_bool (by first | exact HV.out.symm | (rw [HV.out]; simp <;> omega)), HB.out⟩
          · have e9K : ((K : Int) == 9) = false := by simp; omega
            have n9K : ((K : Int) != 9) = true := by simp; omega
            by_cases h5 : L = 0
            · subst h5
              by_cases h6 : H = 0
              · subst h6
                by_cases h7 : K ≤ 3
                · by_cases h8 : len = 0
                  · subst h8
                    have HV := Lib.hid (show okR ⟨K, A, B, C, D, 0, 0⟩ 0 = true by unfold okR; dsimp only; rw [if_neg (by have := HY.out; omega)]; (repeat' split) <;> first | rfl | (exfalso; omega) | (simp <;> omega))
                    go_enter Tryd.func45, Tryd.ntmps45
                    go_wp2_with fail
                    go_ret
                    exact ⟨Base.ret_bool (by first | exact HV.out.symm | (rw [HV.out]; simp <;> omega)), HB.out⟩
                  · have e0N : ((len : Int) == 0) = false := by simp; omega
                    have n0N : ((len : Int) != 0) = true := by simp; omega
                    have HV := Lib.hid (show okR ⟨K, A, B, C, D, 0, 0⟩ len = false by unfold okR; dsimp only; rw [if_neg (by have := HY.out; omega)]; (repeat' split) <;> first | rfl | (exfalso; omega) | (simp <;> omega))
                    go_enter Tryd.func45, Tryd.ntmps45
                    go_wp2_with fail
                    go_ret
                    exact ⟨Base.ret_bool (by first | exact HV.out.symm | (rw [HV.out]; simp <;> omega)), HB.out⟩
                · by_cases h9 : K ≤ 5
                  · by_cases h8 : 2 ≤ len
                    · have HV := Lib.hid (show okR ⟨K, A, B, C, D, 0, 0⟩ len = true by unfold okR; dsimp only; rw [if_neg (by have := HY.out; omega)]; (repeat' split) <;> first | rfl | (exfalso; omega) | (simp <;> omega))
                      go_enter Tryd.func45, Tryd.ntmps45
                      go_wp2_with fail
                      go_ret
                      exact ⟨Base.ret_bool (by first | exact HV.out.symm | (rw [HV.out]; simp <;> omega)), HB.out⟩
                    · have HV := Lib.hid (show okR ⟨K, A, B, C, D, 0, 0⟩ len = false by unfold okR; dsimp only; rw [if_neg (by have := HY.out; omega)]; (repeat' split) <;> first | rfl | (exfalso; omega) | (simp <;> omega))
                      go_enter Tryd.func45, Tryd.ntmps45
                      go_wp2_with fail
                      go_ret
                      exact ⟨Base.ret_bool (by first | exact HV.out.symm | (rw [HV.out]; simp <;> omega)), HB.out⟩
                  · by_cases h8 : len = 1
                    · subst h8
                      have HV := Lib.hid (show okR ⟨K, A, B, C, D, 0, 0⟩ 1 = true by unfold okR; dsimp only; rw [if_neg (by have := HY.out; omega)]; (repeat' split) <;> first | rfl | (exfalso; omega) | (simp <;> omega))
                      go_enter Tryd.func45, Tryd.ntmps45
                      go_wp2_with fail
                      go_ret
                      exact ⟨Base.ret_bool (by first | exact HV.out.symm | (rw [HV.out]; simp <;> omega)), HB.out⟩
                    · have e1N : ((len : Int) == 1) = false := by simp; omega
                      have n1N : ((len : Int) != 1) = true := by simp; omega
                      have HV := Lib.hid (show okR ⟨K, A, B, C, D, 0, 0⟩ len = false by unfold okR; dsimp only; rw [if_neg (by have := HY.out; omega)]; (repeat' split) <;> first | rfl | (exfalso; omega) | (simp <;> omega))
                      go_enter Tryd.func45, Tryd.ntmps45
                      go_wp2_with fail
                      go_ret
                      exact ⟨Base.ret_bool (by first | exact HV.out.symm | (rw [HV.out]; simp <;> omega)), HB.out⟩
              · have e0H : ((H : Int) == 0) = false := by simp; omega
                have n0H : ((H : Int) != 0) = true := by simp; omega
                have HV := Lib.hid (show okR ⟨K, A, B, C, D, 0, H⟩ len = false by unfold okR; dsimp only; rw [if_neg (by have := HY.out; omega)]; (repeat' split) <;> first | rfl | (exfalso; omega) | (simp <;> omega))
                go_enter Tryd.func45, Tryd.ntmps45
                go_wp2_with fail
                go_ret
                exact ⟨Base.ret_bool (by first | exact HV.out.symm | (rw [HV.out]; simp <;> omega)), HB.out⟩
            · have e0L : ((L : Int) == 0) = false := by simp; omega
              have n0L : ((L : Int) != 0) = true := by simp; omega
              have HV := Lib.hid (show okR ⟨K, A, B, C, D, L, H⟩ len = false by unfold okR; dsimp only; rw [if_neg (by have := HY.out; omega)]; (repeat' split) <;> first | rfl | (exfalso; omega) | (simp <;> omega))
              go_enter Tryd.func45, Tryd.ntmps45
              go_wp2_with fail
              go_ret
              exact ⟨Base.ret_bool (by first | exact HV.out.symm | (rw [HV.out]; simp <;> omega)), HB.out⟩
        · have HZ := neZ hz
          have HV := Lib.hid (show okR ⟨K, A, B, C, D, L, H⟩ len = false by unfold okR; dsimp only; (repeat' split) <;> first | rfl | (exfalso; omega) | (simp <;> omega))
          go_enter Tryd.func45, Tryd.ntmps45
          go_wp2_with fail
          go_ret
          exact ⟨Base.ret_bool (by first | exact HV.out.symm | (rw [HV.out]; simp <;> omega)), HB.out⟩

end Go.Proofs.YtogdjgfgmdphgaaDoor.TreeW
