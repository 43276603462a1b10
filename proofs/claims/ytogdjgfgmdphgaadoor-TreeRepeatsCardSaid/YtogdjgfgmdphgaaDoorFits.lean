/- Walks: fits, with the table of kids. -/
import Derived.Test.YtogdjgfgmdphgaaDoorLies
namespace Go.Proofs.YtogdjgfgmdphgaaDoor.TreeW
set_option linter.unusedVariables false
open Go.RowKit Go.Proofs.YtogdjgfgmdphgaaDoor.TreeM
/-- The table of kids: the fewest and the most of each kind. -/
def kmin (k : Nat) : Nat := if k ≤ 3 then 0 else if k ≤ 5 then 2 else 1
def kmax (k : Nat) : Nat := if k ≤ 3 then 0 else if k ≤ 5 then 4096 else 1
/-- The listed table, cell by cell. -/
def Env (W : World) : Prop := ∀ k, 1 ≤ k → k ≤ 9 → W.cell? ⟨0, k * 2, none⟩ = some (.int .i64 (kmin k : Int)) ∧ W.cell? ⟨0, k * 2 + 1, none⟩ = some (.int .i64 (kmax k : Int))
theorem Env.lt {W : World} (h : Env W) : 0 < W.heap.size := World.block_lt_of_cell? _ _ (h 1 (by decide) (by decide)).1
theorem Env.below {n₀ : Nat} {A B : World} (h : Env A) (hg : 0 < n₀) (hb : Below n₀ A B) : Env B := fun k h1 h9 =>
  ⟨(hb.cell (p := ⟨_, k * 2, none⟩) hg).trans (h k h1 h9).1, (hb.cell (p := ⟨_, k * 2 + 1, none⟩) hg).trans (h k h1 h9).2⟩
theorem Env.grow {A B : World} (h : Env A) (hb : Below A.heap.size A B) : Env B := h.below h.lt hb
set_option maxHeartbeats 4000000 in
theorem fits_any (n : Nd) (a : Option Addr) (len cap : Nat) (w : World) (he : Env w) :
    Calls Tryd.prog 33 #[NV n (.slice a len cap)] w fun e w' => e = .returned (.bool (okF n len)) ∧ Below w.heap.size w w' := by
  obtain ⟨K, A, B, C, D, L, H⟩ := n
  have hq := SetW.eqSet A B C D 0 0 0 0
  have hb := (Below.refl w.heap.size w).alloc (Nat.le_refl _) (.cells #[.int .i64 K, .int .u64 A, .int .u64 B, .int .u64 C, .int .u64 D, .slice a len cap, .int .i64 L, .int .i64 H] 28)
  have HE := Lib.hid (he.grow hb)
  have HB := Lib.hid hb; clear hb he
  by_cases h1 : K < 1
  · have HV := Lib.hid (show okF ⟨K, A, B, C, D, L, H⟩ len = false by unfold okF okR; dsimp only; rw [if_pos (.inl h1)]; rfl)
    go_enter Tryd.func33, Tryd.ntmps33
    go_wp2_with fail
    go_ret
    exact ⟨Base.ret_bool HV.out.symm, HB.out⟩
  by_cases h2 : 9 < K
  · have HV := Lib.hid (show okF ⟨K, A, B, C, D, L, H⟩ len = false by unfold okF okR; dsimp only; rw [if_pos (.inr (.inl h2))]; rfl)
    go_enter Tryd.func33, Tryd.ntmps33
    go_wp2_with fail
    go_ret
    exact ⟨Base.ret_bool HV.out.symm, HB.out⟩
  obtain ⟨k, rfl⟩ : ∃ k : Nat, K = k := ⟨K.toNat, by omega⟩
  have hk1 : 1 ≤ k := by omega
  have hk9 : k ≤ 9 := by omega
  obtain ⟨t0, t1⟩ := HE.out k hk1 hk9
  have HKM := Lib.hid (show (k ≤ 3 ∧ kmin k = 0 ∧ kmax k = 0) ∨ (4 ≤ k ∧ k ≤ 5 ∧ kmin k = 2 ∧ kmax k = 4096) ∨ (6 ≤ k ∧ kmin k = 1 ∧ kmax k = 1) by unfold kmin kmax; split <;> (try split) <;> omega)
  by_cases h3 : len < kmin k
  · have d3 : decide (len < kmin k) = true := by simpa using h3
    have HV := Lib.hid (show okF ⟨(k : Int), A, B, C, D, L, H⟩ len = false by unfold okF okR; dsimp only; have km := HKM.out; (repeat' split) <;> first | rfl | (exfalso; omega) | (simp <;> omega))
    go_enter Tryd.func33, Tryd.ntmps33
    go_wp2_with fail
    go_ret
    exact ⟨Base.ret_bool (by first | exact HV.out.symm | (rw [HV.out]; simp <;> omega)), HB.out⟩
  · have d3 : decide (len < kmin k) = false := by simpa using h3
    by_cases h3b : kmax k < len
    · have d3b : decide (kmax k < len) = true := by simpa using h3b
      have HV := Lib.hid (show okF ⟨(k : Int), A, B, C, D, L, H⟩ len = false by unfold okF okR; dsimp only; have km := HKM.out; (repeat' split) <;> first | rfl | (exfalso; omega) | (simp <;> omega))
      go_enter Tryd.func33, Tryd.ntmps33
      go_wp2_with fail
      go_ret
      exact ⟨Base.ret_bool (by first | exact HV.out.symm | (rw [HV.out]; simp <;> omega)), HB.out⟩
    · have d3b : decide (kmax k < len) = false := by simpa using h3b
      by_cases h3c : k = 3
      · have e3K : ((k : Int) == 3) = true := by simp; omega
        have n3K : ((k : Int) != 3) = false := by simp; omega
        have e9K : ((k : Int) == 9) = false := by simp; omega
        have n9K : ((k : Int) != 9) = true := by simp; omega
        have H3 := Lib.hid h3c; clear h3c
        by_cases h5 : L = 0
        · subst h5
          by_cases h6 : H = 0
          · subst h6
            have HV := Lib.hid (show okF ⟨(k : Int), A, B, C, D, 0, 0⟩ len = true by unfold okF okR; dsimp only; have km := HKM.out; have h3c := H3.out; (repeat' split) <;> first | rfl | (exfalso; omega) | (simp <;> omega))
            go_enter Tryd.func33, Tryd.ntmps33
            go_wp2_with fail
            go_ret
            exact ⟨Base.ret_bool (by first | exact HV.out.symm | (rw [HV.out]; simp <;> omega)), HB.out⟩
          · have e0H : ((H : Int) == 0) = false := by simp; omega
            have n0H : ((H : Int) != 0) = true := by simp; omega
            have HV := Lib.hid (show okF ⟨(k : Int), A, B, C, D, 0, H⟩ len = false by unfold okF okR; dsimp only; have km := HKM.out; have h3c := H3.out; (repeat' split) <;> first | rfl | (exfalso; omega) | (simp <;> omega))
            go_enter Tryd.func33, Tryd.ntmps33
            go_wp2_with fail
            go_ret
            exact ⟨Base.ret_bool (by first | exact HV.out.symm | (rw [HV.out]; simp <;> omega)), HB.out⟩
        · have e0L : ((L : Int) == 0) = false := by simp; omega
          have n0L : ((L : Int) != 0) = true := by simp; omega
          have HV := Lib.hid (show okF ⟨(k : Int), A, B, C, D, L, H⟩ len = false by unfold okF okR; dsimp only; have km := HKM.out; have h3c := H3.out; (repeat' split) <;> first | rfl | (exfalso; omega) | (simp <;> omega))
          go_enter Tryd.func33, Tryd.ntmps33
          go_wp2_with fail
          go_ret
          exact ⟨Base.ret_bool (by first | exact HV.out.symm | (rw [HV.out]; simp <;> omega)), HB.out⟩
      · have e3K : ((k : Int) == 3) = false := by simp; omega
        have n3K : ((k : Int) != 3) = true := by simp; omega
        by_cases hz : A = 0 ∧ B = 0 ∧ C = 0 ∧ D = 0
        · have HZ := eqZ hz
          have HY := Lib.hid hz; clear hz
          by_cases h4 : k = 9
          · have e9K : ((k : Int) == 9) = true := by simp; omega
            have n9K : ((k : Int) != 9) = false := by simp; omega
            have H9 := Lib.hid h4; clear h4
            by_cases h10 : L < 0
            · have HV := Lib.hid (show okF ⟨(k : Int), A, B, C, D, L, H⟩ len = false by unfold okF okR; dsimp only; have km := HKM.out; have h4 := H9.out; rw [if_neg (by have := HY.out; omega)]; (repeat' split) <;> first | rfl | (exfalso; omega) | (simp <;> omega))
              go_enter Tryd.func33, Tryd.ntmps33
              go_wp2_with fail
              go_ret
              exact ⟨Base.ret_bool (by first | exact HV.out.symm | (rw [HV.out]; simp <;> omega)), HB.out⟩
            · by_cases h11 : 1000 < L
              · have HV := Lib.hid (show okF ⟨(k : Int), A, B, C, D, L, H⟩ len = false by unfold okF okR; dsimp only; have km := HKM.out; have h4 := H9.out; rw [if_neg (by have := HY.out; omega)]; (repeat' split) <;> first | rfl | (exfalso; omega) | (simp <;> omega))
                go_enter Tryd.func33, Tryd.ntmps33
                go_wp2_with fail
                go_ret
                exact ⟨Base.ret_bool (by first | exact HV.out.symm | (rw [HV.out]; simp <;> omega)), HB.out⟩
              · by_cases h12 : H = -1
                · subst h12
                  have HV := Lib.hid (show okF ⟨(k : Int), A, B, C, D, L, (-1)⟩ len = true by unfold okF okR; dsimp only; have km := HKM.out; have h4 := H9.out; rw [if_neg (by have := HY.out; omega)]; (repeat' split) <;> first | rfl | (exfalso; omega) | (simp <;> omega))
                  go_enter Tryd.func33, Tryd.ntmps33
                  go_wp2_with fail
                  go_ret
                  exact ⟨Base.ret_bool (by first | exact HV.out.symm | (rw [HV.out]; simp <;> omega)), HB.out⟩
                · have em1H : ((H : Int) == -1) = false := by simp; omega
                  have nm1H : ((H : Int) != -1) = true := by simp; omega
                  by_cases h13 : L ≤ H
                  · by_cases h14 : 1000 < H
                    · have HV := Lib.hid (show okF ⟨(k : Int), A, B, C, D, L, H⟩ len = false by unfold okF okR; dsimp only; have km := HKM.out; have h4 := H9.out; rw [if_neg (by have := HY.out; omega)]; (repeat' split) <;> first | rfl | (exfalso; omega) | (simp <;> omega))
                      go_enter Tryd.func33, Tryd.ntmps33
                      go_wp2_with fail
                      go_ret
                      exact ⟨Base.ret_bool (by first | exact HV.out.symm | (rw [HV.out]; simp <;> omega)), HB.out⟩
                    · have HV := Lib.hid (show okF ⟨(k : Int), A, B, C, D, L, H⟩ len = true by unfold okF okR; dsimp only; have km := HKM.out; have h4 := H9.out; rw [if_neg (by have := HY.out; omega)]; (repeat' split) <;> first | rfl | (exfalso; omega) | (simp <;> omega))
                      go_enter Tryd.func33, Tryd.ntmps33
                      go_wp2_with fail
                      go_ret
                      exact ⟨Base.ret_bool (by first | exact HV.out.symm | (rw [HV.out]; simp <;> omega)), HB.out⟩
                  · have HV := Lib.hid (show okF ⟨(k : Int), A, B, C, D, L, H⟩ len = false by unfold okF okR; dsimp only; have km := HKM.out; have h4 := H9.out; rw [if_neg (by have := HY.out; omega)]; (repeat' split) <;> first | rfl | (exfalso; omega) | (simp <;> omega))
                    go_enter Tryd.func33, Tryd.ntmps33
                    go_wp2_with fail
                    go_ret
                    exact ⟨Base.ret_bool (by first | exact HV.out.symm | (rw [HV.out]; simp <;> omega)), HB.out⟩
          · have e9K : ((k : Int) == 9) = false := by simp; omega
            have n9K : ((k : Int) != 9) = true := by simp; omega
            by_cases h5 : L = 0
            · subst h5
              by_cases h6 : H = 0
              · subst h6
                have HV := Lib.hid (show okF ⟨(k : Int), A, B, C, D, 0, 0⟩ len = true by unfold okF okR; dsimp only; have km := HKM.out; rw [if_neg (by have := HY.out; omega)]; (repeat' split) <;> first | rfl | (exfalso; omega) | (simp <;> omega))
                go_enter Tryd.func33, Tryd.ntmps33
                go_wp2_with fail
                go_ret
                exact ⟨Base.ret_bool (by first | exact HV.out.symm | (rw [HV.out]; simp <;> omega)), HB.out⟩
              · have e0H : ((H : Int) == 0) = false := by simp; omega
                have n0H : ((H : Int) != 0) = true := by simp; omega
                have HV := Lib.hid (show okF ⟨(k : Int), A, B, C, D, 0, H⟩ len = false by unfold okF okR; dsimp only; have km := HKM.out; rw [if_neg (by have := HY.out; omega)]; (repeat' split) <;> first | rfl | (exfalso; omega) | (simp <;> omega))
                go_enter Tryd.func33, Tryd.ntmps33
                go_wp2_with fail
                go_ret
                exact ⟨Base.ret_bool (by first | exact HV.out.symm | (rw [HV.out]; simp <;> omega)), HB.out⟩
            · have e0L : ((L : Int) == 0) = false := by simp; omega
              have n0L : ((L : Int) != 0) = true := by simp; omega
              have HV := Lib.hid (show okF ⟨(k : Int), A, B, C, D, L, H⟩ len = false by unfold okF okR; dsimp only; have km := HKM.out; rw [if_neg (by have := HY.out; omega)]; (repeat' split) <;> first | rfl | (exfalso; omega) | (simp <;> omega))
              go_enter Tryd.func33, Tryd.ntmps33
              go_wp2_with fail
              go_ret
              exact ⟨Base.ret_bool (by first | exact HV.out.symm | (rw [HV.out]; simp <;> omega)), HB.out⟩
        · have HZ := neZ hz
          have HV := Lib.hid (show okF ⟨(k : Int), A, B, C, D, L, H⟩ len = false by unfold okF okR; dsimp only; have km := HKM.out; (repeat' split) <;> first | rfl | (exfalso; omega) | (simp <;> omega))
          go_enter Tryd.func33, Tryd.ntmps33
          go_wp2_with fail
          go_ret
          exact ⟨Base.ret_bool (by first | exact HV.out.symm | (rw [HV.out]; simp <;> omega)), HB.out⟩
end Go.Proofs.YtogdjgfgmdphgaaDoor.TreeW
