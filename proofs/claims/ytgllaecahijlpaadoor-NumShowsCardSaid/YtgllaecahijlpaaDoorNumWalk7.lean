/- Walks of the document's own Add and Mul. -/
import Derived.Test.YtgllaecahijlpaaDoorNumWalk6
namespace Go.Proofs.YtgllaecahijlpaaDoor.NumW
open Go.RowKit Go.Proofs.YtgllaecahijlpaaDoor.NumM
open Go.Proofs.YtgllaecahijlpaaDoor.Base (ISl wf64)

theorem sumN_take_le (l : List Int) (k : Nat) : sumN (l.take k) ≤ sumN l := by
  have h : sumN l = sumN (l.take k) + sumN (l.drop k) := by rw [← sumN_append, List.take_append_drop]
  have := sumN_nonneg (l.drop k)
  omega
theorem addS_eq {top : Int} (h : 0 ≤ top) (l : List Int) : addS top l = min (sumN l) top := by unfold addS; rw [if_neg (by omega)]
theorem addS_over {top : Int} (h : 0 ≤ top) {l : List Int} {k : Nat} (hk : top < sumN (l.take k)) : addS top l = top := by
  rw [addS_eq h]; have := sumN_take_le l k; omega
theorem addS_under {top : Int} (h : 0 ≤ top) {l : List Int} (hk : sumN l ≤ top) : addS top l = sumN l := by
  rw [addS_eq h]; omega
theorem sumN_succ {l : List Int} {k : Nat} (h : k < l.length) : sumN (l.take (k + 1)) = sumN (l.take k) + max l[k] 0 := by
  rw [take_succ' h, sumN_append, sumN_one]

theorem refAdd_row (top : Int) (l : List Int) (b o cap : Nat) (w : World) (ht : 0 ≤ top) (ht2 : top ≤ 9223372036854775807) (hlen : l.length ≤ maxLen)
    (hcell : ∀ i (h : i < l.length), w.cell? ⟨b, o + i, none⟩ = some (.int .i64 l[i])) (hwf : ∀ x ∈ l, (Lit.int .i64 x).wf = true) :
    Calls Tryd.prog 16 #[.int .i64 top, .slice (some ⟨b, o, none⟩) l.length cap] w fun e w' => e = .returned (.int .i64 (addS top l)) ∧ w = w' := by
  unfold maxLen at hlen
  have HC := Lib.hid hcell; clear hcell
  have HW := Lib.hid hwf; clear hwf
  go_enter Tryd.func16, Tryd.ntmps16
  go_wp2_with fail
  go_loop [5, 6] (fun n i => ∃ k : Nat, k ≤ l.length ∧ i = .int .i64 k ∧ n = .int .i64 (sumN (l.take k)) ∧ sumN (l.take k) ≤ top) (fun _ i => l.length - (intOf i).toNat)
  case atStart => exact ⟨0, Nat.zero_le _, rfl, rfl, ht⟩
  case round =>
    obtain ⟨k, hk, rfl, rfl, hle⟩ := hrel
    by_cases hlt : k < l.length
    · have hc := HC.out k hlt
      have hb := wf64 (HW.out _ (List.getElem_mem hlt))
      have HS := Lib.hid (sumN_succ hlt)
      have hn := sumN_nonneg (l.take k)
      generalize hy : l[k] = y at *
      generalize ha : sumN (l.take k) = a at *
      clear ha hy
      by_cases hneg : y < 0
      · go_wp2_with fail
        exact ⟨⟨k + 1, by omega, by go_num, by rw [HS.out]; congr 1; omega, by rw [HS.out]; omega⟩, by simp [intOf]; omega⟩
      · by_cases hov : top - a < y
        · go_wp2_with fail
          go_ret
          exact ⟨ret_int (addS_over ht (k := k + 1) (by rw [HS.out]; omega)).symm, rfl⟩
        · go_wp2_with fail
          exact ⟨⟨k + 1, by omega, by go_num, by rw [HS.out]; congr 1; omega, by rw [HS.out]; omega⟩, by simp [intOf]; omega⟩
    · have HT := Lib.hid (List.take_of_length_le (l := l) (i := k) (by omega))
      go_wp2_with fail
      go_ret
      exact ⟨ret_int (by rw [HT.out] at hle ⊢; exact (addS_under ht hle).symm), rfl⟩
theorem refAdd_nil (ad : Option Addr) (top : Int) (w : World) (ht : 0 ≤ top) :
    Calls Tryd.prog 16 #[.int .i64 top, .slice ad 0 0] w fun e w' => e = .returned (.int .i64 (addS top [])) ∧ w = w' := by
  have HS := Lib.hid (addS_nil ht)
  go_enter Tryd.func16, Tryd.ntmps16
  go_wp2_with fail
  go_loop [5, 6] (fun n i => i = .int .i64 0 ∧ n = .int .i64 0) (fun _ _ => 0)
  case atStart => exact ⟨rfl, rfl⟩
  case round =>
    obtain ⟨rfl, rfl⟩ := hrel
    go_wp2_with fail
    go_ret
    exact ⟨ret_int HS.out.symm, rfl⟩
theorem refAdd_any (top : Int) (v : Value) (l : List Int) (w : World) (hv : ISl .i64 w v l) (ht2 : top ≤ 9223372036854775807) :
    Calls Tryd.prog 16 #[.int .i64 top, v] w fun e w' => e = .returned (.int .i64 (addS top l)) ∧ w = w' := by
  by_cases hn : top < 0
  · have HS := Lib.hid (addS_neg hn l)
    clear hv
    go_enter Tryd.func16, Tryd.ntmps16
    go_wp2_with fail
    go_ret
    exact ⟨ret_int HS.out.symm, rfl⟩
  · rcases hv with ⟨ad, rfl, rfl⟩ | ⟨b, o, cap, rfl, hcap, hm, hc, hwf⟩
    · exact refAdd_nil ad top w (by omega)
    · exact refAdd_row top l b o cap w (by omega) ht2 (by omega) hc hwf

/-! ### Mul -/
theorem prodN_zero {l : List Int} {k : Nat} (hk : k < l.length) (h : l[k] ≤ 0) : prodN l = 0 := by
  have e : prodN l = prodN (l.take k) * prodN (l.drop k) := by rw [← prodN_append, List.take_append_drop]
  rw [e, List.drop_eq_getElem_cons hk]
  simp only [prodN]
  rw [show max l[k] 0 = 0 by omega, Int.zero_mul, Int.mul_zero]
theorem prodN_pos {l : List Int} (h : ∀ x ∈ l, 1 ≤ x) : 1 ≤ prodN l := by
  induction l with
  | nil => exact Int.le_refl _
  | cons x l ih =>
    simp only [prodN]
    have h1 := h x (by simp)
    have h2 := ih (fun y hy => h y (by simp [hy]))
    have := le_mul_of_one_le (a := max x 0) (by omega) h2
    omega
theorem prodN_take_le {l : List Int} (h : ∀ x ∈ l, 1 ≤ x) (k : Nat) : prodN (l.take k) ≤ prodN l := by
  have e : prodN l = prodN (l.take k) * prodN (l.drop k) := by rw [← prodN_append, List.take_append_drop]
  rw [e]
  exact le_mul_of_one_le (prodN_nonneg _) (prodN_pos fun x hx => h x (List.mem_of_mem_drop hx))
theorem prodN_succ {l : List Int} {k : Nat} (h : k < l.length) : prodN (l.take (k + 1)) = prodN (l.take k) * max l[k] 0 := by
  rw [take_succ' h, prodN_append, prodN_one]
theorem mulS_over {top : Int} (h : 0 ≤ top) {l : List Int} (hp : ∀ x ∈ l, 1 ≤ x) {k : Nat} (hk : top < prodN (l.take k)) : mulS top l = top := by
  rw [mulS_eq h]; have := prodN_take_le hp k; omega
theorem all_pos_of {l : List Int} {k : Nat} (hk : l.length ≤ k) (h : ∀ i (hi : i < l.length), i < k → 1 ≤ l[i]) : ∀ x ∈ l, 1 ≤ x := by
  intro x hx
  obtain ⟨i, hi, rfl⟩ := List.mem_iff_getElem.1 hx
  exact h i hi (by omega)

theorem refMul_row (top : Int) (l : List Int) (b o cap : Nat) (w : World) (ht : 0 ≤ top) (ht2 : top ≤ 9223372036854775807) (hlen : l.length ≤ maxLen)
    (hcell : ∀ i (h : i < l.length), w.cell? ⟨b, o + i, none⟩ = some (.int .i64 l[i])) (hwf : ∀ x ∈ l, (Lit.int .i64 x).wf = true) :
    Calls Tryd.prog 17 #[.int .i64 top, .slice (some ⟨b, o, none⟩) l.length cap] w fun e w' => e = .returned (.int .i64 (mulS top l)) ∧ w = w' := by
  unfold maxLen at hlen
  have HC := Lib.hid hcell; clear hcell
  have HW := Lib.hid hwf; clear hwf
  go_enter Tryd.func17, Tryd.ntmps17
  go_wp2_with fail
  go_loop [5] (fun i => ∃ k : Nat, k ≤ l.length ∧ i = .int .i64 k ∧ ∀ i (hi : i < l.length), i < k → 1 ≤ l[i]) (fun i => l.length - (intOf i).toNat)
  case atStart => exact ⟨0, Nat.zero_le _, rfl, fun i hi h => by omega⟩
  case round =>
    obtain ⟨k, hk, rfl, hall⟩ := hrel
    have HA := Lib.hid hall; clear hall
    by_cases hlt : k < l.length
    · have hc := HC.out k hlt
      have hb := wf64 (HW.out _ (List.getElem_mem hlt))
      have HZ := Lib.hid (fun h => prodN_zero (l := l) hlt h)
      have HS : Hid (1 ≤ l[k] → ∀ i (hi : i < l.length), i < k + 1 → 1 ≤ l[i]) := fun h i hi hik => by
        by_cases e : i = k
        · subst e; exact h
        · exact HA.out i hi (by omega)
      generalize hy : l[k] = y at *
      clear hy
      by_cases hneg : y ≤ 0
      · go_wp2_with fail
        go_ret
        exact ⟨ret_int (by rw [mulS_eq ht, HZ.out hneg]; omega), rfl⟩
      · go_wp2_with fail
        exact ⟨⟨k + 1, by omega, by go_num, HS.out (by omega)⟩, by simp [intOf]; omega⟩
    · have HP := Lib.hid (all_pos_of (show l.length ≤ k by omega) HA.out)
      clear HA
      go_wp2_with fail
      go_loop [6, 7] (fun n i => ∃ k : Nat, k ≤ l.length ∧ i = .int .i64 k ∧ n = .int .i64 (prodN (l.take k)) ∧ (1 ≤ k → prodN (l.take k) ≤ top)) (fun _ i => l.length - (intOf i).toNat)
      case atStart => exact ⟨0, Nat.zero_le _, rfl, rfl, fun h => by omega⟩
      case round =>
        obtain ⟨j, hj, rfl, rfl, hle⟩ := hrel
        have hn1 : 1 ≤ prodN (l.take j) := prodN_pos fun x hx => HP.out x (List.mem_of_mem_take hx)
        have hn2 : prodN (l.take j) ≤ 9223372036854775807 := by
          by_cases h0 : j = 0
          · subst h0; simp [prodN]
          · have := hle (by omega); omega
        by_cases hlt2 : j < l.length
        · have hc := HC.out j hlt2
          have hb := wf64 (HW.out _ (List.getElem_mem hlt2))
          have hp := HP.out _ (List.getElem_mem hlt2)
          have HS := Lib.hid (prodN_succ hlt2)
          have HO := Lib.hid (fun h => mulS_over ht HP.out (k := j + 1) h)
          generalize hy : l[j] = y at *
          generalize ha : prodN (l.take j) = a at *
          clear ha hy hle
          have hmx : max y 0 = y := by omega
          have HM := Lib.hid hmx; clear hmx
          by_cases hov : top / y < a
          · have hg := (div_lt_iff' (show 0 < y by omega)).1 hov
            have HG := Lib.hid hg; clear hg
            go_wp2_with fail
            go_ret
            exact ⟨ret_int (HO.out (by rw [HS.out, HM.out]; exact HG.out)).symm, rfl⟩
          · have hg : a * y ≤ top := by
              rcases Int.lt_or_le top (a * y) with h | h
              · exact absurd ((div_lt_iff' (show 0 < y by omega)).2 h) hov
              · exact h
            have hg0 : 0 ≤ a * y := Int.mul_nonneg (by omega) (by omega)
            go_wp2_with fail
            exact ⟨⟨j + 1, by omega, by go_num, by rw [HS.out, HM.out], fun _ => by rw [HS.out, HM.out]; exact hg⟩, by simp [intOf]; omega⟩
        · have HT := Lib.hid (List.take_of_length_le (l := l) (i := j) (by omega))
          generalize ha : prodN (l.take j) = a at *
          rw [HT.out] at ha
          have HA := Lib.hid ha; clear ha
          clear hle
          by_cases hov : top < a
          · go_wp2_with fail
            go_ret
            exact ⟨ret_int (by rw [mulS_eq ht, HA.out]; omega), rfl⟩
          · go_wp2_with fail
            go_ret
            exact ⟨ret_int (by rw [mulS_eq ht, HA.out]; omega), rfl⟩
theorem refMul_nil (ad : Option Addr) (top : Int) (w : World) (ht : 0 ≤ top) :
    Calls Tryd.prog 17 #[.int .i64 top, .slice ad 0 0] w fun e w' => e = .returned (.int .i64 (mulS top [])) ∧ w = w' := by
  have HS := Lib.hid (mulS_nil ht)
  go_enter Tryd.func17, Tryd.ntmps17
  go_wp2_with fail
  go_loop [5] (fun i => i = .int .i64 0) (fun _ => 0)
  case atStart => rfl
  case round =>
    obtain rfl := hrel
    go_wp2_with fail
    go_loop [6, 7] (fun n i => i = .int .i64 0 ∧ n = .int .i64 1) (fun _ _ => 0)
    case atStart => exact ⟨rfl, rfl⟩
    case round =>
      obtain ⟨rfl, rfl⟩ := hrel
      by_cases hov : top < 1
      · go_wp2_with fail
        go_ret
        exact ⟨ret_int (by rw [HS.out]; omega), rfl⟩
      · go_wp2_with fail
        go_ret
        exact ⟨ret_int (by rw [HS.out]; omega), rfl⟩
theorem refMul_any (top : Int) (v : Value) (l : List Int) (w : World) (hv : ISl .i64 w v l) (ht2 : top ≤ 9223372036854775807) :
    Calls Tryd.prog 17 #[.int .i64 top, v] w fun e w' => e = .returned (.int .i64 (mulS top l)) ∧ w = w' := by
  by_cases hn : top < 0
  · have HS := Lib.hid (mulS_neg hn l)
    clear hv
    go_enter Tryd.func17, Tryd.ntmps17
    go_wp2_with fail
    go_ret
    exact ⟨ret_int HS.out.symm, rfl⟩
  · rcases hv with ⟨ad, rfl, rfl⟩ | ⟨b, o, cap, rfl, hcap, hm, hc, hwf⟩
    · exact refMul_nil ad top w (by omega)
    · exact refMul_row top l b o cap w (by omega) ht2 (by omega) hc hwf
end Go.Proofs.YtgllaecahijlpaaDoor.NumW
