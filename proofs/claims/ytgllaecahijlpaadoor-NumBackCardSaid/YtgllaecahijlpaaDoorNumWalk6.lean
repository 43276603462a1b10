/- Walks of Add and Mul, in both texts. -/
import Derived.Test.YtgllaecahijlpaaDoorNumWalk5
import Derived.Test.YtgllaecahijlpaaDoorNumSumM
namespace Go.Proofs.YtgllaecahijlpaaDoor.NumW
open Go.RowKit Go.Proofs.YtgllaecahijlpaaDoor.NumM
open Go.Proofs.YtgllaecahijlpaaDoor.Base (ISl wf64)

theorem Add1_any (a b top : Int) (x : Addr) (w : World) (hx : w.cell? x = some (.int .i64 top)) (ha : 0 ≤ a) (hb : 0 ≤ b) (ha2 : a ≤ top) (hb2 : b ≤ 9223372036854775807) (ht : top ≤ 9223372036854775807) :
    Calls Tryd.prog 24 #[.int .i64 a, .int .i64 b, .pointer (some x)] w fun e w' => e = .returned (.int .i64 (if top - a < b then top else a + b)) ∧ w = w' := by
  by_cases h : top - a < b
  · rw [if_pos h]
    go_enter Tryd.func24, Tryd.ntmps24
    go_wp2_with fail
    go_ret
    exact ⟨rfl, rfl⟩
  · rw [if_neg h]
    go_enter Tryd.func24, Tryd.ntmps24
    go_wp2_with fail
    go_ret
    exact ⟨rfl, rfl⟩
theorem Mul1_top (a b top : Int) (x : Addr) (w : World) (hx : w.cell? x = some (.int .i64 top)) (ha : 0 ≤ a) (hb : 1 ≤ b) (ha2 : a ≤ top) (hb2 : b ≤ 9223372036854775807) (ht : top ≤ 9223372036854775807) (h : top / b < a) :
    Calls Tryd.prog 25 #[.int .i64 a, .int .i64 b, .pointer (some x)] w fun e w' => e = .returned (.int .i64 top) ∧ w = w' := by
  have h0 : 0 ≤ top := by omega
  go_enter Tryd.func25, Tryd.ntmps25
  go_wp2_with fail
  go_ret
  exact ⟨rfl, rfl⟩
theorem Mul1_go (a b top : Int) (x : Addr) (w : World) (hx : w.cell? x = some (.int .i64 top)) (ha : 0 ≤ a) (hb : 0 ≤ b) (ha2 : a ≤ top) (hb2 : b ≤ 9223372036854775807) (ht : top ≤ 9223372036854775807) (h : 0 < b → a ≤ top / b) (hm : a * b ≤ top) (hm0 : 0 ≤ a * b) :
    Calls Tryd.prog 25 #[.int .i64 a, .int .i64 b, .pointer (some x)] w fun e w' => e = .returned (.int .i64 (a * b)) ∧ w = w' := by
  have h0 : 0 ≤ top := by omega
  by_cases hb1 : 0 < b
  · have h1 := h hb1
    clear h
    go_enter Tryd.func25, Tryd.ntmps25
    go_wp2_with fail
    go_ret
    exact ⟨rfl, rfl⟩
  · have hb3 : b ≤ 0 := by omega
    clear h
    go_enter Tryd.func25, Tryd.ntmps25
    go_wp2_with fail
    go_ret
    exact ⟨rfl, rfl⟩

theorem gatherAdd_row (first top : Int) (S : List Int → Int) (l : List Int) (b o cap : Nat) (x : Addr) (w : World) (ht : 0 ≤ top) (ht2 : top ≤ 9223372036854775807) (hlen : l.length ≤ maxLen)
    (hcell : ∀ i (h : i < l.length), w.cell? ⟨b, o + i, none⟩ = some (.int .i64 l[i])) (hS : S [] = min first top)
    (hf : ∀ k (h : k < l.length), Calls Tryd.prog 24 #[.int .i64 (S (l.take k)), .int .i64 (max l[k] 0), .pointer (some x)] w fun e w' => e = .returned (.int .i64 (S (l.take (k + 1)))) ∧ w = w') :
    Calls Tryd.prog 23 #[.int .i64 top, .int .i64 first, .slice (some ⟨b, o, none⟩) l.length cap, .func (Fn.func 24) #[] #[.pointer (some x)]] w fun e w' => e = .returned (.int .i64 (S l)) ∧ w = w' := by
  unfold maxLen at hlen
  have HC := Lib.hid hcell; clear hcell
  have HF := Lib.hid hf; clear hf
  have HS := Lib.hid hS; clear hS
  go_enter Tryd.func23, Tryd.ntmps23
  go_wp2_with fail
  go_loop [9, 19] (fun a i => ∃ k : Nat, k ≤ l.length ∧ i = .int .i64 k ∧ a = .int .i64 (S (l.take k))) (fun _ i => l.length - (intOf i).toNat)
  case atStart => exact ⟨0, Nat.zero_le _, rfl, by rw [List.take_zero, HS.out]⟩
  case round =>
    obtain ⟨k, hk, rfl, rfl⟩ := hrel
    by_cases hlt : k < l.length
    · have hc := HC.out k hlt
      have HK := Lib.hid (HF.out k hlt)
      generalize hy : l[k] = y at *
      have HY := Lib.hid hy; clear hy
      generalize ha : S (l.take k) = a at *
      have HA := Lib.hid ha; clear ha
      go_wp2_with fail
      refine HK.out.mono ?_
      rintro e w' ⟨rfl, rfl⟩
      go_wp2_with fail
      exact ⟨⟨k + 1, by omega, by go_num, rfl⟩, by simp [intOf]; omega⟩
    · go_wp2_with fail
      go_ret
      exact ⟨ret_int (by rw [List.take_of_length_le (by omega)]), rfl⟩
theorem gatherMul_row (first top : Int) (S : List Int → Int) (l : List Int) (b o cap : Nat) (x : Addr) (w : World) (ht : 0 ≤ top) (ht2 : top ≤ 9223372036854775807) (hlen : l.length ≤ maxLen)
    (hcell : ∀ i (h : i < l.length), w.cell? ⟨b, o + i, none⟩ = some (.int .i64 l[i])) (hS : S [] = min first top)
    (hf : ∀ k (h : k < l.length), Calls Tryd.prog 25 #[.int .i64 (S (l.take k)), .int .i64 (max l[k] 0), .pointer (some x)] w fun e w' => e = .returned (.int .i64 (S (l.take (k + 1)))) ∧ w = w') :
    Calls Tryd.prog 23 #[.int .i64 top, .int .i64 first, .slice (some ⟨b, o, none⟩) l.length cap, .func (Fn.func 25) #[] #[.pointer (some x)]] w fun e w' => e = .returned (.int .i64 (S l)) ∧ w = w' := by
  unfold maxLen at hlen
  have HC := Lib.hid hcell; clear hcell
  have HF := Lib.hid hf; clear hf
  have HS := Lib.hid hS; clear hS
  go_enter Tryd.func23, Tryd.ntmps23
  go_wp2_with fail
  go_loop [9, 19] (fun a i => ∃ k : Nat, k ≤ l.length ∧ i = .int .i64 k ∧ a = .int .i64 (S (l.take k))) (fun _ i => l.length - (intOf i).toNat)
  case atStart => exact ⟨0, Nat.zero_le _, rfl, by rw [List.take_zero, HS.out]⟩
  case round =>
    obtain ⟨k, hk, rfl, rfl⟩ := hrel
    by_cases hlt : k < l.length
    · have hc := HC.out k hlt
      have HK := Lib.hid (HF.out k hlt)
      generalize hy : l[k] = y at *
      have HY := Lib.hid hy; clear hy
      generalize ha : S (l.take k) = a at *
      have HA := Lib.hid ha; clear ha
      go_wp2_with fail
      refine HK.out.mono ?_
      rintro e w' ⟨rfl, rfl⟩
      go_wp2_with fail
      exact ⟨⟨k + 1, by omega, by go_num, rfl⟩, by simp [intOf]; omega⟩
    · go_wp2_with fail
      go_ret
      exact ⟨ret_int (by rw [List.take_of_length_le (by omega)]), rfl⟩
theorem gather_nil (ad : Option Addr) (f : Nat) (first top : Int) (S : List Int → Int) (x : Addr) (w : World) (ht : 0 ≤ top) (hS : S [] = min first top) :
    Calls Tryd.prog 23 #[.int .i64 top, .int .i64 first, .slice ad 0 0, .func (Fn.func f) #[] #[.pointer (some x)]] w fun e w' => e = .returned (.int .i64 (S [])) ∧ w = w' := by
  have HS := Lib.hid hS; clear hS
  go_enter Tryd.func23, Tryd.ntmps23
  go_wp2_with fail
  go_loop [9, 19] (fun a i => i = .int .i64 0 ∧ a = .int .i64 (S [])) (fun _ _ => 0)
  case atStart => exact ⟨rfl, by rw [HS.out]⟩
  case round =>
    obtain ⟨rfl, rfl⟩ := hrel
    go_wp2_with fail
    go_ret
    exact ⟨rfl, rfl⟩
theorem gather_neg (f : Nat) (first top : Int) (v : Value) (x : Addr) (w : World) (ht : top < 0) :
    Calls Tryd.prog 23 #[.int .i64 top, .int .i64 first, v, .func (Fn.func f) #[] #[.pointer (some x)]] w fun e w' => e = .returned (.int .i64 0) ∧ w = w' := by
  go_enter Tryd.func23, Tryd.ntmps23
  go_wp2_with fail
  go_ret
  exact ⟨rfl, rfl⟩

theorem take_succ' {l : List Int} {k : Nat} (h : k < l.length) : l.take (k + 1) = l.take k ++ [l[k]] := by
  rw [List.take_succ_eq_append_getElem h]
theorem addS_neg {top : Int} (h : top < 0) (l : List Int) : addS top l = 0 := if_pos h
theorem mulS_neg {top : Int} (h : top < 0) (l : List Int) : mulS top l = 0 := if_pos h

theorem Add_any (top : Int) (v : Value) (l : List Int) (w : World) (hv : ISl .i64 w v l) (ht2 : top ≤ 9223372036854775807) :
    Calls Tryd.prog 14 #[.int .i64 top, v] w fun e w' => e = .returned (.int .i64 (addS top l)) ∧ Below w.heap.size w w' := by
  have HV := Lib.hid hv; clear hv
  go_enter Tryd.func14, Tryd.ntmps14
  go_wp2_with fail
  have hbel : Below w.heap.size w (w.alloc (.cells #[.int .i64 top] 3)) := (Below.refl _ _).alloc (Nat.le_refl _) _
  have hx : (w.alloc (.cells #[.int .i64 top] 3)).cell? ⟨w.heap.size, 0, none⟩ = some (.int .i64 top) := World.cell?_alloc_new w _ _ 0
  have key : Calls Tryd.prog 23 #[.int .i64 top, .int .i64 0, v, .func (Fn.func 24) #[] #[.pointer (some ⟨w.heap.size, 0, none⟩)]] (w.alloc (.cells #[.int .i64 top] 3)) fun e w' => e = .returned (.int .i64 (addS top l)) ∧ w.alloc (.cells #[.int .i64 top] 3) = w' := by
    by_cases hn : top < 0
    · rw [addS_neg hn]; exact gather_neg _ _ _ _ _ _ hn
    · rcases HV.out with ⟨ad, rfl, rfl⟩ | ⟨b, o, cap, rfl, hcap, hm, hc, hwf⟩
      · exact gather_nil ad _ 0 top (addS top) _ _ (by omega) (by rw [addS_nil (by omega)]; omega)
      · have hc' := Base.ints_below hc hbel
        refine gatherAdd_row 0 top (addS top) l b o cap _ _ (by omega) ht2 (by omega) hc' (by rw [addS_nil (by omega)]; omega) (fun k hk => ?_)
        have hr := addS_range (show 0 ≤ top by omega) (l.take k)
        have hb := wf64 (hwf _ (List.getElem_mem hk))
        refine (Add1_any _ _ top _ _ hx hr.1 (by omega) hr.2 (by omega) ht2).mono ?_
        rintro e w' ⟨rfl, rfl⟩
        refine ⟨ret_int ?_, rfl⟩
        rw [take_succ' hk]
        split
        · rw [addS_snoc_top (by omega) _ _ (by assumption)]
        · rw [addS_snoc_go (by omega) _ _ (by omega)]
  refine key.mono ?_
  rintro e w' ⟨rfl, rfl⟩
  go_wp2_with fail
  go_ret
  exact ⟨rfl, hbel⟩

theorem Mul_any (top : Int) (v : Value) (l : List Int) (w : World) (hv : ISl .i64 w v l) (ht2 : top ≤ 9223372036854775807) :
    Calls Tryd.prog 15 #[.int .i64 top, v] w fun e w' => e = .returned (.int .i64 (mulS top l)) ∧ Below w.heap.size w w' := by
  have HV := Lib.hid hv; clear hv
  go_enter Tryd.func15, Tryd.ntmps15
  go_wp2_with fail
  have hbel : Below w.heap.size w (w.alloc (.cells #[.int .i64 top] 3)) := (Below.refl _ _).alloc (Nat.le_refl _) _
  have hx : (w.alloc (.cells #[.int .i64 top] 3)).cell? ⟨w.heap.size, 0, none⟩ = some (.int .i64 top) := World.cell?_alloc_new w _ _ 0
  have key : Calls Tryd.prog 23 #[.int .i64 top, .int .i64 1, v, .func (Fn.func 25) #[] #[.pointer (some ⟨w.heap.size, 0, none⟩)]] (w.alloc (.cells #[.int .i64 top] 3)) fun e w' => e = .returned (.int .i64 (mulS top l)) ∧ w.alloc (.cells #[.int .i64 top] 3) = w' := by
    by_cases hn : top < 0
    · rw [mulS_neg hn]; exact gather_neg _ _ _ _ _ _ hn
    · rcases HV.out with ⟨ad, rfl, rfl⟩ | ⟨b, o, cap, rfl, hcap, hm, hc, hwf⟩
      · exact gather_nil ad _ 1 top (mulS top) _ _ (by omega) (mulS_nil (by omega))
      · have hc' := Base.ints_below hc hbel
        refine gatherMul_row 1 top (mulS top) l b o cap _ _ (by omega) ht2 (by omega) hc' (mulS_nil (by omega)) (fun k hk => ?_)
        have hr := mulS_range (show 0 ≤ top by omega) (l.take k)
        have hb := wf64 (hwf _ (List.getElem_mem hk))
        rw [take_succ' hk]
        by_cases hgo : 0 < max l[k] 0 ∧ top / max l[k] 0 < mulS top (l.take k)
        · rw [mulS_snoc_top (by omega) _ _ hgo.1 hgo.2]
          exact Mul1_top _ _ top _ _ hx hr.1 (by omega) hr.2 (by omega) ht2 hgo.2
        · obtain ⟨e1, e2⟩ := mulS_snoc_go (show 0 ≤ top by omega) (l.take k) l[k] (fun h => by
            rcases Int.lt_or_le (top / max l[k] 0) (mulS top (l.take k)) with h2 | h2
            · exact absurd ⟨h, h2⟩ hgo
            · exact h2)
          rw [e1]
          exact Mul1_go _ _ top _ _ hx hr.1 (by omega) hr.2 (by omega) ht2 (fun h => by
            rcases Int.lt_or_le (top / max l[k] 0) (mulS top (l.take k)) with h2 | h2
            · exact absurd ⟨h, h2⟩ hgo
            · exact h2) e2 (Int.mul_nonneg hr.1 (by omega))
  refine key.mono ?_
  rintro e w' ⟨rfl, rfl⟩
  go_wp2_with fail
  go_ret
  exact ⟨rfl, hbel⟩
end Go.Proofs.YtgllaecahijlpaaDoor.NumW
