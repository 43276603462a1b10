/- Walks of the document's own answers for layer 1: Digit, Read. -/
import Derived.Test.YtgllaecahijlpaaDoorNumWalk2
namespace Go.Proofs.YtgllaecahijlpaaDoor.NumW
open Go.RowKit Go.Proofs.YtgllaecahijlpaaDoor.NumM

theorem Digit_any (c : UInt8) (w : World) : Calls Tryd.prog 20 #[.int .u8 c.toNat] w fun e w' => e = .returned (.bool (isDig c)) ∧ w = w' := by
  have hd : isDig c = (decide (48 ≤ c.toNat) && decide (c.toNat ≤ 57)) := rfl
  have HD := Lib.hid hd; clear hd
  by_cases h1 : 48 ≤ c.toNat
  · go_enter Tryd.func20, Tryd.ntmps20
    go_wp2
    go_ret
    exact ⟨ret_bool (by rw [HD.out]; simp [h1]; omega), rfl⟩
  · go_enter Tryd.func20, Tryd.ntmps20
    go_wp2
    go_ret
    exact ⟨ret_bool (by rw [HD.out]; simp [h1]), rfl⟩

theorem wf_not_all {l : List UInt8} (h : l.all isDig = false) : wf l = false := by
  unfold wf; rw [h, Bool.and_false]
theorem refRead_notdig {l : List UInt8} {most : Int} {k : Nat} (h : (l.take k).all isDig = false) : readE l most = 3 ∧ readV l most = 0 :=
  readE_form (wf_not_all (all_false h))
theorem val_le_take (l : List UInt8) (h : l.all isDig = true) (k : Nat) (hk : k ≤ 18) : val (l.take k) ≤ 1000000000000000000 := by
  have h1 : (l.take k).all isDig = true := by
    rw [List.all_eq_true] at h ⊢; exact fun x hx => h x (List.mem_of_mem_take hx)
  have h2 := val_lt _ h1
  have h3 : 10 ^ (l.take k).length ≤ 10 ^ 18 := Nat.pow_le_pow_right (by decide) (Nat.le_trans (List.length_take_le _ _) hk)
  have h4 : 10 ^ 18 = 1000000000000000000 := by decide
  rw [h4] at h3
  exact Nat.le_of_lt (Nat.lt_of_lt_of_le h2 h3)
theorem val_le_19 (l : List UInt8) (h : l.all isDig = true) (hk : l.length ≤ 19) : val l ≤ 9999999999999999999 := by
  have h2 := val_lt _ h
  have h3 : 10 ^ l.length ≤ 10 ^ 19 := Nat.pow_le_pow_right (by decide) hk
  have h4 : 10 ^ 19 = 10000000000000000000 := by decide
  rw [h4] at h3
  exact Nat.le_of_lt_succ (Nat.lt_of_lt_of_le h2 h3)
theorem val_big20 (l : List UInt8) (h : wf l = true) (hk : 19 < l.length) (most : Int) (hm : most ≤ 9223372036854775807) : valOk l most = false := by
  have h1 := val_big l h (by omega)
  have h2 : 10 ^ 19 ≤ 10 ^ (l.length - 1) := Nat.pow_le_pow_right (by decide) (by omega)
  have h4 : 10 ^ 19 = 10000000000000000000 := by decide
  rw [h4] at h2
  have h5 : 10000000000000000000 ≤ val l := Nat.le_trans h2 h1
  unfold valOk; rw [decide_eq_false (p := (val l : Int) ≤ most) (by omega), Bool.and_false]

theorem refRead_any (s : ByteArray) (most : Int) (w : World) (hs : s.size ≤ maxLen) (hlo : -9223372036854775808 ≤ most) (hhi : most ≤ 9223372036854775807) :
    Calls Tryd.prog 8 #[.string s, .int .i64 most] w fun e w' => e = .returned (.tuple #[.int .i64 (readV s.data.toList most), .int .i64 (readE s.data.toList most)]) ∧ w = w' := by
  have HM := Lib.hid hhi
  have hs0 := hs
  unfold maxLen at hs
  go_enter Tryd.func8, Tryd.ntmps8
  go_wp2_with fail
  go_loop [6] (fun i => ∃ k : Nat, k ≤ s.size ∧ i = .int .i64 k ∧ (s.data.toList.take k).all isDig = true) (fun i => s.size - (intOf i).toNat)
  case atStart => exact ⟨0, Nat.zero_le _, rfl, rfl⟩
  case round =>
    obtain ⟨k, hk, rfl, ha⟩ := hrel
    have HA := Lib.hid ha; clear ha
    by_cases hlt : k < s.size
    · have HS := Lib.hid (all_take_succ s k hlt)
      cases hd : isDig s[k]
      · have HD := Lib.hid hd
        go_wp2_with (go_at_call 20; refine (Digit_any _ _).mono ?_; rintro e w' ⟨rfl, rfl⟩)
        go_ret2
        have h := refRead_notdig (l := s.data.toList) (most := most) (k := k + 1) (by rw [HS.out, HA.out, HD.out]; rfl)
        exact ⟨ret_ve h.2.symm h.1.symm, rfl⟩
      · have HD := Lib.hid hd
        go_wp2_with (go_at_call 20; refine (Digit_any _ _).mono ?_; rintro e w' ⟨rfl, rfl⟩)
        exact ⟨⟨k + 1, by omega, by go_num, by rw [HS.out, HA.out, HD.out]; rfl⟩, by simp [intOf]; omega⟩
    · have hal := HA.out
      rw [List.take_of_length_le (by simp; omega)] at hal
      by_cases h0 : s.data.toList = []
      · have h := Lib.hid (readE_form (most := most) (show wf s.data.toList = false by rw [h0]; rfl))
        have h1 : s.toList = [] := by rw [ByteArray.toList_eq]; exact h0
        clear h0 hal
        go_wp2_with fail
        go_ret2
        exact ⟨ret_ve h.out.2.symm h.out.1.symm, rfl⟩
      · have he : s.toList.isEmpty = false := by rw [ByteArray.toList_eq]; simpa using h0
        have hn : ¬ s.toList = [] := by rw [ByteArray.toList_eq]; exact h0
        have hp : 0 < s.size := by
          have := List.length_pos_iff.2 h0
          simpa using this
        have HH := Lib.hid (head_of s hp)
        by_cases h48 : s[0].toNat = 48
        · have h3 : ((s[0].toNat : Int) == 48) = true := by rw [h48]; rfl
          have h4 : s[0] = 48 := UInt8.toNat_inj.1 h48
          by_cases h1 : 1 < s.size
          · have h := Lib.hid (readE_form (most := most) (wf_lead (l := s.data.toList) (by simpa using h1) (by rw [HH.out, h4])))
            clear h4 h48 h0 hal
            go_wp2_with fail
            go_ret2
            exact ⟨ret_ve h.out.2.symm h.out.1.symm, rfl⟩
          · have HW := Lib.hid ((wf_of h0 (by simp; omega)).trans hal)
            have HL := Lib.hid hal
            have h19 : s.size ≤ 19 := by omega
            clear h4 h48 h0 hal
            go_wp2_with fail
            go_loop [7, 8] (fun v i => ∃ k : Nat, k ≤ s.size ∧ i = .int .i64 k ∧ v = .int .u64 (val (s.data.toList.take k))) (fun _ i => s.size - (intOf i).toNat)
            case atStart => exact ⟨0, Nat.zero_le _, rfl, rfl⟩
            case round =>
              obtain ⟨k, hk, rfl, rfl⟩ := hrel
              by_cases hlt : k < s.size
              · have HS := Lib.hid (val_take_succ s k hlt)
                obtain ⟨hd1, hd2⟩ := dig_at HL.out k hlt
                have hb := val_le_take _ HL.out k (by omega)
                generalize hv' : val (s.data.toList.take k) = v at *
                have HV := Lib.hid hv'; clear hv'
                go_wp2_with fail
                refine ⟨⟨k + 1, by omega, by go_num, ?_⟩, by simp [intOf]; omega⟩
                rw [HS.out]; congr 1; omega
              · have HT := Lib.hid (show s.data.toList.take k = s.data.toList from List.take_of_length_le (by simp; omega))
                have HB := Lib.hid (val_le_19 _ HL.out (by simp; omega))
                generalize hv' : val (s.data.toList.take k) = v at *
                rw [HT.out] at hv'
                have hb : v ≤ 9999999999999999999 := by rw [← hv']; exact HB.out
                have HV := Lib.hid hv'; clear hv' HB
                by_cases hneg : most < 0
                · go_wp2_with fail
                  go_ret2
                  have h := readE_range (most := most) HW.out (valOk_neg hneg)
                  exact ⟨ret_ve h.2.symm h.1.symm, rfl⟩
                · by_cases hle : (v : Int) ≤ most
                  · go_wp2_with fail
                    go_ret2
                    have h := readE_ok (most := most) HW.out (valOk_yes (by omega) (by rw [HV.out]; exact hle))
                    exact ⟨ret_ve (by rw [h.2, HV.out]) h.1.symm, rfl⟩
                  · go_wp2_with fail
                    go_ret2
                    have h := readE_range (most := most) HW.out (valOk_ex s.size (by rw [List.take_of_length_le (by simp), HV.out]; omega))
                    exact ⟨ret_ve h.2.symm h.1.symm, rfl⟩
        · have h3 : ((s[0].toNat : Int) == 48) = false := by rw [beq_eq_false_iff_ne]; omega
          have HW := Lib.hid ((wf_of h0 (by rw [HH.out]; rintro ⟨_, e⟩; exact h48 (by rw [e]; rfl))).trans hal)
          have HL := Lib.hid hal
          clear h48 h0 hal
          by_cases h19 : s.size ≤ 19
          · go_wp2_with fail
            go_loop [7, 8] (fun v i => ∃ k : Nat, k ≤ s.size ∧ i = .int .i64 k ∧ v = .int .u64 (val (s.data.toList.take k))) (fun _ i => s.size - (intOf i).toNat)
            case atStart => exact ⟨0, Nat.zero_le _, rfl, rfl⟩
            case round =>
              obtain ⟨k, hk, rfl, rfl⟩ := hrel
              by_cases hlt : k < s.size
              · have HS := Lib.hid (val_take_succ s k hlt)
                obtain ⟨hd1, hd2⟩ := dig_at HL.out k hlt
                have hb := val_le_take _ HL.out k (by omega)
                generalize hv' : val (s.data.toList.take k) = v at *
                have HV := Lib.hid hv'; clear hv'
                go_wp2_with fail
                refine ⟨⟨k + 1, by omega, by go_num, ?_⟩, by simp [intOf]; omega⟩
                rw [HS.out]; congr 1; omega
              · have HT := Lib.hid (show s.data.toList.take k = s.data.toList from List.take_of_length_le (by simp; omega))
                have HB := Lib.hid (val_le_19 _ HL.out (by simp; omega))
                generalize hv' : val (s.data.toList.take k) = v at *
                rw [HT.out] at hv'
                have hb : v ≤ 9999999999999999999 := by rw [← hv']; exact HB.out
                have HV := Lib.hid hv'; clear hv' HB
                by_cases hneg : most < 0
                · go_wp2_with fail
                  go_ret2
                  have h := readE_range (most := most) HW.out (valOk_neg hneg)
                  exact ⟨ret_ve h.2.symm h.1.symm, rfl⟩
                · by_cases hle : (v : Int) ≤ most
                  · go_wp2_with fail
                    go_ret2
                    have h := readE_ok (most := most) HW.out (valOk_yes (by omega) (by rw [HV.out]; exact hle))
                    exact ⟨ret_ve (by rw [h.2, HV.out]) h.1.symm, rfl⟩
                  · go_wp2_with fail
                    go_ret2
                    have h := readE_range (most := most) HW.out (valOk_ex s.size (by rw [List.take_of_length_le (by simp), HV.out]; omega))
                    exact ⟨ret_ve h.2.symm h.1.symm, rfl⟩
          · go_wp2_with fail
            go_ret2
            have h := readE_range (most := most) HW.out (val_big20 _ HW.out (by have : s.data.toList.length = s.size := by simp
                                                                                omega) most HM.out)
            exact ⟨ret_ve h.2.symm h.1.symm, rfl⟩
end Go.Proofs.YtgllaecahijlpaaDoor.NumW
