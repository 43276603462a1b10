/- Walks of layer 1 (num): value, Read. -/
import Derived.Test.YtgllaecahijlpaaDoorNumWalk1
namespace Go.Proofs.YtgllaecahijlpaaDoor.NumW
open Go.RowKit Go.Proofs.YtgllaecahijlpaaDoor.NumM

def valOk (l : List UInt8) (most : Int) : Bool := decide (0 ≤ most) && decide ((val l : Int) ≤ most)
def valV (l : List UInt8) (most : Int) : Int := if valOk l most then val l else 0
theorem valOk_neg {l : List UInt8} {most : Int} (h : most < 0) : valOk l most = false := by
  unfold valOk; rw [decide_eq_false (by omega), Bool.false_and]
theorem valOk_ex {l : List UInt8} {most : Int} (k : Nat) (h : most < (val (l.take k) : Int)) : valOk l most = false := by
  have := val_take_le l k
  unfold valOk; rw [decide_eq_false (p := (val l : Int) ≤ most) (by omega), Bool.and_false]
theorem valOk_yes {l : List UInt8} {most : Int} (h0 : 0 ≤ most) (h : (val l : Int) ≤ most) : valOk l most = true := by
  unfold valOk; simp [h0, h]
theorem valV_no {l : List UInt8} {most : Int} (h : valOk l most = false) : valV l most = 0 := by unfold valV; rw [h]; rfl
theorem valV_yes {l : List UInt8} {most : Int} (h : valOk l most = true) : valV l most = val l := by unfold valV; rw [if_pos h]
theorem val_take_succ (s : ByteArray) (k : Nat) (h : k < s.size) : val (s.data.toList.take (k + 1)) = 10 * val (s.data.toList.take k) + (s[k].toNat - 48) := by
  rw [List.take_succ_eq_append_getElem (by simpa using h), val_snoc]; rfl
theorem dig_at {s : ByteArray} (hd : s.data.toList.all isDig = true) (k : Nat) (h : k < s.size) : 48 ≤ s[k].toNat ∧ s[k].toNat ≤ 57 := by
  have := List.all_eq_true.1 hd s[k] (by
    have : s[k] = s.data.toList[k]'(by simpa using h) := rfl
    rw [this]; exact List.getElem_mem _)
  simpa [isDig] using this
theorem ret_vo {a b : Int} {x y : Bool} (h : a = b) (h2 : x = y) : Ending.returned (.tuple #[.int .i64 a, .bool x]) = .returned (.tuple #[.int .i64 b, .bool y]) := by rw [h, h2]

theorem value_any (s : ByteArray) (most : Int) (w : World) (hs : s.size ≤ maxLen) (hd : s.data.toList.all isDig = true) (hlo : -9223372036854775808 ≤ most) (hhi : most ≤ 9223372036854775807) :
    Calls Tryd.prog 19 #[.string s, .int .i64 most] w fun e w' => e = .returned (.tuple #[.int .i64 (valV s.data.toList most), .bool (valOk s.data.toList most)]) ∧ w = w' := by
  unfold maxLen at hs
  have HD := Lib.hid hd; clear hd
  by_cases h0 : most < 0
  · have HE := Lib.hid (valOk_neg (l := s.data.toList) h0)
    go_enter Tryd.func19, Tryd.ntmps19
    go_wp2_with fail
    go_ret2
    exact ⟨ret_vo (valV_no HE.out).symm HE.out.symm, rfl⟩
  · have h0' : 0 ≤ most := by omega
    go_enter Tryd.func19, Tryd.ntmps19
    go_wp2_with fail
    go_loop [4, 12] (fun n i => ∃ k : Nat, k ≤ s.size ∧ i = .int .i64 k ∧ n = .int .i64 (val (s.data.toList.take k)) ∧ (val (s.data.toList.take k) : Int) ≤ most) (fun _ i => s.size - (intOf i).toNat)
    case atStart => exact ⟨0, Nat.zero_le _, rfl, rfl, h0'⟩
    case round =>
      obtain ⟨k, hk, rfl, rfl, hv⟩ := hrel
      by_cases hlt : k < s.size
      · have HS := Lib.hid (val_take_succ s k hlt)
        obtain ⟨hd1, hd2⟩ := dig_at HD.out k hlt
        generalize hv' : val (s.data.toList.take k) = v at *
        have HV := Lib.hid hv'; clear hv'
        go_wp2_with fail
        · go_ret2
          have h := valOk_ex (l := s.data.toList) (most := most) (k + 1) (by rw [HS.out]; omega)
          exact ⟨ret_vo (valV_no h).symm h.symm, rfl⟩
        · refine ⟨⟨k + 1, by omega, by go_num, ?_, ?_⟩, by simp [intOf]; omega⟩
          · rw [HS.out]; congr 1; omega
          · rw [HS.out]; omega
        · go_ret2
          have h := valOk_ex (l := s.data.toList) (most := most) (k + 1) (by rw [HS.out]; omega)
          exact ⟨ret_vo (valV_no h).symm h.symm, rfl⟩
      · have HT := Lib.hid (show s.data.toList.take k = s.data.toList from List.take_of_length_le (by simp; omega))
        go_wp2_with fail
        go_ret2
        have h := valOk_yes (l := s.data.toList) h0' (by rw [HT.out] at hv; exact hv)
        exact ⟨ret_vo (by rw [valV_yes h, HT.out]) h.symm, rfl⟩

theorem readE_form {l : List UInt8} {most : Int} (h : wf l = false) : readE l most = 3 ∧ readV l most = 0 := by
  unfold readE readV; rw [h]; exact ⟨rfl, rfl⟩
theorem readE_range {l : List UInt8} {most : Int} (h : wf l = true) (h2 : valOk l most = false) : readE l most = 2 ∧ readV l most = 0 := by
  unfold valOk at h2; unfold readE readV; rw [h, Bool.true_and, h2]; exact ⟨rfl, rfl⟩
theorem readE_ok {l : List UInt8} {most : Int} (h : wf l = true) (h2 : valOk l most = true) : readE l most = 0 ∧ readV l most = val l := by
  unfold valOk at h2; unfold readE readV; rw [h, Bool.true_and, h2]; exact ⟨rfl, rfl⟩
theorem ret_ve {a b c d : Int} (h : a = b) (h2 : c = d) : Ending.returned (.tuple #[.int .i64 a, .int .i64 c]) = .returned (.tuple #[.int .i64 b, .int .i64 d]) := by rw [h, h2]

theorem Read_any (s : ByteArray) (most : Int) (w : World) (hs : s.size ≤ maxLen) (hlo : -9223372036854775808 ≤ most) (hhi : most ≤ 9223372036854775807) :
    Calls Tryd.prog 7 #[.string s, .int .i64 most] w fun e w' => e = .returned (.tuple #[.int .i64 (readV s.data.toList most), .int .i64 (readE s.data.toList most)]) ∧ w = w' := by
  cases hw : wf s.data.toList
  · have HR := Lib.hid (readE_form (most := most) hw)
    go_enter Tryd.func7, Tryd.ntmps7
    go_wp2_with (go_at_call 18; refine (wellFormed_any _ _ hs).mono ?_; rintro e w' ⟨rfl, rfl⟩)
    go_ret2
    exact ⟨ret_ve HR.out.2.symm HR.out.1.symm, rfl⟩
  · have HA := Lib.hid (wf_all hw)
    cases hv : valOk s.data.toList most
    · have HR := Lib.hid (readE_range hw hv)
      go_enter Tryd.func7, Tryd.ntmps7
      go_wp2_with (first | (go_at_call 18; refine (wellFormed_any _ _ hs).mono ?_; rintro e w' ⟨rfl, rfl⟩) | (go_at_call 19; refine (value_any _ _ _ hs HA.out hlo hhi).mono ?_; rintro e w' ⟨rfl, rfl⟩))
      go_ret2
      exact ⟨ret_ve HR.out.2.symm HR.out.1.symm, rfl⟩
    · have HR := Lib.hid (readE_ok hw hv)
      have HV := Lib.hid (valV_yes hv)
      go_enter Tryd.func7, Tryd.ntmps7
      go_wp2_with (first | (go_at_call 18; refine (wellFormed_any _ _ hs).mono ?_; rintro e w' ⟨rfl, rfl⟩) | (go_at_call 19; refine (value_any _ _ _ hs HA.out hlo hhi).mono ?_; rintro e w' ⟨rfl, rfl⟩))
      go_ret2
      exact ⟨ret_ve (by rw [HR.out.2]; exact HV.out) HR.out.1.symm, rfl⟩
end Go.Proofs.YtgllaecahijlpaaDoor.NumW
