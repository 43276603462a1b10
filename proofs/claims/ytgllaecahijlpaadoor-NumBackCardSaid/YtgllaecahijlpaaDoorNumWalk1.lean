/- Walks of layer 1 (num): isDigit, wellFormed. -/
import Derived.Test.YtgllaecahijlpaaDoorProg
import Derived.Test.YtgllaecahijlpaaDoorNumMath
import Derived.WalkKit
import Derived.WalkLawsBesides
import Derived.WalkSpells
import Derived.LoopTactic
import Derived.Deep.QuietTactic
import Derived.BigQuiet
import Derived.Lib.Hide
import Derived.Outline
namespace Go.Proofs.YtgllaecahijlpaaDoor.NumW
open Go.RowKit Go.Proofs.YtgllaecahijlpaaDoor.NumM

theorem ret_bool {a b : Bool} (h : a = b) : Ending.returned (.bool a) = .returned (.bool b) := by rw [h]
theorem ret_int {k : IntKind} {a b : Int} (h : a = b) : Ending.returned (.int k a) = .returned (.int k b) := by rw [h]

theorem isDigit_any (c : UInt8) (w : World) : Calls Tryd.prog 22 #[.int .u8 c.toNat] w fun e w' => e = .returned (.bool (isDig c)) ∧ w = w' := by
  have hd : isDig c = (decide (48 ≤ c.toNat) && decide (c.toNat ≤ 57)) := rfl
  have HD := Lib.hid hd; clear hd
  by_cases h1 : 48 ≤ c.toNat
  · go_enter Tryd.func22, Tryd.ntmps22
    go_wp2
    go_ret
    exact ⟨ret_bool (by rw [HD.out]; simp [h1]; omega), rfl⟩
  · go_enter Tryd.func22, Tryd.ntmps22
    go_wp2
    go_ret
    exact ⟨ret_bool (by rw [HD.out]; simp [h1]), rfl⟩

theorem wf_nil : wf [] = false := rfl
theorem wf_lead {l : List UInt8} (h1 : 1 < l.length) (h : l[0]?.getD 0 = 48) : wf l = false := by
  unfold wf; rw [h]; simp [h1]
theorem wf_of {l : List UInt8} (h0 : l ≠ []) (h : ¬ (1 < l.length ∧ l[0]?.getD 0 = 48)) : wf l = l.all isDig := by
  unfold wf
  have e : (decide (1 < l.length) && (l[0]?.getD 0 == 48)) = false := by simpa using h
  rw [e]; simp [h0]
theorem all_take_succ (s : ByteArray) (k : Nat) (h : k < s.size) : (s.data.toList.take (k + 1)).all isDig = ((s.data.toList.take k).all isDig && isDig s[k]) := by
  rw [List.take_succ_eq_append_getElem (by simpa using h), List.all_append]; simp; rfl
theorem all_false {l : List UInt8} {k : Nat} (h : (l.take k).all isDig = false) : l.all isDig = false := by
  rw [← List.take_append_drop k l, List.all_append, h, Bool.false_and]
theorem head_of (s : ByteArray) (h : 0 < s.size) : s.data.toList[0]?.getD 0 = s[0] := by
  rw [List.getElem?_eq_getElem (by simpa using h)]; rfl

theorem wellFormed_any (s : ByteArray) (w : World) (hs : s.size ≤ maxLen) : Calls Tryd.prog 18 #[.string s] w fun e w' => e = .returned (.bool (wf s.data.toList)) ∧ w = w' := by
  unfold maxLen at hs
  by_cases h0 : s.data.toList = []
  · have e : wf s.data.toList = false := by rw [h0]; rfl
    rw [e]; clear e
    have h1 : s.toList = [] := by rw [ByteArray.toList_eq]; exact h0
    clear h0
    go_enter Tryd.func18, Tryd.ntmps18
    go_wp2_with fail
    go_ret
    exact ⟨rfl, rfl⟩
  · have he : s.toList.isEmpty = false := by rw [ByteArray.toList_eq]; simpa using h0
    have hn : ¬ s.toList = [] := by rw [ByteArray.toList_eq]; exact h0
    have hp : 0 < s.size := by
      have := List.length_pos_iff.2 h0
      simpa using this
    by_cases hl : 1 < s.size ∧ s[0] = 48
    · have e : wf s.data.toList = false := wf_lead (by simpa using hl.1) (by rw [head_of s hp, hl.2])
      rw [e]; clear e
      obtain ⟨h1, h2⟩ := hl
      have h3 : ((s[0].toNat : Int) == 48) = true := by rw [h2]; rfl
      clear h2 h0
      go_enter Tryd.func18, Tryd.ntmps18
      go_wp2_with fail
      go_ret
      exact ⟨rfl, rfl⟩
    · have HE := Lib.hid (wf_of h0 (by rw [head_of s hp]; simpa using hl))
      clear h0
      by_cases h1 : 1 < s.size
      · have h3 : ((s[0].toNat : Int) == 48) = false := by
          rw [beq_eq_false_iff_ne]; intro e
          exact hl ⟨h1, UInt8.toNat_inj.1 (by have : (48 : UInt8).toNat = 48 := rfl; omega)⟩
        clear hl
        go_enter Tryd.func18, Tryd.ntmps18
        go_wp2_with fail
        go_loop [18] (fun i => ∃ k : Nat, k ≤ s.size ∧ i = .int .i64 k ∧ (s.data.toList.take k).all isDig = true) (fun i => s.size - (intOf i).toNat)
        case atStart => exact ⟨0, Nat.zero_le _, rfl, rfl⟩
        case round =>
          obtain ⟨k, hk, rfl, ha⟩ := hrel
          have HA := Lib.hid ha; clear ha
          by_cases hlt : k < s.size
          · have HS := Lib.hid (all_take_succ s k hlt)
            cases hd : isDig s[k]
            · have HD := Lib.hid hd
              go_wp2_with (go_at_call 22; refine (isDigit_any _ _).mono ?_; rintro e w' ⟨rfl, rfl⟩)
              go_ret
              exact ⟨ret_bool (by rw [HE.out]; exact (all_false (k := k + 1) (by rw [HS.out, HA.out, HD.out]; rfl)).symm), rfl⟩
            · have HD := Lib.hid hd
              go_wp2_with (go_at_call 22; refine (isDigit_any _ _).mono ?_; rintro e w' ⟨rfl, rfl⟩)
              exact ⟨⟨k + 1, by omega, by go_num, by rw [HS.out, HA.out, HD.out]; rfl⟩, by simp [intOf]; omega⟩
          · go_wp2_with fail
            go_ret
            exact ⟨ret_bool (by have := HA.out; rw [List.take_of_length_le (by simp; omega)] at this; rw [HE.out, this]), rfl⟩
      · have h4 : s.size ≤ 1 := by omega
        clear hl
        go_enter Tryd.func18, Tryd.ntmps18
        go_wp2_with fail
        go_loop [18] (fun i => ∃ k : Nat, k ≤ s.size ∧ i = .int .i64 k ∧ (s.data.toList.take k).all isDig = true) (fun i => s.size - (intOf i).toNat)
        case atStart => exact ⟨0, Nat.zero_le _, rfl, rfl⟩
        case round =>
          obtain ⟨k, hk, rfl, ha⟩ := hrel
          have HA := Lib.hid ha; clear ha
          by_cases hlt : k < s.size
          · have HS := Lib.hid (all_take_succ s k hlt)
            cases hd : isDig s[k]
            · have HD := Lib.hid hd
              go_wp2_with (go_at_call 22; refine (isDigit_any _ _).mono ?_; rintro e w' ⟨rfl, rfl⟩)
              go_ret
              exact ⟨ret_bool (by rw [HE.out]; exact (all_false (k := k + 1) (by rw [HS.out, HA.out, HD.out]; rfl)).symm), rfl⟩
            · have HD := Lib.hid hd
              go_wp2_with (go_at_call 22; refine (isDigit_any _ _).mono ?_; rintro e w' ⟨rfl, rfl⟩)
              exact ⟨⟨k + 1, by omega, by go_num, by rw [HS.out, HA.out, HD.out]; rfl⟩, by simp [intOf]; omega⟩
          · go_wp2_with fail
            go_ret
            exact ⟨ret_bool (by have := HA.out; rw [List.take_of_length_le (by simp; omega)] at this; rw [HE.out, this]), rfl⟩
end Go.Proofs.YtgllaecahijlpaaDoor.NumW
