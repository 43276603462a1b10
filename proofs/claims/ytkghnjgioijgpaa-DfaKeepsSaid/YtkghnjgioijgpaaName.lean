/- Names: which bytes they have, in both texts. -/
import Derived.Test.YtkghnjgioijgpaaDfa
import Derived.LoopTactic
namespace Go.Proofs.Ytkghnjgioijgpaa.DfaW
set_option linter.unusedVariables false
open Go.RowKit Go.Maps

def letterB (c : Nat) : Bool := (decide (97 ≤ c) && decide (c ≤ 122)) || (decide (65 ≤ c) && decide (c ≤ 90)) || decide (c = 95)
def digitB (c : Nat) : Bool := decide (48 ≤ c) && decide (c ≤ 57)
/-- May a byte stand in a name, at its beginning, behind it? -/
def mayB (c : Nat) (first : Bool) : Bool := letterB c || (!first && digitB c)
def byteAt (s : ByteArray) (k : Nat) : Nat := (s.data.toList.getD k 0).toNat
theorem byteAt_lt (s : ByteArray) (k : Nat) : byteAt s k < 256 := UInt8.toNat_lt _
def nameOk (s : ByteArray) : Bool := decide (1 ≤ s.size) && decide (s.size ≤ 32) && (List.range s.size).all fun i => mayB (byteAt s i) (i == 0)
theorem run_sidx (s : ByteArray) (k : Nat) (hk : k < s.size) (w : World) : (Instr.index 9 (.string s) (.int .i64 (k : Nat))).run Try.prog w = .ok (.int .u8 (byteAt s k : Nat)) w := by
  have h1 : (s.data.toList.getD k 0) = s[k] := by
    have hk2 : k < s.data.toList.length := by simpa using hk
    rw [List.getD_eq_getElem?_getD, List.getElem?_eq_getElem hk2]
    simp [ByteArray.getElem_eq_getElem_data]
  have h2 : ((k : Int) < s.size) := by omega
  unfold byteAt
  rw [h1]
  simp [Instr.index, go_sem, hk]

theorem letter_any (c : Nat) (w : World) : Calls Try.prog 86 #[.int .u8 c] w fun e w' => e = .returned (.bool (letterB c)) ∧ w = w' := by
  have HD := Lib.hid (show letterB c = ((decide (97 ≤ c) && decide (c ≤ 122)) || (decide (65 ≤ c) && decide (c ≤ 90)) || decide (c = 95)) from rfl)
  by_cases h1 : 97 ≤ c
  · by_cases h2 : c ≤ 122
    · go_enter Try.func86, Try.ntmps86
      go_wp2_with fail
      go_ret
      exact ⟨Base.ret_bool (by rw [HD.out, Bool.eq_iff_iff]; simp <;> omega), rfl⟩
    · have h3 : 65 ≤ c := by omega
      have h4 : ¬ c ≤ 90 := by omega
      have h5 : ((c : Int) == 95) = false := by simp; omega
      go_enter Try.func86, Try.ntmps86
      go_wp2_with fail
      go_ret
      exact ⟨Base.ret_bool (by rw [HD.out, Bool.eq_iff_iff]; simp <;> omega), rfl⟩
  · by_cases h3 : 65 ≤ c
    · by_cases h4 : c ≤ 90
      · go_enter Try.func86, Try.ntmps86
        go_wp2_with fail
        go_ret
        exact ⟨Base.ret_bool (by rw [HD.out, Bool.eq_iff_iff]; simp <;> omega), rfl⟩
      · by_cases h5 : c = 95
        · have h6 : ((c : Int) == 95) = true := by rw [h5]; rfl
          go_enter Try.func86, Try.ntmps86
          go_wp2_with fail
          go_ret
          exact ⟨Base.ret_bool (by rw [HD.out, Bool.eq_iff_iff]; simp <;> omega), rfl⟩
        · have h6 : ((c : Int) == 95) = false := by simp; omega
          go_enter Try.func86, Try.ntmps86
          go_wp2_with fail
          go_ret
          exact ⟨Base.ret_bool (by rw [HD.out, Bool.eq_iff_iff]; simp <;> omega), rfl⟩
    · have h6 : ((c : Int) == 95) = false := by simp; omega
      go_enter Try.func86, Try.ntmps86
      go_wp2_with fail
      go_ret
      exact ⟨Base.ret_bool (by rw [HD.out, Bool.eq_iff_iff]; simp <;> omega), rfl⟩
theorem digit_any (c : Nat) (w : World) : Calls Try.prog 87 #[.int .u8 c] w fun e w' => e = .returned (.bool (digitB c)) ∧ w = w' := by
  have HD := Lib.hid (show digitB c = (decide (48 ≤ c) && decide (c ≤ 57)) from rfl)
  by_cases h1 : 48 ≤ c
  · by_cases h2 : c ≤ 57
    · go_enter Try.func87, Try.ntmps87
      go_wp2_with fail
      go_ret
      exact ⟨Base.ret_bool (by rw [HD.out, Bool.eq_iff_iff]; simp <;> omega), rfl⟩
    · go_enter Try.func87, Try.ntmps87
      go_wp2_with fail
      go_ret
      exact ⟨Base.ret_bool (by rw [HD.out, Bool.eq_iff_iff]; simp <;> omega), rfl⟩
  · go_enter Try.func87, Try.ntmps87
    go_wp2_with fail
    go_ret
    exact ⟨Base.ret_bool (by rw [HD.out, Bool.eq_iff_iff]; simp <;> omega), rfl⟩
theorem may_any (c : Nat) (f : Bool) (w : World) : Calls Try.prog 59 #[.int .u8 c, .bool f] w fun e w' => e = .returned (.bool (mayB c f)) ∧ w = w' := by
  have HD := Lib.hid (show mayB c f = (((decide (97 ≤ c) && decide (c ≤ 122)) || (decide (65 ≤ c) && decide (c ≤ 90)) || decide (c = 95)) || (!f && (decide (48 ≤ c) && decide (c ≤ 57)))) from rfl)
  by_cases h7 : 48 ≤ c
  · by_cases h8 : c ≤ 57
    · go_enter Try.func59, Try.ntmps59
      go_wp2_with fail
      go_ret
      have e1 : ¬ 97 ≤ c := by omega
      have e2 : ¬ 65 ≤ c := by omega
      have e3 : ¬ c = 95 := by omega
      exact ⟨Base.ret_bool (by rw [HD.out]; simp [e1, e2, e3, h7, h8]), rfl⟩
    · by_cases h1 : 97 ≤ c
      · by_cases h2 : c ≤ 122
        · go_enter Try.func59, Try.ntmps59
          go_wp2_with fail
          go_ret
          exact ⟨Base.ret_bool (by rw [HD.out, Bool.eq_iff_iff]; simp <;> omega), rfl⟩
        · have h3 : 65 ≤ c := by omega
          have h4 : ¬ c ≤ 90 := by omega
          have h5 : ((c : Int) == 95) = false := by simp; omega
          go_enter Try.func59, Try.ntmps59
          go_wp2_with fail
          go_ret
          exact ⟨Base.ret_bool (by rw [HD.out, Bool.eq_iff_iff]; simp <;> omega), rfl⟩
      · by_cases h3 : 65 ≤ c
        · by_cases h4 : c ≤ 90
          · go_enter Try.func59, Try.ntmps59
            go_wp2_with fail
            go_ret
            exact ⟨Base.ret_bool (by rw [HD.out, Bool.eq_iff_iff]; simp <;> omega), rfl⟩
          · by_cases h5 : c = 95
            · have h6 : ((c : Int) == 95) = true := by rw [h5]; rfl
              go_enter Try.func59, Try.ntmps59
              go_wp2_with fail
              go_ret
              exact ⟨Base.ret_bool (by rw [HD.out, Bool.eq_iff_iff]; simp <;> omega), rfl⟩
            · have h6 : ((c : Int) == 95) = false := by simp; omega
              go_enter Try.func59, Try.ntmps59
              go_wp2_with fail
              go_ret
              exact ⟨Base.ret_bool (by rw [HD.out, Bool.eq_iff_iff]; simp <;> omega), rfl⟩
        · have h6 : ((c : Int) == 95) = false := by simp; omega
          go_enter Try.func59, Try.ntmps59
          go_wp2_with fail
          go_ret
          exact ⟨Base.ret_bool (by rw [HD.out, Bool.eq_iff_iff]; simp <;> omega), rfl⟩
  · have h1 : ¬ 97 ≤ c := by omega
    have h3 : ¬ 65 ≤ c := by omega
    have h6 : ((c : Int) == 95) = false := by simp; omega
    go_enter Try.func59, Try.ntmps59
    go_wp2_with fail
    go_ret
    exact ⟨Base.ret_bool (by rw [HD.out, Bool.eq_iff_iff]; simp <;> omega), rfl⟩

/-- How far a name goes. -/
def frontN (s : ByteArray) : Nat → Nat → Nat
  | k, 0 => k
  | k, n + 1 => if mayB (byteAt s k) (k == 0) then frontN s (k + 1) n else k
def AllTo (s : ByteArray) (k : Nat) : Prop := ∀ i, i < k → mayB (byteAt s i) (i == 0) = true
theorem nameOk_iff (s : ByteArray) : nameOk s = true ↔ 1 ≤ s.size ∧ s.size ≤ 32 ∧ AllTo s s.size := by
  unfold nameOk AllTo
  simp only [Bool.and_eq_true, decide_eq_true_eq, List.all_eq_true, List.mem_range, and_assoc]
theorem mayB_letter {c : Nat} {f : Bool} (h : letterB c = true) : mayB c f = true := by simp [mayB, h]
theorem mayB_no {c : Nat} {f : Bool} (h : letterB c = false) : mayB c f = (!f && digitB c) := by simp [mayB, h]
set_option maxHeartbeats 1000000 in
/-- A front: as far as the bytes may stand in a name. -/
theorem front_any (s : ByteArray) (hs : s.size ≤ 9223372036854775807) (w : World) : Calls Try.prog 67 #[.string s] w fun e w' =>
    (∃ k : Nat, e = .returned (.int .i64 k) ∧ k ≤ s.size ∧ AllTo s k ∧ (k < s.size → mayB (byteAt s k) (k == 0) = false)) ∧ w = w' := by
  have HS := Lib.hid (fun k hk w => run_sidx s k hk w)
  have hsz : (s.size : Int) ≤ 9223372036854775807 := by omega
  clear hs
  go_enter Try.func67, Try.ntmps67
  go_wp2_with fail
  go_loop [3] (fun i => ∃ k : Nat, k ≤ s.size ∧ i = .int .i64 k ∧ Hid (AllTo s k)) (fun i => s.size - (intOf i).toNat)
  case atStart => exact ⟨0, Nat.zero_le _, rfl, Lib.hid (fun i h => absurd h (Nat.not_lt_zero _))⟩
  case round =>
    obtain ⟨k, hk, rfl, HA⟩ := hrel
    by_cases hlt : k < s.size
    · have t0 : decide ((k : Int) < (s.size : Int)) = true := by simp; omega
      have hr : ∀ w, (Instr.index 9 (.string s) (.int .i64 (k : Nat))).run Try.prog w = .ok (.int .u8 (byteAt s k : Nat)) w := HS.out k hlt
      have HK := Lib.hid (show k < s.size from hlt)
      obtain ⟨c, hc⟩ : ∃ c, c = byteAt s k := ⟨_, rfl⟩
      rw [← hc] at hr
      have HC := Lib.hid hc
      clear hc hlt
      cases hl : letterB c with
      | true =>
        have HL := Lib.hid hl
        clear hl
        go_wp2_with (first | (go_at_call 86; refine (letter_any c _).mono ?_; rintro e w1 ⟨rfl, rfl⟩; rw [HL.out]) | (go_at_call 87; refine (digit_any c _).mono ?_; rintro e w1 ⟨rfl, rfl⟩))
        refine ⟨⟨k + 1, HK.out, by go_num, Lib.hid (fun i hi => ?_)⟩, by have := HK.out; simp [intOf]; omega⟩
        by_cases e : i = k
        · subst e; rw [← HC.out]; exact mayB_letter HL.out
        · exact HA.out i (by omega)
      | false =>
        have HL := Lib.hid hl
        clear hl
        by_cases h0 : k = 0
        · have t1 : ¬ 0 < k := by omega
          have H0 := Lib.hid h0
          clear h0
          go_wp2_with (first | (go_at_call 86; refine (letter_any c _).mono ?_; rintro e w1 ⟨rfl, rfl⟩; rw [HL.out]) | (go_at_call 87; refine (digit_any c _).mono ?_; rintro e w1 ⟨rfl, rfl⟩))
          go_ret
          exact ⟨⟨k, rfl, Nat.le_of_lt HK.out, HA.out, fun _ => by rw [← HC.out, mayB_no HL.out, H0.out]; rfl⟩, rfl⟩
        · have t1 : 0 < k := by omega
          have hk0 : (k == 0) = false := by simpa using h0
          have HK0 := Lib.hid hk0
          clear h0 hk0
          cases hd : digitB c with
          | true =>
            have HD := Lib.hid hd
            clear hd
            go_wp2_with (first | (go_at_call 86; refine (letter_any c _).mono ?_; rintro e w1 ⟨rfl, rfl⟩; rw [HL.out]) | (go_at_call 87; refine (digit_any c _).mono ?_; rintro e w1 ⟨rfl, rfl⟩; rw [HD.out]))
            refine ⟨⟨k + 1, HK.out, by go_num, Lib.hid (fun i hi => ?_)⟩, by have := HK.out; simp [intOf]; omega⟩
            by_cases e : i = k
            · subst e; rw [← HC.out, mayB_no HL.out, HK0.out, HD.out]; rfl
            · exact HA.out i (by omega)
          | false =>
            have HD := Lib.hid hd
            clear hd
            go_wp2_with (first | (go_at_call 86; refine (letter_any c _).mono ?_; rintro e w1 ⟨rfl, rfl⟩; rw [HL.out]) | (go_at_call 87; refine (digit_any c _).mono ?_; rintro e w1 ⟨rfl, rfl⟩; rw [HD.out]))
            go_ret
            exact ⟨⟨k, rfl, Nat.le_of_lt HK.out, HA.out, fun _ => by rw [← HC.out, mayB_no HL.out, HD.out]; simp⟩, rfl⟩
    · have hk2 : k = s.size := by omega
      have HK := Lib.hid hk2
      clear hk2
      go_wp2_with fail
      go_ret
      exact ⟨⟨k, rfl, hk, HA.out, fun h => by have := HK.out; omega⟩, rfl⟩
theorem Name_any (s : ByteArray) (hs : s.size ≤ 9223372036854775807) (w : World) : Calls Try.prog 54 #[.string s] w fun e w' => e = .returned (.bool (nameOk s)) ∧ w = w' := by
  have HF := Lib.hid (fun w => front_any s hs w)
  go_enter Try.func54, Try.ntmps54
  go_wp2_with fail
  refine (HF.out _).mono ?_
  rintro e w1 ⟨⟨k, rfl, h1, h2, h3⟩, rfl⟩
  have HH := Lib.hid (show AllTo s k ∧ (k < s.size → mayB (byteAt s k) (k == 0) = false) from ⟨h2, h3⟩)
  clear h2 h3
  have HN : nameOk s = (decide (1 ≤ k) && (decide (k ≤ 32) && decide (k = s.size))) := by
    rw [Bool.eq_iff_iff, nameOk_iff]
    simp only [Bool.and_eq_true, decide_eq_true_eq]
    constructor
    · rintro ⟨a, b, c⟩
      have : k = s.size := by
        rcases Nat.lt_or_ge k s.size with h | h
        · have := HH.out.2 h; rw [c k h] at this; cases this
        · omega
      omega
    · rintro ⟨a, b, c⟩
      rw [← c]
      exact ⟨a, b, HH.out.1⟩
  have HNN := Lib.hid HN
  clear HN
  by_cases p1 : 1 ≤ k
  · have t1 : 0 < k := by omega
    by_cases p2 : k ≤ 32
    · by_cases p3 : k = s.size
      · have t3 : ((k : Int) == (s.size : Int)) = true := by rw [p3]; simp
        go_wp2_with fail
        go_ret
        exact ⟨Base.ret_bool (by rw [HNN.out, Bool.eq_iff_iff]; simp <;> omega), rfl⟩
      · have t3 : ((k : Int) == (s.size : Int)) = false := by simp; omega
        go_wp2_with fail
        go_ret
        exact ⟨Base.ret_bool (by rw [HNN.out, Bool.eq_iff_iff]; simp <;> omega), rfl⟩
    · go_wp2_with fail
      go_ret
      exact ⟨Base.ret_bool (by rw [HNN.out, Bool.eq_iff_iff]; simp <;> omega), rfl⟩
  · have t1 : ¬ 0 < k := by omega
    go_wp2_with fail
    go_ret
    exact ⟨Base.ret_bool (by rw [HNN.out, Bool.eq_iff_iff]; simp <;> omega), rfl⟩
theorem refName_any (s : ByteArray) (hs : s.size ≤ 9223372036854775807) (w : World) : Calls Try.prog 36 #[.string s] w fun e w' => e = .returned (.bool (nameOk s)) ∧ w = w' := by
  have HS := Lib.hid (fun k hk w => run_sidx s k hk w)
  have hsz : (s.size : Int) ≤ 9223372036854775807 := by omega
  clear hs
  go_enter Try.func36, Try.ntmps36
  go_wp2_with fail
  go_loop [3] (fun i => ∃ k : Nat, k ≤ s.size ∧ i = .int .i64 k ∧ Hid (AllTo s k)) (fun i => s.size - (intOf i).toNat)
  case atStart => exact ⟨0, Nat.zero_le _, rfl, Lib.hid (fun i h => absurd h (Nat.not_lt_zero _))⟩
  case round =>
    obtain ⟨k, hk, rfl, HA⟩ := hrel
    by_cases hlt : k < s.size
    · have t0 : decide ((k : Int) < (s.size : Int)) = true := by simp; omega
      have hr : ∀ w, (Instr.index 9 (.string s) (.int .i64 (k : Nat))).run Try.prog w = .ok (.int .u8 (byteAt s k : Nat)) w := HS.out k hlt
      have HK := Lib.hid (show k < s.size from hlt)
      obtain ⟨c, hc⟩ : ∃ c, c = byteAt s k := ⟨_, rfl⟩
      rw [← hc] at hr
      have HC := Lib.hid hc
      clear hc hlt
      have hb : ((k : Int) == 0) = (k == 0) := by rw [Bool.eq_iff_iff]; simp
      obtain ⟨f, hf⟩ : ∃ f, f = (k == 0) := ⟨_, rfl⟩
      rw [← hf] at hb
      have HF := Lib.hid hf
      clear hf
      cases hm : mayB c f with
      | true =>
        have HM := Lib.hid hm
        clear hm
        go_wp2_with (go_at_call 59; refine (may_any c f _).mono ?_; rintro e w1 ⟨rfl, rfl⟩; rw [HM.out])
        refine ⟨⟨k + 1, HK.out, by go_num, Lib.hid (fun i hi => ?_)⟩, by have := HK.out; simp [intOf]; omega⟩
        by_cases e : i = k
        · subst e; rw [← HC.out, ← HF.out]; exact HM.out
        · exact HA.out i (by omega)
      | false =>
        have HM := Lib.hid hm
        clear hm
        go_wp2_with (go_at_call 59; refine (may_any c f _).mono ?_; rintro e w1 ⟨rfl, rfl⟩; rw [HM.out])
        go_ret
        refine ⟨Base.ret_bool ?_, rfl⟩
        symm
        rw [Bool.eq_false_iff]
        intro h
        have := ((nameOk_iff s).1 h).2.2 k HK.out
        rw [← HC.out, ← HF.out, HM.out] at this
        cases this
    · have hk2 : k = s.size := by omega
      subst hk2
      have HN : nameOk s = (decide (1 ≤ s.size) && decide (s.size ≤ 32)) := by
        rw [Bool.eq_iff_iff, nameOk_iff]
        simp only [Bool.and_eq_true, decide_eq_true_eq]
        exact ⟨fun h => ⟨h.1, h.2.1⟩, fun h => ⟨h.1, h.2, HA.out⟩⟩
      have HNN := Lib.hid HN
      clear HN hlt
      by_cases p1 : 1 ≤ s.size
      · by_cases p2 : s.size ≤ 32
        · go_wp2_with fail
          go_ret
          exact ⟨Base.ret_bool (by rw [HNN.out, Bool.eq_iff_iff]; simp <;> omega), rfl⟩
        · go_wp2_with fail
          go_ret
          exact ⟨Base.ret_bool (by rw [HNN.out, Bool.eq_iff_iff]; simp <;> omega), rfl⟩
      · go_wp2_with fail
        go_ret
        exact ⟨Base.ret_bool (by rw [HNN.out, Bool.eq_iff_iff]; simp <;> omega), rfl⟩
end Go.Proofs.Ytkghnjgioijgpaa.DfaW
