/- Walks of Take, in both texts. -/
import Derived.Test.YtgllaecahijlpaaDoorNumWalk4
import Derived.Test.YtgllaecahijlpaaDoorBase
namespace Go.Proofs.YtgllaecahijlpaaDoor.NumW
open Go.RowKit Go.Proofs.YtgllaecahijlpaaDoor.NumM
open Go.Proofs.YtgllaecahijlpaaDoor.Base (BSl bytes_below run_sub_str)

/-- The place behind the digits that stand in l from a on. -/
def digEnd (l : List UInt8) (a : Nat) : Nat := a + ((l.drop a).takeWhile isDig).length
/-- The digits that stand there. -/
def digsAt (l : List UInt8) (a : Nat) : List UInt8 := (l.drop a).takeWhile isDig
theorem takeWhile_of {p : UInt8 → Bool} (l : List UInt8) (n : Nat) (hn : n ≤ l.length) (h1 : (l.take n).all p = true) (h2 : ∀ c, l[n]? = some c → p c = false) : l.takeWhile p = l.take n := by
  induction l generalizing n with
  | nil => simp
  | cons c l ih =>
    cases n with
    | zero =>
      have := h2 c rfl
      simp [this]
    | succ n =>
      simp only [List.take_succ_cons, List.all_cons, Bool.and_eq_true] at h1
      rw [List.takeWhile_cons, h1.1, if_pos rfl, List.take_succ_cons, ih n (by simpa using hn) h1.2 (fun c hc => h2 c (by simpa using hc))]
theorem digsAt_of {s : ByteArray} {a e : Nat} (h0 : a ≤ e) (h1 : e ≤ s.size) (h2 : (s.extract a e).data.toList.all isDig = true) (h3 : ∀ h : e < s.size, isDig s[e] = false) : digsAt s.data.toList a = (s.extract a e).data.toList ∧ digEnd s.data.toList a = e := by
  rw [Lib.extract_data] at h2 ⊢
  have hl : s.data.toList.length = s.size := by simp
  have h : digsAt s.data.toList a = (s.data.toList.drop a).take (e - a) := by
    unfold digsAt
    refine takeWhile_of _ _ (by simp; omega) h2 (fun c hc => ?_)
    rw [List.getElem?_drop, show a + (e - a) = e by omega] at hc
    obtain ⟨hlt, hc⟩ := List.getElem?_eq_some_iff.1 hc
    rw [← hc]
    exact h3 (by omega)
  refine ⟨h, ?_⟩
  have hd : digEnd s.data.toList a = a + (digsAt s.data.toList a).length := rfl
  rw [hd, h]; simp; omega
theorem ext_all_succ {s : ByteArray} {a e : Nat} (h0 : a ≤ e) (h : e < s.size) (h2 : (s.extract a e).data.toList.all isDig = true) (h3 : isDig s[e] = true) : (s.extract a (e + 1)).data.toList.all isDig = true := by
  rw [Lib.extract_data] at h2 ⊢
  have hl : s.data.toList.length = s.size := by simp
  rw [show e + 1 - a = (e - a) + 1 by omega, List.take_succ_eq_append_getElem (by simp; omega), List.all_append, h2, Bool.true_and]
  have h4 : (s.data.toList.drop a)[e - a]'(by simp; omega) = s[e] := by
    rw [List.getElem_drop]
    simp only [show a + (e - a) = e by omega]; rfl
  rw [h4, List.all_cons, h3]; rfl

/-- What Take answers. -/
def takeE (l : List UInt8) (a most : Int) : Int := if a < 0 ∨ (l.length : Int) < a then 1 else readE (digsAt l a.toNat) most
def takeV (l : List UInt8) (a most : Int) : Int := if takeE l a most = 0 then readV (digsAt l a.toNat) most else 0
def takeP (l : List UInt8) (a most : Int) : Int := if takeE l a most = 0 then digEnd l a.toNat else 0

theorem takeE_bad {l : List UInt8} {a most : Int} (h : a < 0 ∨ (l.length : Int) < a) : takeE l a most = 1 ∧ takeV l a most = 0 ∧ takeP l a most = 0 := by
  have e : takeE l a most = 1 := if_pos h
  unfold takeV takeP; rw [e]; exact ⟨rfl, rfl, rfl⟩
theorem takeE_at {l : List UInt8} {n : Nat} {most : Int} (h : n ≤ l.length) : takeE l n most = readE (digsAt l n) most := by
  unfold takeE; rw [if_neg (by omega)]; rfl
theorem take_fails {l : List UInt8} {n : Nat} {most : Int} (h : n ≤ l.length) (h2 : readE (digsAt l n) most ≠ 0) : takeE l n most = readE (digsAt l n) most ∧ takeV l n most = 0 ∧ takeP l n most = 0 := by
  have e := takeE_at (most := most) h
  refine ⟨e, ?_, ?_⟩
  · unfold takeV; rw [e, if_neg h2]
  · unfold takeP; rw [e, if_neg h2]
theorem take_goes {l : List UInt8} {n : Nat} {most : Int} (h : n ≤ l.length) (h2 : readE (digsAt l n) most = 0) : takeE l n most = 0 ∧ takeV l n most = readV (digsAt l n) most ∧ takeP l n most = digEnd l n := by
  have e := takeE_at (most := most) h
  rw [h2] at e
  refine ⟨e, ?_, ?_⟩
  · unfold takeV; rw [if_pos e]; rfl
  · unfold takeP; rw [if_pos e]; rfl
theorem ret_vpe {a b c d e f : Int} (h : a = b) (h2 : c = d) (h3 : e = f) : Ending.returned (.tuple #[.int .i64 a, .int .i64 c, .int .i64 e]) = .returned (.tuple #[.int .i64 b, .int .i64 d, .int .i64 f]) := by rw [h, h2, h3]
theorem size1 (w : World) : (Go.sizeOf 5).run Tryd.prog w = .ok 1 w := by kernel_rfl

theorem Take_row (s : ByteArray) (b o cap : Nat) (a most : Int) (w : World) (hcap : s.size ≤ cap) (hm : cap ≤ maxLen) (hB : Lib.Bytes w b o s) (hlo : -9223372036854775808 ≤ most) (hhi : most ≤ 9223372036854775807) (ha0 : -9223372036854775808 ≤ a) (ha1 : a ≤ 9223372036854775807) :
    Calls Tryd.prog 12 #[.slice (some ⟨b, o, none⟩) s.size cap, .int .i64 a, .int .i64 most] w fun e w' => e = .returned (.tuple #[.int .i64 (takeV s.data.toList a most), .int .i64 (takeP s.data.toList a most), .int .i64 (takeE s.data.toList a most)]) ∧ w = w' := by
  have hm0 := hm
  unfold maxLen at hm
  have hsl : s.data.toList.length = s.size := by simp
  have HL := Lib.hid hsl; clear hsl
  by_cases hbad : a < 0 ∨ (s.size : Int) < a
  · have h := Lib.hid (takeE_bad (most := most) (l := s.data.toList) (a := a) (by rw [HL.out]; exact hbad))
    rcases hbad with hbad | hbad
    · go_enter Tryd.func12, Tryd.ntmps12
      go_wp2_with fail
      go_ret3
      exact ⟨ret_vpe h.out.2.1.symm h.out.2.2.symm h.out.1.symm, rfl⟩
    · have ha : 0 ≤ a := by omega
      go_enter Tryd.func12, Tryd.ntmps12
      go_wp2_with fail
      go_ret3
      exact ⟨ret_vpe h.out.2.1.symm h.out.2.2.symm h.out.1.symm, rfl⟩
  · obtain ⟨n, rfl⟩ : ∃ n : Nat, a = n := ⟨a.toNat, by omega⟩
    have hn : n ≤ s.size := by omega
    have HB := Lib.hid hB; clear hB hbad
    have hq1 : decide (s.size < n) = false := decide_eq_false (by omega)
    have hq2 : decide ((n : Int) < 0) = false := decide_eq_false (by omega)
    go_enter Tryd.func12, Tryd.ntmps12
    go_wp2_with fail
    go_loop [9] (fun i => ∃ k : Nat, n ≤ k ∧ k ≤ s.size ∧ i = .int .i64 k ∧ (s.extract n k).data.toList.all isDig = true) (fun i => s.size - (intOf i).toNat)
    case atStart => exact ⟨n, Nat.le_refl _, hn, rfl, by simp⟩
    case round =>
      obtain ⟨k, hk0, hk, rfl, ha⟩ := hrel
      have HA := Lib.hid ha; clear ha
      by_cases hlt : k < s.size ∧ ∀ h : k < s.size, isDig s[k] = true
      · obtain ⟨hlt, hd⟩ := hlt
        have hd := hd hlt
        have hc := HB.out k hlt
        have HD := Lib.hid hd
        go_wp2_with (go_at_call 22; refine (isDigit_any _ _).mono ?_; rintro e w' ⟨rfl, rfl⟩)
        exact ⟨⟨k + 1, by omega, by omega, by go_num, ext_all_succ hk0 hlt HA.out HD.out⟩, by simp [intOf]; omega⟩
      · have hdg := digsAt_of hk0 hk HA.out (fun h => by
          cases hd : isDig s[k]
          · rfl
          · exact absurd ⟨h, fun _ => hd⟩ hlt)
        have HG := Lib.hid hdg; clear hdg
        obtain ⟨o', hsl, hcv⟩ := run_sub_str (P := Tryd.prog) w 28 5 9 Tryd.underlying28 Tryd.underlying5 Tryd.underlying9 size1 s b o cap n k HB.out hcap hk0 hk
        have hsz : (s.extract n k).size ≤ maxLen := by unfold maxLen; rw [ByteArray.size_extract]; omega
        have HZ := Lib.hid hsz; clear hsz
        by_cases h0 : readE (digsAt s.data.toList n) most = 0
        · have H := Lib.hid (take_goes (most := most) (by rw [HL.out]; exact hn) h0)
          have HE : Hid (readE (s.extract n k).data.toList most = 0) := by rw [← HG.out.1]; exact h0
          clear h0
          by_cases hlt' : k < s.size
          · have hc := HB.out k hlt'
            have hd : isDig s[k] = false := by
              cases hd : isDig s[k]
              · rfl
              · exact absurd ⟨hlt', fun _ => hd⟩ hlt
            clear hlt
            go_wp2_with (first | (go_at_call 22; refine (isDigit_any _ _).mono ?_; rintro e w' ⟨rfl, rfl⟩) | (go_at_call 7; refine (Read_any _ _ _ HZ.out hlo hhi).mono ?_; rw [HE.out]; rintro e w' ⟨rfl, rfl⟩))
            go_ret3
            exact ⟨ret_vpe (by rw [H.out.2.1, HG.out.1, Lib.extract_data]) (by rw [H.out.2.2, HG.out.2]) H.out.1.symm, rfl⟩
          · clear hlt
            go_wp2_with (first | (go_at_call 22; refine (isDigit_any _ _).mono ?_; rintro e w' ⟨rfl, rfl⟩) | (go_at_call 7; refine (Read_any _ _ _ HZ.out hlo hhi).mono ?_; rw [HE.out]; rintro e w' ⟨rfl, rfl⟩))
            go_ret3
            exact ⟨ret_vpe (by rw [H.out.2.1, HG.out.1, Lib.extract_data]) (by rw [H.out.2.2, HG.out.2]) H.out.1.symm, rfl⟩
        · have H := Lib.hid (take_fails (most := most) (by rw [HL.out]; exact hn) h0)
          obtain ⟨x, hx⟩ : ∃ x, readE (s.extract n k).data.toList most = x := ⟨_, rfl⟩
          have HX := Lib.hid hx
          have hx0 : x ≠ 0 := by rw [← hx, ← HG.out.1]; exact h0
          have hx1 : (x == 0) = false := by simpa using hx0
          have hx2 : (x != 0) = true := by simpa using hx0
          clear hx hx0 h0
          by_cases hlt' : k < s.size
          · have hc := HB.out k hlt'
            have hd : isDig s[k] = false := by
              cases hd : isDig s[k]
              · rfl
              · exact absurd ⟨hlt', fun _ => hd⟩ hlt
            clear hlt
            go_wp2_with (first | (go_at_call 22; refine (isDigit_any _ _).mono ?_; rintro e w' ⟨rfl, rfl⟩) | (go_at_call 7; refine (Read_any _ _ _ HZ.out hlo hhi).mono ?_; rw [HX.out]; rintro e w' ⟨rfl, rfl⟩))
            go_ret3
            exact ⟨ret_vpe H.out.2.1.symm H.out.2.2.symm (by rw [H.out.1, HG.out.1, HX.out]), rfl⟩
          · clear hlt
            go_wp2_with (first | (go_at_call 22; refine (isDigit_any _ _).mono ?_; rintro e w' ⟨rfl, rfl⟩) | (go_at_call 7; refine (Read_any _ _ _ HZ.out hlo hhi).mono ?_; rw [HX.out]; rintro e w' ⟨rfl, rfl⟩))
            go_ret3
            exact ⟨ret_vpe H.out.2.1.symm H.out.2.2.symm (by rw [H.out.1, HG.out.1, HX.out]), rfl⟩


theorem Take_nil (ad : Option Addr) (a most : Int) (w : World) (hlo : -9223372036854775808 ≤ most) (hhi : most ≤ 9223372036854775807) (ha0 : -9223372036854775808 ≤ a) (ha1 : a ≤ 9223372036854775807) :
    Calls Tryd.prog 12 #[.slice ad 0 0, .int .i64 a, .int .i64 most] w fun e w' => e = .returned (.tuple #[.int .i64 (takeV [] a most), .int .i64 (takeP [] a most), .int .i64 (takeE [] a most)]) ∧ w = w' := by
  by_cases hbad : a < 0 ∨ (0 : Int) < a
  · have h := Lib.hid (takeE_bad (most := most) (l := []) (a := a) hbad)
    rcases hbad with hbad | hbad
    · go_enter Tryd.func12, Tryd.ntmps12
      go_wp2_with fail
      go_ret3
      exact ⟨ret_vpe h.out.2.1.symm h.out.2.2.symm h.out.1.symm, rfl⟩
    · have ha : 0 ≤ a := by omega
      go_enter Tryd.func12, Tryd.ntmps12
      go_wp2_with fail
      go_ret3
      exact ⟨ret_vpe h.out.2.1.symm h.out.2.2.symm h.out.1.symm, rfl⟩
  · obtain rfl : a = 0 := by omega
    have H := Lib.hid (take_fails (l := []) (n := 0) (most := most) (by simp) (by rw [show digsAt [] 0 = [] from rfl, (readE_form (l := []) rfl).1]; decide))
    have HR := Lib.hid (readE_form (l := ByteArray.empty.data.toList) (most := most) rfl)
    clear hbad
    go_enter Tryd.func12, Tryd.ntmps12
    go_wp2_with fail
    go_loop [9] (fun i => i = .int .i64 0) (fun _ => 0)
    case atStart => rfl
    case round =>
      obtain rfl := hrel
      have hcv := Base.run_conv_empty (P := Tryd.prog) w 28 5 9 Tryd.underlying28 Tryd.underlying5 Tryd.underlying9 ad 0
      have hse := Base.run_slice_empty (P := Tryd.prog) w 28 5 Tryd.underlying28 size1 ad
      go_wp2_with (first | (go_at_call 7; refine (Read_any _ _ _ (by decide) hlo hhi).mono ?_; rw [HR.out.1, HR.out.2]; rintro e w' ⟨rfl, rfl⟩))
      go_ret3
      exact ⟨ret_vpe H.out.2.1.symm H.out.2.2.symm (by have := H.out.1; rw [show digsAt [] 0 = [] from rfl, (readE_form (l := []) rfl).1] at this; exact this.symm), rfl⟩

theorem Take_any (v : Value) (s : ByteArray) (a most : Int) (w : World) (hv : BSl w v s) (hlo : -9223372036854775808 ≤ most) (hhi : most ≤ 9223372036854775807) (ha0 : -9223372036854775808 ≤ a) (ha1 : a ≤ 9223372036854775807) :
    Calls Tryd.prog 12 #[v, .int .i64 a, .int .i64 most] w fun e w' => e = .returned (.tuple #[.int .i64 (takeV s.data.toList a most), .int .i64 (takeP s.data.toList a most), .int .i64 (takeE s.data.toList a most)]) ∧ w = w' := by
  rcases hv with ⟨ad, rfl, rfl⟩ | ⟨b, o, cap, rfl, hcap, hm, hB⟩
  · exact Take_nil ad a most w hlo hhi ha0 ha1
  · exact Take_row s b o cap a most w hcap hm hB hlo hhi ha0 ha1

theorem refTake_row (s : ByteArray) (b o cap : Nat) (a most : Int) (w : World) (hcap : s.size ≤ cap) (hm : cap ≤ maxLen) (hB : Lib.Bytes w b o s) (hlo : -9223372036854775808 ≤ most) (hhi : most ≤ 9223372036854775807) (ha0 : -9223372036854775808 ≤ a) (ha1 : a ≤ 9223372036854775807) :
    Calls Tryd.prog 13 #[.slice (some ⟨b, o, none⟩) s.size cap, .int .i64 a, .int .i64 most] w fun e w' => e = .returned (.tuple #[.int .i64 (takeV s.data.toList a most), .int .i64 (takeP s.data.toList a most), .int .i64 (takeE s.data.toList a most)]) ∧ w = w' := by
  have hm0 := hm
  unfold maxLen at hm
  have hsl : s.data.toList.length = s.size := by simp
  have HL := Lib.hid hsl; clear hsl
  by_cases hbad : a < 0 ∨ (s.size : Int) < a
  · have h := Lib.hid (takeE_bad (most := most) (l := s.data.toList) (a := a) (by rw [HL.out]; exact hbad))
    rcases hbad with hbad | hbad
    · go_enter Tryd.func13, Tryd.ntmps13
      go_wp2_with fail
      go_ret3
      exact ⟨ret_vpe h.out.2.1.symm h.out.2.2.symm h.out.1.symm, rfl⟩
    · have ha : 0 ≤ a := by omega
      go_enter Tryd.func13, Tryd.ntmps13
      go_wp2_with fail
      go_ret3
      exact ⟨ret_vpe h.out.2.1.symm h.out.2.2.symm h.out.1.symm, rfl⟩
  · obtain ⟨n, rfl⟩ : ∃ n : Nat, a = n := ⟨a.toNat, by omega⟩
    have hn : n ≤ s.size := by omega
    have HB := Lib.hid hB; clear hB hbad
    have hq1 : decide (s.size < n) = false := decide_eq_false (by omega)
    have hq2 : decide ((n : Int) < 0) = false := decide_eq_false (by omega)
    go_enter Tryd.func13, Tryd.ntmps13
    go_wp2_with fail
    go_loop [9] (fun i => ∃ k : Nat, n ≤ k ∧ k ≤ s.size ∧ i = .int .i64 k ∧ (s.extract n k).data.toList.all isDig = true) (fun i => s.size - (intOf i).toNat)
    case atStart => exact ⟨n, Nat.le_refl _, hn, rfl, by simp⟩
    case round =>
      obtain ⟨k, hk0, hk, rfl, ha⟩ := hrel
      have HA := Lib.hid ha; clear ha
      by_cases hlt : k < s.size ∧ ∀ h : k < s.size, isDig s[k] = true
      · obtain ⟨hlt, hd⟩ := hlt
        have hd := hd hlt
        have hc := HB.out k hlt
        have HD := Lib.hid hd
        go_wp2_with (go_at_call 20; refine (Digit_any _ _).mono ?_; rintro e w' ⟨rfl, rfl⟩)
        exact ⟨⟨k + 1, by omega, by omega, by go_num, ext_all_succ hk0 hlt HA.out HD.out⟩, by simp [intOf]; omega⟩
      · have hdg := digsAt_of hk0 hk HA.out (fun h => by
          cases hd : isDig s[k]
          · rfl
          · exact absurd ⟨h, fun _ => hd⟩ hlt)
        have HG := Lib.hid hdg; clear hdg
        obtain ⟨o', hsl, hcv⟩ := run_sub_str (P := Tryd.prog) w 28 5 9 Tryd.underlying28 Tryd.underlying5 Tryd.underlying9 size1 s b o cap n k HB.out hcap hk0 hk
        have hsz : (s.extract n k).size ≤ maxLen := by unfold maxLen; rw [ByteArray.size_extract]; omega
        have HZ := Lib.hid hsz; clear hsz
        by_cases h0 : readE (digsAt s.data.toList n) most = 0
        · have H := Lib.hid (take_goes (most := most) (by rw [HL.out]; exact hn) h0)
          have HE : Hid (readE (s.extract n k).data.toList most = 0) := by rw [← HG.out.1]; exact h0
          clear h0
          by_cases hlt' : k < s.size
          · have hc := HB.out k hlt'
            have hd : isDig s[k] = false := by
              cases hd : isDig s[k]
              · rfl
              · exact absurd ⟨hlt', fun _ => hd⟩ hlt
            clear hlt
            go_wp2_with (first | (go_at_call 20; refine (Digit_any _ _).mono ?_; rintro e w' ⟨rfl, rfl⟩) | (go_at_call 8; refine (refRead_any _ _ _ HZ.out hlo hhi).mono ?_; rw [HE.out]; rintro e w' ⟨rfl, rfl⟩))
            go_ret3
            exact ⟨ret_vpe (by rw [H.out.2.1, HG.out.1, Lib.extract_data]) (by rw [H.out.2.2, HG.out.2]) H.out.1.symm, rfl⟩
          · clear hlt
            go_wp2_with (first | (go_at_call 20; refine (Digit_any _ _).mono ?_; rintro e w' ⟨rfl, rfl⟩) | (go_at_call 8; refine (refRead_any _ _ _ HZ.out hlo hhi).mono ?_; rw [HE.out]; rintro e w' ⟨rfl, rfl⟩))
            go_ret3
            exact ⟨ret_vpe (by rw [H.out.2.1, HG.out.1, Lib.extract_data]) (by rw [H.out.2.2, HG.out.2]) H.out.1.symm, rfl⟩
        · have H := Lib.hid (take_fails (most := most) (by rw [HL.out]; exact hn) h0)
          obtain ⟨x, hx⟩ : ∃ x, readE (s.extract n k).data.toList most = x := ⟨_, rfl⟩
          have HX := Lib.hid hx
          have hx0 : x ≠ 0 := by rw [← hx, ← HG.out.1]; exact h0
          have hx1 : (x == 0) = false := by simpa using hx0
          have hx2 : (x != 0) = true := by simpa using hx0
          clear hx hx0 h0
          by_cases hlt' : k < s.size
          · have hc := HB.out k hlt'
            have hd : isDig s[k] = false := by
              cases hd : isDig s[k]
              · rfl
              · exact absurd ⟨hlt', fun _ => hd⟩ hlt
            clear hlt
            go_wp2_with (first | (go_at_call 20; refine (Digit_any _ _).mono ?_; rintro e w' ⟨rfl, rfl⟩) | (go_at_call 8; refine (refRead_any _ _ _ HZ.out hlo hhi).mono ?_; rw [HX.out]; rintro e w' ⟨rfl, rfl⟩))
            go_ret3
            exact ⟨ret_vpe H.out.2.1.symm H.out.2.2.symm (by rw [H.out.1, HG.out.1, HX.out]), rfl⟩
          · clear hlt
            go_wp2_with (first | (go_at_call 20; refine (Digit_any _ _).mono ?_; rintro e w' ⟨rfl, rfl⟩) | (go_at_call 8; refine (refRead_any _ _ _ HZ.out hlo hhi).mono ?_; rw [HX.out]; rintro e w' ⟨rfl, rfl⟩))
            go_ret3
            exact ⟨ret_vpe H.out.2.1.symm H.out.2.2.symm (by rw [H.out.1, HG.out.1, HX.out]), rfl⟩


theorem refTake_nil (ad : Option Addr) (a most : Int) (w : World) (hlo : -9223372036854775808 ≤ most) (hhi : most ≤ 9223372036854775807) (ha0 : -9223372036854775808 ≤ a) (ha1 : a ≤ 9223372036854775807) :
    Calls Tryd.prog 13 #[.slice ad 0 0, .int .i64 a, .int .i64 most] w fun e w' => e = .returned (.tuple #[.int .i64 (takeV [] a most), .int .i64 (takeP [] a most), .int .i64 (takeE [] a most)]) ∧ w = w' := by
  by_cases hbad : a < 0 ∨ (0 : Int) < a
  · have h := Lib.hid (takeE_bad (most := most) (l := []) (a := a) hbad)
    rcases hbad with hbad | hbad
    · go_enter Tryd.func13, Tryd.ntmps13
      go_wp2_with fail
      go_ret3
      exact ⟨ret_vpe h.out.2.1.symm h.out.2.2.symm h.out.1.symm, rfl⟩
    · have ha : 0 ≤ a := by omega
      go_enter Tryd.func13, Tryd.ntmps13
      go_wp2_with fail
      go_ret3
      exact ⟨ret_vpe h.out.2.1.symm h.out.2.2.symm h.out.1.symm, rfl⟩
  · obtain rfl : a = 0 := by omega
    have H := Lib.hid (take_fails (l := []) (n := 0) (most := most) (by simp) (by rw [show digsAt [] 0 = [] from rfl, (readE_form (l := []) rfl).1]; decide))
    have HR := Lib.hid (readE_form (l := ByteArray.empty.data.toList) (most := most) rfl)
    clear hbad
    go_enter Tryd.func13, Tryd.ntmps13
    go_wp2_with fail
    go_loop [9] (fun i => i = .int .i64 0) (fun _ => 0)
    case atStart => rfl
    case round =>
      obtain rfl := hrel
      have hcv := Base.run_conv_empty (P := Tryd.prog) w 28 5 9 Tryd.underlying28 Tryd.underlying5 Tryd.underlying9 ad 0
      have hse := Base.run_slice_empty (P := Tryd.prog) w 28 5 Tryd.underlying28 size1 ad
      go_wp2_with (first | (go_at_call 8; refine (refRead_any _ _ _ (by decide) hlo hhi).mono ?_; rw [HR.out.1, HR.out.2]; rintro e w' ⟨rfl, rfl⟩))
      go_ret3
      exact ⟨ret_vpe H.out.2.1.symm H.out.2.2.symm (by have := H.out.1; rw [show digsAt [] 0 = [] from rfl, (readE_form (l := []) rfl).1] at this; exact this.symm), rfl⟩

theorem refTake_any (v : Value) (s : ByteArray) (a most : Int) (w : World) (hv : BSl w v s) (hlo : -9223372036854775808 ≤ most) (hhi : most ≤ 9223372036854775807) (ha0 : -9223372036854775808 ≤ a) (ha1 : a ≤ 9223372036854775807) :
    Calls Tryd.prog 13 #[v, .int .i64 a, .int .i64 most] w fun e w' => e = .returned (.tuple #[.int .i64 (takeV s.data.toList a most), .int .i64 (takeP s.data.toList a most), .int .i64 (takeE s.data.toList a most)]) ∧ w = w' := by
  rcases hv with ⟨ad, rfl, rfl⟩ | ⟨b, o, cap, rfl, hcap, hm, hB⟩
  · exact refTake_nil ad a most w hlo hhi ha0 ha1
  · exact refTake_row s b o cap a most w hcap hm hB hlo hhi ha0 ha1

end Go.Proofs.YtgllaecahijlpaaDoor.NumW
