/- Walks of the statements QuoteReads, QuoteBack. -/
import Derived.Test.YtmlheppkclppfaaDoorAppend
namespace Go.Proofs.YtmlheppkclppfaaDoor.QuoW
set_option linter.unusedVariables false
open Go.RowKit Go.Proofs.YtmlheppkclppfaaDoor.QuoM
open Go.Proofs.YtmlheppkclppfaaDoor.Base (ret_bool ret_int ret_str BSl bytes_below ba_ext)

theorem QuoteReads_any (s : ByteArray) (w : World) (he : Env w) (hs : s.size ≤ 140737488351232) :
    Calls Tryd.prog 5 #[.string s] w fun e w' => e = .returned (.bool true) ∧ Below w.heap.size w w' := by
  have r1 := fun W h => Unquote_any s W h hs
  have r2 := fun W => refUnquote_any s W hs
  have R1 := Lib.hid r1; have R2 := Lib.hid r2; have R7 := Lib.hid (fun W h => knows_any W h)
  have HE := Lib.hid he
  clear r1 r2 he
  go_enter Tryd.func5, Tryd.ntmps5
  go_wp2_with fail
  refine (R1.out _ HE.out).mono ?_
  rintro e w1 ⟨o, v, hr, rfl, hown, hb1⟩
  have HO := Lib.hid hown
  have B1 := Lib.hid hb1
  clear hown hb1
  go_wp2_with fail
  refine (R2.out _).mono ?_
  rintro e w2 ⟨o2, v2, hr2, rfl, hown2, hb2⟩
  obtain rfl := reads_one hr hr2
  have hcv1 := conv_owned rfl (own_below HO.out hb2)
  have hcv2 := conv_owned rfl hown2
  have B2 := Lib.hid (B1.out.trans (hb2.mono B1.out.size))
  clear hr hr2 hb2 hown2 HO
  generalize (⟨(o.getD []).toArray⟩ : ByteArray) = q at *
  generalize o.isSome = ok at *
  go_wp2_with fail
  refine (R7.out _ (HE.out.below B2.out)).mono ?_
  rintro e w3 ⟨rfl, hb3⟩
  go_wp2_with fail
  go_ret
  exact ⟨rfl, B2.out.trans (hb3.mono B2.out.size)⟩
theorem owns_none' (w : World) {n : Nat} (h : n ≤ w.heap.size) : (w.alloc (.cells #[] 5)).ownsRow n 5 1 (.slice (some ⟨w.heap.size, 0, none⟩) 0 0) 0 (([] : List UInt8).map cb) := by
  refine ⟨rfl, .inr ⟨w.heap.size, 0, #[], rfl, h, ?_, Nat.le_refl _, Nat.zero_le _, rfl, rfl⟩⟩
  show (w.heap.push _)[w.heap.size]? = _
  simp
theorem ba_self (s : ByteArray) : (⟨s.data.toList.toArray⟩ : ByteArray) = s := ba_ext (by simp)
theorem read_len {s : ByteArray} {d : List UInt8} (h : Reads s.data.toList (some d)) : d.length ≤ s.size := by
  have h : quoteL d = s.data.toList := h
  have hl : s.data.toList.length = s.size := by simp
  unfold quoteL at h
  split at h
  · rename_i e; rw [e]; exact Nat.zero_le _
  · have := ones_length_ge d; rw [h, hl] at this; exact this
theorem quote_both {a b : List UInt8} (ha : a ≠ []) (hb : b ≠ []) : quoteL (a ++ b) = quoteL a ++ quoteL b := by
  unfold quoteL
  rw [if_neg ha, if_neg hb, if_neg (by simp [ha]), ones_append]
theorem both_text {a b : ByteArray} (ha : ¬ a.size = 0) (hb : ¬ b.size = 0) : (⟨(quoteL (⟨(([] : List UInt8) ++ a.data.toList ++ b.data.toList).toArray⟩ : ByteArray).data.toList).toArray⟩ : ByteArray) = ⟨(quoteL a.data.toList).toArray⟩ ++ ⟨(quoteL b.data.toList).toArray⟩ := by
  have h1 : a.data.toList ≠ [] := fun e => ha (by have : a.data.toList.length = a.size := by simp
                                                  rw [e] at this; exact this.symm)
  have h2 : b.data.toList ≠ [] := fun e => hb (by have : b.data.toList.length = b.size := by simp
                                                  rw [e] at this; exact this.symm)
  rw [Base.ba_app, ← quote_both h1 h2, List.nil_append]
theorem quote_size (s : ByteArray) : (quoteL s.data.toList).length ≤ 4 * s.size + 2 := by
  have hl : s.data.toList.length = s.size := by simp
  unfold quoteL
  split
  · simp
  · have := ones_length_le s.data.toList; omega
set_option maxHeartbeats 2000000 in
theorem QuoteBack_any (v0 v1 : Value) (a b s : ByteArray) (w : World) (he : Env w) (h0 : BSl w v0 a) (h1 : BSl w v1 b) (ha : a.size ≤ 2097152) (hb : b.size ≤ 2097152) (hs : s.size ≤ 2097152) :
    Calls Tryd.prog 6 #[v0, v1, .string s] w fun e w' => e = .returned (.bool true) ∧ Below w.heap.size w w' := by
  obtain ⟨qa, hqa⟩ : ∃ qa : ByteArray, qa = ⟨(quoteL a.data.toList).toArray⟩ := ⟨_, rfl⟩
  obtain ⟨qb, hqb⟩ : ∃ qb : ByteArray, qb = ⟨(quoteL b.data.toList).toArray⟩ := ⟨_, rfl⟩
  have hza : qa.size ≤ 8388610 := by rw [hqa, ba_size]; have := quote_size a; omega
  have hzb : qb.size ≤ 8388610 := by rw [hqb, ba_size]; have := quote_size b; omega
  have r1 := fun W h k => Quote_any v0 a W h k (by omega)
  have r2 := fun W h k => Quote_any v1 b W h k (by omega)
  rw [← hqa] at r1
  rw [← hqb] at r2
  have r3 := fun W h => Unquote_any qa W h (by omega)
  have hqr : Reads qa.data.toList (some a.data.toList) := by rw [hqa]; rfl
  have r4 := fun W h => Unquote_any s W h (by omega)
  have HQR := Lib.hid hqr; have HQA := Lib.hid hqa; have HQB := Lib.hid hqb
  have R1 := Lib.hid r1; have R2 := Lib.hid r2; have R3 := Lib.hid r3; have R4 := Lib.hid r4; have R7 := Lib.hid (fun W h => knows_any W h)
  have HE := Lib.hid he; have H0 := Lib.hid h0; have H1 := Lib.hid h1
  obtain ⟨aa, ca, ea⟩ := bsl_form h0
  obtain ⟨ab, cb', eb⟩ := bsl_form h1
  subst ea; subst eb
  clear r1 r2 r3 r4 he h0 h1 hqa hqb hqr
  go_enter Tryd.func6, Tryd.ntmps6
  go_wp2_with fail
  refine (R1.out _ HE.out H0.out).mono ?_
  rintro e w1 ⟨rfl, hb1⟩
  have B1 := Lib.hid hb1
  clear hb1
  go_wp2_with fail
  refine (R3.out _ (HE.out.below B1.out)).mono ?_
  rintro e w2 ⟨o, v, hr, rfl, hown, hb2⟩
  obtain rfl : o = some a.data.toList := reads_one hr HQR.out
  have B2 := Lib.hid (B1.out.trans (hb2.mono B1.out.size))
  have hcv1 : (convert 27 9 v).run Tryd.prog w2 = .ok (.string a) w2 := by
    have := conv_owned rfl hown
    simp only [Option.getD_some, ba_self] at this
    exact this
  have hcv2 := conv_bsl (H0.out.below B2.out)
  clear hr hown hb2
  go_wp2_with fail
  refine (R7.out _ (HE.out.below B2.out)).mono ?_
  rintro e w3 ⟨rfl, hb3⟩
  have B3 := Lib.hid (B2.out.trans (hb3.mono B2.out.size))
  clear hb3 hcv1 hcv2
  go_wp2_with fail
  refine (R4.out _ (HE.out.below B3.out)).mono ?_
  rintro e w4 ⟨o, v2, hr, rfl, hown, hb4⟩
  have B4 := Lib.hid (B3.out.trans (hb4.mono B3.out.size))
  clear hb4
  cases o with
  | none =>
    clear hr hown
    by_cases za : a.size = 0
    · have ta : ((a.size : Int) == 0) = true := by rw [za]; rfl
      clear za
      go_wp2_with (first
      | (at_builtin; refine wpList_append_bsl rfl (.tmp 43) (.tmp 44) rfl w.heap.size _ 0 [] rfl (owns_none' w4 B4.out.size) _ a rfl (BSl.below H0.out (B4.out.alloc B4.out.size _)) (by omega) (by have := B4.out.size; simp; omega) ?_; intro x1 y1 hx1 hy1)
      | (at_builtin; refine wpList_append_bsl rfl (.tmp 45) (.tmp 46) rfl w.heap.size _ _ _ rfl hx1 _ b rfl (BSl.below H1.out ((B4.out.alloc B4.out.size _).trans hy1)) (by omega) (by have := B4.out.size; have := hy1.size; simp at this; omega) ?_; intro x2 y2 hx2 hy2))
      go_ret
      exact ⟨rfl, ((B4.out.alloc B4.out.size _).trans hy1).trans hy2⟩
    · have ta : ((a.size : Int) == 0) = false := by rw [beq_eq_false_iff_ne]; omega
      by_cases zb : b.size = 0
      · have tb : ((b.size : Int) == 0) = true := by rw [zb]; rfl
        clear zb
        go_wp2_with (first
        | (at_builtin; refine wpList_append_bsl rfl (.tmp 43) (.tmp 44) rfl w.heap.size _ 0 [] rfl (owns_none' w4 B4.out.size) _ a rfl (BSl.below H0.out (B4.out.alloc B4.out.size _)) (by omega) (by have := B4.out.size; simp; omega) ?_; intro x1 y1 hx1 hy1)
        | (at_builtin; refine wpList_append_bsl rfl (.tmp 45) (.tmp 46) rfl w.heap.size _ _ _ rfl hx1 _ b rfl (BSl.below H1.out ((B4.out.alloc B4.out.size _).trans hy1)) (by omega) (by have := B4.out.size; have := hy1.size; simp at this; omega) ?_; intro x2 y2 hx2 hy2))
        go_ret
        exact ⟨rfl, ((B4.out.alloc B4.out.size _).trans hy1).trans hy2⟩
      · have tb : ((b.size : Int) == 0) = false := by rw [beq_eq_false_iff_ne]; omega
        go_wp2_with (first
          | (at_builtin; refine wpList_append_bsl rfl (.tmp 43) (.tmp 44) rfl w.heap.size _ 0 [] rfl (owns_none' w4 B4.out.size) _ a rfl (BSl.below H0.out (B4.out.alloc B4.out.size _)) (by omega) (by have := B4.out.size; simp; omega) ?_; intro x1 y1 hx1 hy1)
          | (at_builtin; refine wpList_append_bsl rfl (.tmp 45) (.tmp 46) rfl w.heap.size _ _ _ rfl hx1 _ b rfl (BSl.below H1.out ((B4.out.alloc B4.out.size _).trans hy1)) (by omega) (by have := B4.out.size; have := hy1.size; simp at this; omega) ?_; intro x2 y2 hx2 hy2))
        have C1 := Lib.hid (((B4.out.alloc B4.out.size (.cells #[] 5)).trans hy1).trans hy2)
        have hbs := bsl_of_owns (by simp only [List.nil_append, List.length_append]; rw [show a.data.toList.length = a.size by simp, show b.data.toList.length = b.size by simp]; omega) hx2
        have hbz : (⟨(([] : List UInt8) ++ a.data.toList ++ b.data.toList).toArray⟩ : ByteArray).size ≤ 4194304 := by
          rw [ba_size, List.nil_append, List.length_append, show a.data.toList.length = a.size by simp, show b.data.toList.length = b.size by simp]; omega
        have hq := Quote_any x2 _ y2 (HE.out.below C1.out) hbs (by omega)
        rw [both_text za zb, ← HQA.out, ← HQB.out] at hq
        have HQ := Lib.hid hq
        clear hq hbs hbz hx2 hy2 hx1 hy1
        refine HQ.out.mono ?_
        rintro e z1 ⟨rfl, hc1⟩
        have C2 := Lib.hid (C1.out.trans (hc1.mono C1.out.size))
        clear hc1
        go_wp2_with fail
        refine (R1.out _ (HE.out.below C2.out) (BSl.below H0.out C2.out)).mono ?_
        rintro e z2 ⟨rfl, hc2⟩
        have C3 := Lib.hid (C2.out.trans (hc2.mono C2.out.size))
        clear hc2
        go_wp2_with fail
        refine (R2.out _ (HE.out.below C3.out) (BSl.below H1.out C3.out)).mono ?_
        rintro e z3 ⟨rfl, hc3⟩
        have C4 := Lib.hid (C3.out.trans (hc3.mono C3.out.size))
        clear hc3
        go_wp2_with fail
        go_ret
        exact ⟨rfl, C4.out⟩
  | some d =>
    have hbs := bsl_of_owns rfl hown
    have hd : (⟨((some d).getD []).toArray⟩ : ByteArray).size ≤ 2097152 := by
      have := read_len hr
      rw [ba_size]; simp only [Option.getD_some]; omega
    have hq := fun W h k => Quote_any v2 ⟨((some d).getD []).toArray⟩ W h k (by omega)
    have hqs : (⟨(quoteL (⟨((some d).getD []).toArray⟩ : ByteArray).data.toList).toArray⟩ : ByteArray) = s := by
      have hr : quoteL d = s.data.toList := hr
      simp only [Option.getD_some]
      rw [hr, ba_self]
    rw [hqs] at hq
    have HQ := Lib.hid (hq w4 (HE.out.below B4.out) hbs)
    clear hr hown hbs hd hq hqs
    go_wp2_with fail
    refine HQ.out.mono ?_
    rintro e w5 ⟨rfl, hb5⟩
    have B5 := Lib.hid (B4.out.trans (hb5.mono B4.out.size))
    clear hb5 HQ
    by_cases za : a.size = 0
    · have ta : ((a.size : Int) == 0) = true := by rw [za]; rfl
      clear za
      go_wp2_with (first
      | (at_builtin; refine wpList_append_bsl rfl (.tmp 43) (.tmp 44) rfl w.heap.size _ 0 [] rfl (owns_none' w5 B5.out.size) _ a rfl (BSl.below H0.out (B5.out.alloc B5.out.size _)) (by omega) (by have := B5.out.size; simp; omega) ?_; intro x1 y1 hx1 hy1)
      | (at_builtin; refine wpList_append_bsl rfl (.tmp 45) (.tmp 46) rfl w.heap.size _ _ _ rfl hx1 _ b rfl (BSl.below H1.out ((B5.out.alloc B5.out.size _).trans hy1)) (by omega) (by have := B5.out.size; have := hy1.size; simp at this; omega) ?_; intro x2 y2 hx2 hy2))
      go_ret
      exact ⟨rfl, ((B5.out.alloc B5.out.size _).trans hy1).trans hy2⟩
    · have ta : ((a.size : Int) == 0) = false := by rw [beq_eq_false_iff_ne]; omega
      by_cases zb : b.size = 0
      · have tb : ((b.size : Int) == 0) = true := by rw [zb]; rfl
        clear zb
        go_wp2_with (first
        | (at_builtin; refine wpList_append_bsl rfl (.tmp 43) (.tmp 44) rfl w.heap.size _ 0 [] rfl (owns_none' w5 B5.out.size) _ a rfl (BSl.below H0.out (B5.out.alloc B5.out.size _)) (by omega) (by have := B5.out.size; simp; omega) ?_; intro x1 y1 hx1 hy1)
        | (at_builtin; refine wpList_append_bsl rfl (.tmp 45) (.tmp 46) rfl w.heap.size _ _ _ rfl hx1 _ b rfl (BSl.below H1.out ((B5.out.alloc B5.out.size _).trans hy1)) (by omega) (by have := B5.out.size; have := hy1.size; simp at this; omega) ?_; intro x2 y2 hx2 hy2))
        go_ret
        exact ⟨rfl, ((B5.out.alloc B5.out.size _).trans hy1).trans hy2⟩
      · have tb : ((b.size : Int) == 0) = false := by rw [beq_eq_false_iff_ne]; omega
        go_wp2_with (first
          | (at_builtin; refine wpList_append_bsl rfl (.tmp 43) (.tmp 44) rfl w.heap.size _ 0 [] rfl (owns_none' w5 B5.out.size) _ a rfl (BSl.below H0.out (B5.out.alloc B5.out.size _)) (by omega) (by have := B5.out.size; simp; omega) ?_; intro x1 y1 hx1 hy1)
          | (at_builtin; refine wpList_append_bsl rfl (.tmp 45) (.tmp 46) rfl w.heap.size _ _ _ rfl hx1 _ b rfl (BSl.below H1.out ((B5.out.alloc B5.out.size _).trans hy1)) (by omega) (by have := B5.out.size; have := hy1.size; simp at this; omega) ?_; intro x2 y2 hx2 hy2))
        have C1 := Lib.hid (((B5.out.alloc B5.out.size (.cells #[] 5)).trans hy1).trans hy2)
        have hbs := bsl_of_owns (by simp only [List.nil_append, List.length_append]; rw [show a.data.toList.length = a.size by simp, show b.data.toList.length = b.size by simp]; omega) hx2
        have hbz : (⟨(([] : List UInt8) ++ a.data.toList ++ b.data.toList).toArray⟩ : ByteArray).size ≤ 4194304 := by
          rw [ba_size, List.nil_append, List.length_append, show a.data.toList.length = a.size by simp, show b.data.toList.length = b.size by simp]; omega
        have hq := Quote_any x2 _ y2 (HE.out.below C1.out) hbs (by omega)
        rw [both_text za zb, ← HQA.out, ← HQB.out] at hq
        have HQ := Lib.hid hq
        clear hq hbs hbz hx2 hy2 hx1 hy1
        refine HQ.out.mono ?_
        rintro e z1 ⟨rfl, hc1⟩
        have C2 := Lib.hid (C1.out.trans (hc1.mono C1.out.size))
        clear hc1
        go_wp2_with fail
        refine (R1.out _ (HE.out.below C2.out) (BSl.below H0.out C2.out)).mono ?_
        rintro e z2 ⟨rfl, hc2⟩
        have C3 := Lib.hid (C2.out.trans (hc2.mono C2.out.size))
        clear hc2
        go_wp2_with fail
        refine (R2.out _ (HE.out.below C3.out) (BSl.below H1.out C3.out)).mono ?_
        rintro e z3 ⟨rfl, hc3⟩
        have C4 := Lib.hid (C3.out.trans (hc3.mono C3.out.size))
        clear hc3
        go_wp2_with fail
        go_ret
        exact ⟨rfl, C4.out⟩
end Go.Proofs.YtmlheppkclppfaaDoor.QuoW
