/- Walk of the document's Unquote. -/
import Derived.Test.YtmlheppkclppfaaDoorQuoWalk7
namespace Go.Proofs.YtmlheppkclppfaaDoor.QuoW
set_option linter.unusedVariables false
open Go.RowKit Go.Proofs.YtmlheppkclppfaaDoor.QuoM
open Go.Proofs.YtmlheppkclppfaaDoor.Base (ret_bool ret_int ret_str BSl bytes_below ba_ext)

theorem owns_none (w : World) : (w.alloc (.cells #[] 5)).ownsRow w.heap.size 5 1 (.slice (some ⟨w.heap.size, 0, none⟩) 0 0) ([] : List UInt8).length (([] : List UInt8).map cb) := by
  refine ⟨rfl, .inr ⟨w.heap.size, 0, #[], rfl, Nat.le_refl _, ?_, Nat.le_refl _, Nat.zero_le _, rfl, rfl⟩⟩
  show (w.heap.push _)[w.heap.size]? = _
  simp
set_option maxHeartbeats 2000000 in
theorem refUnquote_any (s : ByteArray) (w : World) (hs : s.size ≤ 140737488351232) :
    Calls Tryd.prog 17 #[.string s] w fun e w' => ∃ (o : Option (List UInt8)) (v : Value), Reads s.data.toList o ∧ e = .returned (.tuple #[v, .bool o.isSome]) ∧
      w'.ownsRow w.heap.size 5 1 v (o.getD []).length ((o.getD []).map cb) ∧ Below w.heap.size w w' := by
  obtain ⟨i0, hi, hz0, hz1, hz2⟩ := info_parts infoByte
  have hsl : s.data.toList.length = s.size := by simp
  have HSL := Lib.hid hsl; clear hsl
  go_enter Tryd.func17, Tryd.ntmps17
  go_wp2_with fail
  go_loopw [4, 5] (fun v i wr => ∃ (p : List UInt8) (k : Nat), k ≤ s.size ∧ i = .int .i64 k ∧ Hid (Inv s.data.toList p k) ∧ p.length ≤ k ∧ wr.ownsRow w.heap.size 5 1 v p.length (p.map cb) ∧ Below w.heap.size w wr) (fun _ i _ => s.size - (intOf i).toNat)
  case atStart => exact ⟨[], 0, Nat.zero_le _, rfl, Lib.hid (inv_start _), Nat.zero_le _, owns_none w, (Below.refl _ _).alloc (Nat.le_refl _) _⟩
  case round =>
    obtain ⟨p, k, hk, rfl, HI, hle, hown, hb⟩ := hrel
    have HO := Lib.hid hown; have HB := Lib.hid hb
    clear hown hb
    by_cases hlt : k < s.size
    · by_cases h92 : s[k] = 92
      · have t1 : ((s[k].toNat : Int) == 92) = true := by rw [h92]; rfl
        by_cases h4 : s.size < k + 4
        · have HF := Lib.hid (lstep_short hlt h4)
          clear h92
          go_wp2_with (at_builtin; refine wpList_append_own _ rfl (.tmp 63) (.tmp 67) 27 rfl w.heap.size 5 i0 (.int .u8 0) 1 1 Tryd.underlying27 hi hz0 hz1 hz2 rfl (by decide) _ _ _ rfl (HO.out.alloc _) ⟨wr.heap.size, 0, none⟩ 1 1 [.int .u8 (s[k].toNat : Int)] rfl rfl (cell_one_new _ _ _) (by simp [Value.oneCell']) (by unfold maxLen; omega) (by omega) (by have := HB.out.size; simp; omega) ?_; intro v' w1 hown' hgrow _)
          exact ⟨⟨p ++ [s[k]], k + 1, by omega, by go_num, Lib.hid (inv_step HI.out HF.out), by rw [List.length_append]; simp only [List.length_cons, List.length_nil]; omega, by rw [List.length_append, List.map_append]; exact hown', below_own (HB.out.alloc HB.out.size _) (Nat.le_refl _) (HO.out.alloc _) hgrow⟩, by simp [intOf]; omega⟩
        · have h4' : k + 4 ≤ s.size := by omega
          by_cases h120 : s[k + 1] = 120
          · have t2 : ((s[k + 1].toNat : Int) == 120) = true := by rw [h120]; rfl
            by_cases n2 : vl s[k + 2] < 0
            · have HF := Lib.hid (lstep_not h4' (fun h => by omega))
              clear h92 h120
              go_wp2_with (first | (go_at_call 10; refine (refValue_any _ _).mono ?_; rintro e w' ⟨rfl, rfl⟩) | (at_builtin; refine wpList_append_own _ rfl (.tmp 63) (.tmp 67) 27 rfl w.heap.size 5 i0 (.int .u8 0) 1 1 Tryd.underlying27 hi hz0 hz1 hz2 rfl (by decide) _ _ _ rfl (HO.out.alloc _) ⟨wr.heap.size, 0, none⟩ 1 1 [.int .u8 (s[k].toNat : Int)] rfl rfl (cell_one_new _ _ _) (by simp [Value.oneCell']) (by unfold maxLen; omega) (by omega) (by have := HB.out.size; simp; omega) ?_; intro v' w1 hown' hgrow _))
              exact ⟨⟨p ++ [s[k]], k + 1, by omega, by go_num, Lib.hid (inv_step HI.out HF.out), by rw [List.length_append]; simp only [List.length_cons, List.length_nil]; omega, by rw [List.length_append, List.map_append]; exact hown', below_own (HB.out.alloc HB.out.size _) (Nat.le_refl _) (HO.out.alloc _) hgrow⟩, by simp [intOf]; omega⟩
            · by_cases n3 : vl s[k + 3] < 0
              · have HF := Lib.hid (lstep_not h4' (fun h => by omega))
                clear h92 h120
                go_wp2_with (first | (go_at_call 10; refine (refValue_any _ _).mono ?_; rintro e w' ⟨rfl, rfl⟩) | (at_builtin; refine wpList_append_own _ rfl (.tmp 63) (.tmp 67) 27 rfl w.heap.size 5 i0 (.int .u8 0) 1 1 Tryd.underlying27 hi hz0 hz1 hz2 rfl (by decide) _ _ _ rfl (HO.out.alloc _) ⟨wr.heap.size, 0, none⟩ 1 1 [.int .u8 (s[k].toNat : Int)] rfl rfl (cell_one_new _ _ _) (by simp [Value.oneCell']) (by unfold maxLen; omega) (by omega) (by have := HB.out.size; simp; omega) ?_; intro v' w1 hown' hgrow _))
                exact ⟨⟨p ++ [s[k]], k + 1, by omega, by go_num, Lib.hid (inv_step HI.out HF.out), by rw [List.length_append]; simp only [List.length_cons, List.length_nil]; omega, by rw [List.length_append, List.map_append]; exact hown', below_own (HB.out.alloc HB.out.size _) (Nat.le_refl _) (HO.out.alloc _) hgrow⟩, by simp [intOf]; omega⟩
              · have HF := Lib.hid (lstep_yes h4' ⟨h92, h120, by omega, by omega⟩)
                have g2 := vl_lt s[k + 2]; have g3 := vl_lt s[k + 3]
                have HT := Lib.hid (two_nat (h := s[k + 2]) (l := s[k + 3]) (by omega) (by omega))
                generalize two s[k + 2] s[k + 3] = T at *
                clear h92 h120
                go_wp2_with (go_at_call 10; refine (refValue_any _ _).mono ?_; rintro e w' ⟨rfl, rfl⟩)
                have e2 : IntKind.i64.wrap ((k : Int) + 2) = (k : Int) + 2 := by rw [IntKind.wrap_i64]; omega
                have e3 : IntKind.i64.wrap ((k : Int) + 3) = (k : Int) + 3 := by rw [IntKind.wrap_i64]; omega
                have e4 : IntKind.i64.wrap (16 * vl s[k + 2]) = 16 * vl s[k + 2] := by rw [IntKind.wrap_i64]; omega
                have e5 : IntKind.i64.wrap (16 * vl s[k + 2] + vl s[k + 3]) = 16 * vl s[k + 2] + vl s[k + 3] := by rw [IntKind.wrap_i64]; omega
                have e6 : IntKind.u8.wrap (16 * vl s[k + 2] + vl s[k + 3]) = (T.toNat : Int) := by rw [IntKind.wrap_u8, HT.out]; omega
                have i2 : (k : Int) + 2 < s.size := by omega
                have i3 : (k : Int) + 3 < s.size := by omega
                have i4 : 0 ≤ (k : Int) + 2 := by omega
                have i5 : 0 ≤ (k : Int) + 3 := by omega
                have m2 : ((k : Int) + 2).toNat = k + 2 := by omega
                have m3 : ((k : Int) + 3).toNat = k + 3 := by omega
                go_region_law (first | (go_simp; go_at_call 10; refine (refValue_any _ _).mono ?_; rintro e w' ⟨rfl, rfl⟩; go_wp2_with fail) | (refine step_append_lies _ rfl (.tmp 45) (.tmp 59) 27 rfl w.heap.size 5 i0 (.int .u8 0) 1 1 Tryd.underlying27 hi hz0 hz1 hz2 rfl (by decide) u4 p.length (p.map cb) (by simp [Act.eval]) (HO.out.alloc _).drew ⟨wr.heap.size, 0, none⟩ 1 1 [.int .u8 (T.toNat : Int)] (by simp [Act.eval]) rfl (cell_one_new wr _ _) (by simp [Value.oneCell']) (by decide) (by unfold maxLen; omega) (by omega) (by have := HB.out.size; simp; omega) (wr.heap.size + 1) (by simp) ?_; intro g cap w2 hown hgrow hat hlt))
                all_goals
                  simp only [List.getElem_toArray, List.getElem_cons_succ, List.getElem_cons_zero, Act.put, List.setIfInBounds_toArray, List.set_cons_succ, List.set_cons_zero]
                  go_wp2_with fail
                  exact ⟨⟨p ++ [T], k + 4, by omega, by go_num, Lib.hid (inv_step HI.out HF.out), by rw [List.length_append]; simp only [List.length_cons, List.length_nil]; omega, by rw [List.length_append, List.map_append]; exact hown, below_own ((HB.out.alloc HB.out.size _).drew) (Nat.le_refl _) ((HO.out.alloc _).drew) hgrow⟩, by simp [intOf]; omega⟩
          · have t2 : ((s[k + 1].toNat : Int) == 120) = false := by
              rw [beq_eq_false_iff_ne]; intro e; exact h120 (UInt8.toNat_inj.1 (by have : (120 : UInt8).toNat = 120 := rfl; omega))
            have HF := Lib.hid (lstep_not h4' (fun h => h120 h.2.1))
            clear h92 h120
            go_wp2_with (at_builtin; refine wpList_append_own _ rfl (.tmp 63) (.tmp 67) 27 rfl w.heap.size 5 i0 (.int .u8 0) 1 1 Tryd.underlying27 hi hz0 hz1 hz2 rfl (by decide) _ _ _ rfl (HO.out.alloc _) ⟨wr.heap.size, 0, none⟩ 1 1 [.int .u8 (s[k].toNat : Int)] rfl rfl (cell_one_new _ _ _) (by simp [Value.oneCell']) (by unfold maxLen; omega) (by omega) (by have := HB.out.size; simp; omega) ?_; intro v' w1 hown' hgrow _)
            exact ⟨⟨p ++ [s[k]], k + 1, by omega, by go_num, Lib.hid (inv_step HI.out HF.out), by rw [List.length_append]; simp only [List.length_cons, List.length_nil]; omega, by rw [List.length_append, List.map_append]; exact hown', below_own (HB.out.alloc HB.out.size _) (Nat.le_refl _) (HO.out.alloc _) hgrow⟩, by simp [intOf]; omega⟩
      · have t1 : ((s[k].toNat : Int) == 92) = false := by
          rw [beq_eq_false_iff_ne]; intro e; exact h92 (UInt8.toNat_inj.1 (by have : (92 : UInt8).toNat = 92 := rfl; omega))
        have HF := Lib.hid (lstep_plain hlt h92)
        clear h92
        go_wp2_with (at_builtin; refine wpList_append_own _ rfl (.tmp 63) (.tmp 67) 27 rfl w.heap.size 5 i0 (.int .u8 0) 1 1 Tryd.underlying27 hi hz0 hz1 hz2 rfl (by decide) _ _ _ rfl (HO.out.alloc _) ⟨wr.heap.size, 0, none⟩ 1 1 [.int .u8 (s[k].toNat : Int)] rfl rfl (cell_one_new _ _ _) (by simp [Value.oneCell']) (by unfold maxLen; omega) (by omega) (by have := HB.out.size; simp; omega) ?_; intro v' w1 hown' hgrow _)
        exact ⟨⟨p ++ [s[k]], k + 1, by omega, by go_num, Lib.hid (inv_step HI.out HF.out), by rw [List.length_append]; simp only [List.length_cons, List.length_nil]; omega, by rw [List.length_append, List.map_append]; exact hown', below_own (HB.out.alloc HB.out.size _) (Nat.le_refl _) (HO.out.alloc _) hgrow⟩, by simp [intOf]; omega⟩
    · have hlen : s.data.toList.length ≤ k := by rw [HSL.out]; omega
      obtain ⟨a, cap, hv⟩ := slice_form HO.out
      subst hv
      have HX := Lib.hid hlen
      clear hlen
      go_wp2_with fail
      refine (refQuote_nil none 0 _).mono ?_
      rintro e w1 ⟨rfl, hb1⟩
      have HB1 := Lib.hid (HB.out.trans (hb1.mono HB.out.size))
      have HO1 := Lib.hid (own_below HO.out hb1)
      clear hb1 HO HB
      cases hne : (s.toList == [92, 101])
      · have HNE := Lib.hid (show s.data.toList ≠ [92, 101] by intro h; rw [ByteArray.toList_eq, h] at hne; cases hne)
        by_cases hp0 : p = []
        · have hq : ((p.length : Int) == 0) = true := by rw [hp0]; rfl
          have HR := Lib.hid (inv_none (by rw [hp0] at HI; exact HI.out) HX.out HNE.out)
          clear hp0
          go_wp2_with fail
          go_ret2
          exact ⟨none, _, HR.out, rfl, World.ownsRow_nil _ _ _ _, HB1.out⟩
        · have hq : ((p.length : Int) == 0) = false := by
            rw [beq_eq_false_iff_ne]; intro h; exact hp0 (List.length_eq_zero_iff.1 (by omega))
          have hbs := bsl_of_owns rfl HO1.out
          have HQ := Lib.hid (fun W h => refQuote_any (.slice a p.length cap) ⟨p.toArray⟩ W h (by rw [ba_size]; omega))
          go_wp2_with fail
          refine (HQ.out _ hbs).mono ?_
          rintro e w2 ⟨rfl, hb2⟩
          have HB2 := Lib.hid (HB1.out.trans (hb2.mono HB1.out.size))
          have HO2 := Lib.hid (own_below HO1.out hb2)
          clear hb2 HB1 HO1 hbs HQ
          cases hqe : (quoteL p == s.toList)
          · have HR := Lib.hid (inv_other HI.out HX.out HNE.out (fun e => by rw [ByteArray.toList_eq, e, beq_self_eq_true] at hqe; cases hqe))
            go_wp2_with fail
            go_ret2
            exact ⟨none, _, HR.out, rfl, World.ownsRow_nil _ _ _ _, HB2.out⟩
          · have HR := Lib.hid (show Reads s.data.toList (some p) by rw [ByteArray.toList_eq] at hqe; exact eq_of_beq hqe)
            go_wp2_with fail
            go_ret2
            exact ⟨some p, _, HR.out, rfl, HO2.out, HB2.out⟩
      · have HR := Lib.hid (show Reads s.data.toList (some []) by
          have h2 : s.data.toList = [92, 101] := by rw [← ByteArray.toList_eq]; simpa using hne
          rw [h2]; exact reads_e)
        go_wp2_with fail
        go_ret2
        exact ⟨some [], _, HR.out, rfl, World.ownsRow_nil _ _ _ _, HB1.out⟩
end Go.Proofs.YtmlheppkclppfaaDoor.QuoW
