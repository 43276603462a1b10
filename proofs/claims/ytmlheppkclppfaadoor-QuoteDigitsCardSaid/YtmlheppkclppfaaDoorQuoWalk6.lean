/- Walk of Unquote. -/
import Derived.Test.YtmlheppkclppfaaDoorQuoWalk5
import Derived.Deep.RegionLaw
import Derived.Deep.AppendLies
import Derived.WalkMore
namespace Go.Proofs.YtmlheppkclppfaaDoor.QuoW
set_option linter.unusedVariables false
open Go.RowKit Go.Proofs.YtmlheppkclppfaaDoor.QuoM
open Go.Proofs.YtmlheppkclppfaaDoor.Base (ret_bool ret_int ret_str BSl bytes_below ba_ext)

/-- How long a text is. -/
def strSz : Value → Nat | .string r => r.size | _ => 0
theorem list_cons {r : ByteArray} (h : 0 < r.size) : r.data.toList = r[0] :: r.data.toList.drop 1 := by
  have e : r.data.toList = r.data.toList.take 1 ++ r.data.toList.drop 1 := (List.take_append_drop 1 _).symm
  conv => lhs; rw [e]
  rw [List.take_succ_eq_append_getElem (by simpa using h)]
  rfl
theorem front_plain {r : ByteArray} (h : 0 < r.size) (hp : pl r[0] = true) : front r.data.toList = some (r[0], 1) := by
  rw [list_cons h]; exact front_pl hp
theorem front_code {r : ByteArray} (h : 0 < r.size) (hp : pl r[0] = false) : front r.data.toList = if cdB r.data.toList then some (cdV r.data.toList, 4) else none := by
  rw [show front r.data.toList = behind r[0] (r.data.toList.drop 1) by conv => { lhs; rw [list_cons h] }; exact front_npl hp]
  by_cases h4 : r.size < 4
  · rw [(cd_short h4).2]
    have hl : (r.data.toList.drop 1).length < 3 := by simp; omega
    match hd : r.data.toList.drop 1, hl with
    | [], _ => rfl
    | [a], _ => rfl
    | [a, b], _ => rfl
  · obtain ⟨t, ht⟩ := list4 (s := r) (by omega)
    rw [show r.data.toList.drop 1 = r[1] :: r[2] :: r[3] :: t by rw [ht]; rfl]
    unfold behind
    simp only
    by_cases hc : r[0] = 92 ∧ r[1] = 120 ∧ 0 ≤ vl r[2] ∧ 0 ≤ vl r[3]
    · obtain ⟨e1, e2⟩ := cd_yes (s := r) (by omega) hc
      rw [e1, e2, if_pos hc.1]
      unfold four
      cases hq : pl (two r[2] r[3])
      · rw [if_pos ⟨hc.2.1, hc.2.2.1, hc.2.2.2, hq⟩]; rfl
      · rw [if_neg (fun h => absurd (hq.symm.trans h.2.2.2) (by simp))]; rfl
    · obtain ⟨e1, e2⟩ := cd_not (s := r) (by omega) hc
      rw [e2]
      split
      · rename_i h92
        unfold four
        rw [if_neg (fun h => hc ⟨h92, h.1, h.2.1, h.2.2.1⟩)]; rfl
      · rfl
theorem code_short {r : ByteArray} (h : cdB r.data.toList = true) : 4 ≤ r.size := by
  by_cases h4 : r.size < 4
  · rw [(cd_short h4).2] at h; cases h
  · omega
/-- One byte more is read. -/
theorem read_one {s p : List UInt8} {r : ByteArray} {c : UInt8} {n : Nat} (h : s = ones p ++ r.data.toList) (hf : front r.data.toList = some (c, n)) : s = ones (p ++ [c]) ++ (r.extract n r.size).data.toList := by
  obtain ⟨h1, h2, _, _⟩ := front_some hf
  have hl : r.data.toList.length = r.size := by simp
  rw [h, ones_snoc, List.append_assoc, Lib.extract_data]
  have e : (r.data.toList.drop n).take (r.size - n) = r.data.toList.drop n := List.take_of_length_le (by simp)
  rw [e, ← h1]

theorem own_below {w w' : World} {base : Nat} {e : TypeId} {size : Nat} {v : Value} {n : Nat} {xs : List Value} (h : w.ownsRow base e size v n xs) (hb : Below w.heap.size w w') : w'.ownsRow base e size v n xs := by
  refine ⟨h.1, ?_⟩
  rcases h.2 with h1 | ⟨g, cap, cur, h1, h2, h3, h4⟩
  · exact .inl h1
  · refine .inr ⟨g, cap, cur, h1, h2, ?_, h4⟩
    rw [hb.block g ?_]
    · exact h3
    · rcases Nat.lt_or_ge g w.heap.size with hlt | hge
      · exact hlt
      · rw [Array.getElem?_eq_none hge] at h3; cases h3
theorem slice_form {W : World} {b : Nat} {e : TypeId} {size : Nat} {v : Value} {n : Nat} {xs : List Value} (h : W.ownsRow b e size v n xs) : ∃ a cap, v = .slice a n cap := by
  rcases h.2 with ⟨h1, h2⟩ | ⟨g, cap, _, h1, _⟩
  · exact ⟨none, 0, by rw [h1, h2]⟩
  · exact ⟨_, cap, h1⟩
set_option maxHeartbeats 1000000 in
theorem Unquote_row (s : ByteArray) (w : World) (he : Env w) (hs : s.size ≤ 140737488351232) (hne : (s.toList == [92, 101]) = false) :
    Calls Tryd.prog 16 #[.string s] w fun e w' => ∃ (o : Option (List UInt8)) (v : Value), Reads s.data.toList o ∧ e = .returned (.tuple #[v, .bool o.isSome]) ∧
      w'.ownsRow w.heap.size 5 1 v (o.getD []).length ((o.getD []).map cb) ∧ Below w.heap.size w w' := by
  obtain ⟨i0, hi, hz0, hz1, hz2⟩ := info_parts infoByte
  have HE := Lib.hid he
  have HNE := Lib.hid (show s.data.toList ≠ [92, 101] by intro h; rw [ByteArray.toList_eq, h] at hne; cases hne)
  clear he
  go_enter Tryd.func16, Tryd.ntmps16
  go_wp2_with fail
  go_step3
  go_wp2_with fail
  go_step3
  go_wp2_with fail
  go_loopw [0, 4] (fun x v wr => ∃ (p : List UInt8) (r : ByteArray), Hid (s.data.toList = ones p ++ r.data.toList) ∧ x = .string r ∧ r.size + p.length ≤ s.size ∧ wr.ownsRow w.heap.size 5 1 v p.length (p.map cb) ∧ Below w.heap.size w wr) (fun x _ _ => strSz x)
  case atStart => exact ⟨[], s, rfl, rfl, by simp, World.ownsRow_nil _ _ _ _, Below.refl _ _⟩
  case round =>
    obtain ⟨p, r, HS, rfl, hle, hown, hb⟩ := hrel
    have HO := Lib.hid hown; have HB := Lib.hid hb
    clear hown hb
    by_cases h0 : 0 < r.size
    · have he : r.toList.isEmpty = false := by
        rw [ByteArray.toList_eq, list_cons h0]; rfl
      have hn : ¬ r.toList = [] := by
        rw [ByteArray.toList_eq, list_cons h0]; simp
      cases hp : pl r[0]
      · have HF0 := Lib.hid (front_code h0 hp)
        have HP := Lib.hid hp; clear hp
        cases hcd : cdB r.data.toList
        · have HC := Lib.hid hcd; clear hcd
          have HR := Lib.hid (fun h => reads_stuck h HS.out (by rw [← ByteArray.toList_eq]; exact hn) (by rw [HF0.out, HC.out]; rfl))
          go_wp2_with fail
          refine (coded_any r _ (HE.out.below HB.out) (by unfold maxLen; omega)).mono ?_
          rw [HC.out]
          rintro e w1 ⟨rfl, hb1⟩
          have HB1 := Lib.hid (HB.out.trans (hb1.mono HB.out.size))
          have HO1 := Lib.hid (own_below HO.out hb1)
          have HL := Lib.hid hle
          clear HO hb1 HB hle
          go_wp2_with fail
          refine (Plain_any _ _ (HE.out.below HB1.out)).mono ?_
          rw [HP.out]
          rintro e w2 ⟨rfl, rfl⟩
          go_wp2_with fail
          rw [Exit.noGoto_ret]
          go_ret2
          exact ⟨none, _, HR.out HNE.out, rfl, World.ownsRow_nil _ _ _ _, HB1.out⟩
        · have h4 := code_short hcd
          have HC := Lib.hid hcd; clear hcd
          have HF := Lib.hid (show front r.data.toList = some (cdV r.data.toList, 4) by rw [HF0.out, HC.out]; rfl)
          go_wp2_with fail
          refine (coded_any r _ (HE.out.below HB.out) (by unfold maxLen; omega)).mono ?_
          rw [HC.out]
          generalize cdV r.data.toList = c at *
          rintro e w1 ⟨rfl, hb1⟩
          have HB1 := Lib.hid (HB.out.trans (hb1.mono HB.out.size))
          have HO1 := Lib.hid (own_below HO.out hb1)
          have HL := Lib.hid hle
          clear HO hb1 HB hle
          go_wp2_with fail
          refine (Plain_any _ _ (HE.out.below HB1.out)).mono ?_
          rw [HP.out]
          rintro e w2 ⟨rfl, rfl⟩
          go_wp2_with fail
          have h4s : (4 : Int) ≤ r.size := by omega
          go_region_law (refine step_append_lies _ rfl (.tmp 29) (.tmp 31) 27 rfl w.heap.size 5 i0 (.int .u8 0) 1 1 Tryd.underlying27 hi hz0 hz1 hz2 rfl (by decide) u4 p.length (p.map cb) (by simp [Act.eval]) (HO1.out.alloc _).drew ⟨w1.heap.size, 0, none⟩ 1 1 [.int .u8 (c.toNat : Int)] (by simp [Act.eval]) rfl (cell_one_new w1 _ _) (by simp [Value.oneCell']) (by decide) (by unfold maxLen; have := HL.out; omega) (by have := HL.out; omega) (by have := HB1.out.size; simp; omega) (w1.heap.size + 1) (by simp) ?_; intro g cap w2 hown hgrow hat hlt)
          simp only [List.getElem_toArray, List.getElem_cons_succ, List.getElem_cons_zero, Act.put, List.setIfInBounds_toArray, List.set_cons_succ, List.set_cons_zero]
          go_wp2_with fail
          exact ⟨⟨p ++ [c], r.extract 4 r.size, Lib.hid (read_one HS.out HF.out), rfl, by rw [ByteArray.size_extract]; have := HL.out; simp; omega, by rw [List.length_append, List.map_append]; exact hown, below_own ((HB1.out.alloc HB1.out.size _).drew) (Nat.le_refl _) ((HO1.out.alloc _).drew) hgrow⟩, by simp only [strSz]; rw [ByteArray.size_extract]; omega⟩
      · have HF := Lib.hid (front_plain h0 hp)
        have HP := Lib.hid hp; clear hp
        go_wp2_with fail
        refine (coded_any r _ (HE.out.below HB.out) (by unfold maxLen; omega)).mono ?_
        rintro e w1 ⟨rfl, hb1⟩
        have HB1 := Lib.hid (HB.out.trans (hb1.mono HB.out.size))
        have HO1 := Lib.hid (own_below HO.out hb1)
        have HL := Lib.hid hle
        clear HO hb1 HB hle
        go_wp2_with fail
        refine (Plain_any _ _ (HE.out.below HB1.out)).mono ?_
        rw [HP.out]
        rintro e w2 ⟨rfl, rfl⟩
        go_wp2_with fail
        have h1s : (1 : Int) ≤ r.size := by omega
        go_region_law (refine step_append_lies _ rfl (.tmp 20) (.tmp 23) 27 rfl w.heap.size 5 i0 (.int .u8 0) 1 1 Tryd.underlying27 hi hz0 hz1 hz2 rfl (by decide) u4 p.length (p.map cb) (by simp [Act.eval]) (HO1.out.alloc _).drew ⟨w1.heap.size, 0, none⟩ 1 1 [.int .u8 (r[0].toNat : Int)] (by simp [Act.eval]) rfl (cell_one_new w1 _ _) (by simp [Value.oneCell']) (by decide) (by unfold maxLen; have := HL.out; omega) (by have := HL.out; omega) (by have := HB1.out.size; simp; omega) (w1.heap.size + 1) (by simp) ?_; intro g cap w2 hown hgrow hat hlt)
        simp only [List.getElem_toArray, List.getElem_cons_succ, List.getElem_cons_zero, Act.put, List.setIfInBounds_toArray, List.set_cons_succ, List.set_cons_zero]
        go_wp2_with fail
        exact ⟨⟨p ++ [r[0]], r.extract 1 r.size, Lib.hid (read_one HS.out HF.out), rfl, by rw [ByteArray.size_extract]; have := HL.out; simp; omega, by rw [List.length_append, List.map_append]; exact hown, below_own ((HB1.out.alloc HB1.out.size _).drew) (Nat.le_refl _) ((HO1.out.alloc _).drew) hgrow⟩, by simp only [strSz]; rw [ByteArray.size_extract]; omega⟩
    · have hz : r.size = 0 := by omega
      have hz2 : r.data.toList = [] := List.length_eq_zero_iff.1 (by simpa using hz)
      have HA := Lib.hid (show s.data.toList = ones p by have h := HS.out; rw [hz2, List.append_nil] at h; exact h)
      have h1 : r.toList = [] := by rw [ByteArray.toList_eq]; exact hz2
      obtain ⟨a, cap, hv⟩ := slice_form HO.out
      subst hv
      clear hz hz2 HS h0
      by_cases hp0 : p = []
      · have hq : ((p.length : Int) == 0) = true := by rw [hp0]; rfl
        have HR := Lib.hid (show Reads s.data.toList none by rw [HA.out, hp0]; exact reads_empty)
        clear hp0
        go_wp2_with fail
        rw [Exit.noGoto_ret]
        go_ret2
        exact ⟨none, _, HR.out, rfl, World.ownsRow_nil _ _ _ _, HB.out⟩
      · have hq : ((p.length : Int) == 0) = false := by
          rw [beq_eq_false_iff_ne]; intro h; exact hp0 (List.length_eq_zero_iff.1 (by omega))
        have HR := Lib.hid (reads_all HA.out hp0)
        clear hp0
        go_wp2_with fail
        rw [Exit.noGoto_ret]
        go_ret2
        exact ⟨some p, _, HR.out, rfl, HO.out, HB.out⟩
theorem Unquote_e (s : ByteArray) (w : World) (he : (s.toList == [92, 101]) = true) :
    Calls Tryd.prog 16 #[.string s] w fun e w' => e = .returned (.tuple #[.slice none 0 0, .bool true]) ∧ w = w' := by
  go_enter Tryd.func16, Tryd.ntmps16
  go_wp2_with fail
  go_step3
  go_wp2_with fail
  rw [Exit.noGoto_ret]
  go_ret2
  exact ⟨rfl, rfl⟩
theorem Unquote_any (s : ByteArray) (w : World) (he : Env w) (hs : s.size ≤ 140737488351232) :
    Calls Tryd.prog 16 #[.string s] w fun e w' => ∃ (o : Option (List UInt8)) (v : Value), Reads s.data.toList o ∧ e = .returned (.tuple #[v, .bool o.isSome]) ∧
      w'.ownsRow w.heap.size 5 1 v (o.getD []).length ((o.getD []).map cb) ∧ Below w.heap.size w w' := by
  cases h : (s.toList == [92, 101])
  · exact Unquote_row s w he hs h
  · refine (Unquote_e s w h).mono ?_
    rintro e w' ⟨rfl, rfl⟩
    have h2 : s.data.toList = [92, 101] := by rw [← ByteArray.toList_eq]; simpa using h
    exact ⟨some [], _, by rw [h2]; exact reads_e, rfl, World.ownsRow_nil _ _ _ _, Below.refl _ _⟩
end Go.Proofs.YtmlheppkclppfaaDoor.QuoW
