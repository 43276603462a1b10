/- Walk of layer 3 (quote): Quote. -/
import Derived.Test.YtmlheppkclppfaaDoorQuoWalk3
import Derived.Lib.AppendStr
import Derived.Laws.MakeOwn
import Derived.OwnWalk
import Derived.RangeFuncBox
import Derived.Laws.BytesArg
namespace Go.Proofs.YtmlheppkclppfaaDoor.QuoW
set_option linter.unusedVariables false
open Go.RowKit Go.Proofs.YtmlheppkclppfaaDoor.QuoM
open Go.Proofs.YtmlheppkclppfaaDoor.Base (ret_bool ret_int ret_str BSl bytes_below ba_ext)

/-- A byte in a cell. -/
def cb (c : UInt8) : Value := .int .u8 (c.toNat : Int)
theorem infoByte : (Tryd.prog.info? 5).map (fun i => (i.zero, i.size, i.bytes)) = some (some (.int .u8 0), 1, 1) := by kernel_rfl
theorem ba_size (l : List UInt8) : (⟨l.toArray⟩ : ByteArray).size = l.length := rfl
theorem strOf_cb (l : List UInt8) : strOfNums (l.map fun c => (c.toNat : Int)) = ⟨l.toArray⟩ := by
  apply ba_ext
  rw [strOfNums_data, List.map_map]
  have : (fun n => UInt8.ofNat n.toNat) ∘ (fun c : UInt8 => (c.toNat : Int)) = id := by
    funext c
    show UInt8.ofNat ((c.toNat : Int)).toNat = c
    rw [Int.toNat_natCast]; exact u8_self c
  rw [this]; simp
theorem conv_owned {W : World} {b n : Nat} {v : Value} {l : List UInt8} (hn : l.length = n) (h : W.ownsRow b 5 1 v n (l.map cb)) : (convert 27 9 v).run Tryd.prog W = .ok (.string ⟨l.toArray⟩) W := by
  subst hn
  rcases h.2 with ⟨h1, h2⟩ | ⟨g, cap, _, h1, _⟩
  · have h3 : l = [] := List.length_eq_zero_iff.1 h2
    rw [h1, h3]
    exact run_convert_bytes_nil (P := Tryd.prog) W 27 5 Tryd.underlying27 Tryd.underlying5 0 0 9 Tryd.underlying9
  · have h' := h
    rw [h1] at h' ⊢
    have := run_convert_bytes_arg (P := Tryd.prog) W 27 5 Tryd.underlying27 Tryd.underlying5 g 0 l.length cap (l.map fun c => (c.toNat : Int)) (by simp) (fun i hi => by
      rw [Nat.zero_add, h'.cellAt i (by omega), List.getElem?_map, List.getElem?_eq_getElem hi]
      simp [hi, cb]) 9 Tryd.underlying9
    rw [strOf_cb] at this
    exact this
theorem below_own {B n : Nat} {a w w' : World} {v : Value} {xs : List Value} {e : TypeId} {k : Nat} (hb : Below B a w) (hB : B ≤ a.heap.size) (hown : w.ownsRow B e k v n xs) (hg : w.grownBy w' v.ownBlock) : Below B a w' := by
  refine hb.grown hg (Nat.le_trans hB hb.size) (fun j hj => ?_)
  rcases hown.2 with ⟨h1, _⟩ | ⟨g, cap, _, h1, h2, _⟩
  · rw [h1] at hj; cases hj
  · rw [h1] at hj; cases hj; exact h2
theorem dg_div (c : UInt8) : dg ((c.toNat : Int) / 16) = ((hx (c.toNat / 16)).toNat : Int) := by
  have := c.toNat_lt
  rw [show ((c.toNat : Int) / 16) = ((c.toNat / 16 : Nat) : Int) by omega]
  exact dg_in (by omega)
theorem dg_mod (c : UInt8) : dg ((c.toNat : Int) % 16) = ((hx (c.toNat % 16)).toNat : Int) := by
  have := c.toNat_lt
  rw [show ((c.toNat : Int) % 16) = ((c.toNat % 16 : Nat) : Int) by omega]
  exact dg_in (by omega)
theorem take_snoc (s : ByteArray) (k : Nat) (h : k < s.size) : s.data.toList.take (k + 1) = s.data.toList.take k ++ [s[k]] := by
  rw [List.take_succ_eq_append_getElem (by simpa using h)]; rfl
theorem ones_take (s : ByteArray) (k : Nat) (h : k < s.size) : ones (s.data.toList.take (k + 1)) = ones (s.data.toList.take k) ++ one s[k] := by
  rw [take_snoc s k h, ones_snoc]
theorem one_plain {c : UInt8} (h : pl c = true) : one c = [c] := if_pos h
theorem one_coded {c : UInt8} (h : pl c = false) : one c = [92, 120, hx (c.toNat / 16), hx (c.toNat % 16)] := if_neg (by simp [h])
theorem ones_take_le (s : ByteArray) (k : Nat) : (ones (s.data.toList.take k)).length ≤ 4 * s.size := by
  have h := ones_length_le (s.data.toList.take k)
  have h2 : (s.data.toList.take k).length ≤ s.size := by rw [List.length_take]; simp; omega
  omega
theorem quote_ones (s : ByteArray) (h : 0 < s.size) : quoteL s.data.toList = ones s.data.toList := by
  have hl : s.data.toList.length = s.size := by simp
  exact if_neg (fun e => by rw [e] at hl; simp at hl; omega)

set_option maxHeartbeats 1000000 in
theorem Quote_row (s : ByteArray) (b o cap : Nat) (w : World) (he : Env w) (hs : s.size ≤ 17592186044416) (h0 : 0 < s.size) (hcap : s.size ≤ cap) (hm : cap ≤ maxLen) (hB : Lib.Bytes w b o s) :
    Calls Tryd.prog 14 #[.slice (some ⟨b, o, none⟩) s.size cap] w fun e w' => e = .returned (.string ⟨(quoteL s.data.toList).toArray⟩) ∧ Below w.heap.size w w' := by
  obtain ⟨i0, hi, hz0, hz1, hz2⟩ := info_parts infoByte
  unfold maxLen at hm
  have HE := Lib.hid he
  have HB := Lib.hid hB
  have HQ := Lib.hid (quote_ones s h0)
  have hn0 : ((s.size : Int) == 0) = false := by rw [beq_eq_false_iff_ne]; omega
  clear he hB
  obtain ⟨wm, hmk, hownm, hgm⟩ := run_make_own (P := Tryd.prog) w w.heap.size 27 5 i0 (.int .u8 0) 1 Tryd.underlying27 hi hz0 hz1 .i64 .i64 s.size (by rw [hz2]; omega) (by unfold maxLen; omega) (Nat.le_refl _)
  have hBm : Below w.heap.size w wm := (Below.refl _ _).grown hgm (Nat.le_refl _) (fun k e => by cases e)
  have HM := Lib.hid hownm; have HBM := Lib.hid hBm
  clear hownm hgm hBm
  go_enter Tryd.func14, Tryd.ntmps14
  go_wp2_with fail
  clear hmk
  go_loopw [3, 14] (fun v i wr => ∃ k : Nat, k ≤ s.size ∧ i = .int .i64 k ∧ wr.ownsRow w.heap.size 5 1 v (ones (s.data.toList.take k)).length ((ones (s.data.toList.take k)).map cb) ∧ Below w.heap.size w wr) (fun _ i _ => s.size - (intOf i).toNat)
  case atStart => exact ⟨0, Nat.zero_le _, rfl, by rw [List.take_zero]; exact HM.out, HBM.out⟩
  case round =>
    obtain ⟨k, hk, rfl, hown, hb⟩ := hrel
    by_cases hlt : k < s.size
    · have hc := bytes_below HB.out hb k hlt
      have HS := Lib.hid (ones_take s k hlt)
      have HL := Lib.hid (ones_take_le s k)
      have HO := Lib.hid hown; have HBE := Lib.hid hb
      clear hown hb
      generalize ones (s.data.toList.take k) = l at *
      have hb8 : s[k].toNat ≤ 255 := by have := s[k].toNat_lt; omega
      cases hp : pl s[k]
      · have HP := Lib.hid hp; clear hp
        go_wp2_with fail
        refine (Plain_any _ _ (HE.out.below HBE.out)).mono ?_
        rw [HP.out]
        rintro e w1 ⟨rfl, rfl⟩
        go_wp2_with (at_builtin; refine Lib.wpList_append_own_string _ rfl _ _ 27 9 rfl w.heap.size 5 i0 Tryd.underlying27 Tryd.underlying9 hi hz0 hz1 hz2 _ _ _ rfl HO.out { data := #[92, 120] } rfl (by unfold maxLen; rw [show (({ data := #[92, 120] } : ByteArray)).size = 2 from rfl]; have := HL.out; omega) (by rw [show (({ data := #[92, 120] } : ByteArray)).size = 2 from rfl]; have := HL.out; omega) HBE.out.size ?_; intro v1 w1 hown1 hgrow1 _)
        have hb1 := below_own HBE.out (Nat.le_refl _) HO.out hgrow1
        have hown2 : w1.ownsRow w.heap.size 5 1 v1 (l.length + 2) (List.map cb (l ++ [92, 120])) := by rw [List.map_append]; exact hown1
        have HB1 := Lib.hid hb1; have HO1 := Lib.hid hown2
        clear hb1 hown1 hown2 hgrow1
        refine (Digit_any _ _ (by omega) (by omega)).mono ?_
        rw [dg_div]
        rintro e w2 ⟨rfl, rfl⟩
        go_wp2_with fail
        refine (Digit_any _ _ (by omega) (by omega)).mono ?_
        rw [dg_mod]
        rintro e w2 ⟨rfl, rfl⟩
        go_wp2_with (at_builtin; refine wpList_append_own _ rfl _ _ 27 rfl w.heap.size 5 i0 (.int .u8 0) 1 1 Tryd.underlying27 hi hz0 hz1 hz2 rfl (by decide) _ _ _ rfl (HO1.out.alloc _) ⟨w1.heap.size, 0, none⟩ 2 2 [.int .u8 ((hx (s[k].toNat / 16)).toNat : Int), .int .u8 ((hx (s[k].toNat % 16)).toNat : Int)] rfl rfl (cell_two_new _ _ _ _) (by simp [Value.oneCell']) (by unfold maxLen; have := HL.out; omega) (by have := HL.out; omega) (by have := HB1.out.size; simp; omega) ?_; intro v' w2 hown' hgrow _)
        refine ⟨⟨k + 1, by omega, by go_num, ?_, below_own (HB1.out.alloc HB1.out.size _) (Nat.le_refl _) (HO1.out.alloc _) hgrow⟩, by simp [intOf]; omega⟩
        rw [HS.out, one_coded HP.out, List.length_append, List.map_append]
        rw [List.map_append, List.append_assoc] at hown'
        exact hown'
      · have HP := Lib.hid hp; clear hp
        go_wp2_with fail
        refine (Plain_any _ _ (HE.out.below HBE.out)).mono ?_
        rw [HP.out]
        rintro e w1 ⟨rfl, rfl⟩
        go_wp2_with (at_builtin; refine wpList_append_own _ rfl _ _ 27 rfl w.heap.size 5 i0 (.int .u8 0) 1 1 Tryd.underlying27 hi hz0 hz1 hz2 rfl (by decide) _ _ _ rfl (HO.out.alloc _) ⟨wr.heap.size, 0, none⟩ 1 1 [.int .u8 (s[k].toNat : Int)] rfl rfl (cell_one_new _ _ _) (by simp [Value.oneCell']) (by unfold maxLen; have := HL.out; omega) (by have := HL.out; omega) (by have := HBE.out.size; simp; omega) ?_; intro v' w1 hown' hgrow _)
        refine ⟨⟨k + 1, by omega, by go_num, ?_, below_own (HBE.out.alloc HBE.out.size _) (Nat.le_refl _) (HO.out.alloc _) hgrow⟩, by simp [intOf]; omega⟩
        rw [HS.out, one_plain HP.out, List.length_append, List.map_append]
        exact hown'
    · have e : s.data.toList.take k = s.data.toList := List.take_of_length_le (by simp; omega)
      rw [e] at hown
      have HC := Lib.hid (conv_owned rfl hown)
      clear e hown
      have hcv := HC.out
      have HBE := Lib.hid hb
      clear hb
      go_wp2_with fail
      go_ret
      exact ⟨ret_str (by rw [HQ.out]), HBE.out⟩
theorem quote_empty {s : ByteArray} (h : s.size = 0) : quoteL s.data.toList = [92, 101] := by
  have hl : s.data.toList.length = s.size := by simp
  rw [List.length_eq_zero_iff.1 (hl.trans h)]; rfl
theorem Quote_nil (ad : Option Addr) (c : Nat) (w : World) : Calls Tryd.prog 14 #[.slice ad 0 c] w fun e w' => e = .returned (.string { data := #[92, 101] }) ∧ w = w' := by
  go_enter Tryd.func14, Tryd.ntmps14
  go_wp2_with fail
  go_ret
  exact ⟨rfl, rfl⟩
theorem Quote_any (v : Value) (s : ByteArray) (w : World) (he : Env w) (hv : BSl w v s) (hs : s.size ≤ 17592186044416) :
    Calls Tryd.prog 14 #[v] w fun e w' => e = .returned (.string ⟨(quoteL s.data.toList).toArray⟩) ∧ Below w.heap.size w w' := by
  rcases hv with ⟨ad, rfl, rfl⟩ | ⟨b, o, cap, rfl, hcap, hm, hB⟩
  · refine (Quote_nil ad 0 w).mono ?_
    rintro e w' ⟨rfl, rfl⟩
    exact ⟨rfl, Below.refl _ _⟩
  · by_cases h0 : 0 < s.size
    · exact Quote_row s b o cap w he hs h0 hcap hm hB
    · have hz : s.size = 0 := by omega
      rw [quote_empty hz, hz]
      refine (Quote_nil _ cap w).mono ?_
      rintro e w' ⟨rfl, rfl⟩
      exact ⟨rfl, Below.refl _ _⟩
end Go.Proofs.YtmlheppkclppfaaDoor.QuoW
