/- Walks of Show, in both texts. -/
import Derived.Test.YtgllaecahijlpaaDoorNumWalk3
import Derived.Test.YtgllaecahijlpaaDoorShelf
import Derived.Below
import Derived.WalkSmall
import Derived.Laws.BytesArg
namespace Go.Proofs.YtgllaecahijlpaaDoor.NumW
open Go.RowKit Go.Proofs.YtgllaecahijlpaaDoor.NumM

theorem run_conv1 (w : World) (n : Int) : (convert 28 9 (.slice (some ⟨w.heap.size, 0, none⟩) 1 1)).run Tryd.prog (w.alloc (.cells #[.int .u8 n] 5)) = .ok (.string (strOfNums [n])) (w.alloc (.cells #[.int .u8 n] 5)) :=
  run_convert_bytes_arg (P := Tryd.prog) (w.alloc (.cells #[.int .u8 n] 5)) 28 5 Tryd.underlying28 Tryd.underlying5 w.heap.size 0 1 1 [n] rfl (fun i hi => by
    obtain rfl : i = 0 := by omega
    exact World.cell?_alloc_new w _ _ 0) 9 Tryd.underlying9
theorem ret_str {a b : ByteArray} (h : a = b) : Ending.returned (.string a) = .returned (.string b) := by rw [h]
theorem ba_ext {a b : ByteArray} (h : a.data.toList = b.data.toList) : a = b := ByteArray.ext (Array.toList_inj.1 h)
theorem ba_app (l m : List UInt8) : (⟨l.toArray⟩ ++ ⟨m.toArray⟩ : ByteArray) = ⟨(l ++ m).toArray⟩ := ba_ext (by simp)
theorem nDigits_le (n : Nat) : Lib.nDigits n ≤ n + 1 := by
  induction n using Nat.strongRecOn with
  | _ n ih =>
    by_cases h : n < 10
    · rw [Lib.nDigits_small h]; omega
    · rw [Lib.nDigits_big h]; have := ih (n / 10) (by omega); omega
theorem dec_one_str {n : Int} (h0 : 0 ≤ n) (h : n < 10) : strOfNums [48 + n] = ⟨(Lib.decDigits n.toNat).toArray⟩ := by
  rw [dec_lt (by omega)]
  apply ba_ext
  simp only [strOfNums_data, List.map_cons, List.map_nil]
  rw [show (48 + n).toNat = 48 + n.toNat by omega]
theorem dec_two_str {n : Int} (h : 10 ≤ n) : (⟨(Lib.decDigits (n / 10).toNat).toArray⟩ ++ ⟨(Lib.decDigits (n % 10).toNat).toArray⟩ : ByteArray) = ⟨(Lib.decDigits n.toNat).toArray⟩ := by
  rw [ba_app, dec_ge (n := n.toNat) (by omega), show (n / 10).toNat = n.toNat / 10 by omega, show (n % 10).toNat = n.toNat % 10 by omega, dec_lt (n := n.toNat % 10) (by omega)]

theorem refShow_any (k : Nat) : ∀ (n : Int) (w : World), 0 ≤ n → n ≤ 9223372036854775807 → n ≤ k →
    Calls Tryd.prog 10 #[.int .i64 n] w fun e w' => e = .returned (.string ⟨(Lib.decDigits n.toNat).toArray⟩) ∧ Below w.heap.size w w' := by
  have base : ∀ (n : Int) (w : World), 0 ≤ n → n < 10 →
    Calls Tryd.prog 10 #[.int .i64 n] w fun e w' => e = .returned (.string ⟨(Lib.decDigits n.toNat).toArray⟩) ∧ Below w.heap.size w w' := by
    intro n w h0 h10
    have hc := run_conv1 w (48 + n)
    go_enter Tryd.func10, Tryd.ntmps10
    go_wp2_with fail
    go_ret
    exact ⟨ret_str (dec_one_str h0 h10), (Below.refl _ _).alloc (Nat.le_refl _) _⟩
  induction k with
  | zero =>
    intro n w h0 h1 hk
    exact base n w h0 (by omega)
  | succ k ih =>
    intro n w h0 h1 hk
    have IH := Lib.hid ih; clear ih
    by_cases h10 : n < 10
    · exact base n w h0 h10
    · clear base
      have hl1 : (Lib.decDigits (n / 10).toNat).length ≤ 922337203685477581 := by
        rw [Lib.decDigits_length]; have := nDigits_le (n / 10).toNat; omega
      have hl2 : (Lib.decDigits (n % 10).toNat).length ≤ 10 := by
        rw [Lib.decDigits_length]; have := nDigits_le (n % 10).toNat; omega
      go_enter Tryd.func10, Tryd.ntmps10
      go_wp2_with fail
      refine (IH.out _ _ (by omega) (by omega) (by omega)).mono ?_
      rintro e w1 ⟨rfl, hb1⟩
      go_wp2_with fail
      refine (IH.out _ _ (by omega) (by omega) (by omega)).mono ?_
      rintro e w2 ⟨rfl, hb2⟩
      go_wp2_with fail
      go_ret
      exact ⟨ret_str (dec_two_str (by omega)), hb1.trans (hb2.mono hb1.size)⟩

/-! ### num.Show: strconv.Itoa, which reads a table of the library's -/
/-- The table of the powers of ten, and that it lies below. -/
def Env (w : World) : Prop := Lib.TabIs Tryd.prog w "internal/strconv.uint64pow10" .u64 Lib.pow10Tab ∧ 0 < w.heap.size
theorem gPow : Tryd.prog.globalNamed "internal/strconv.uint64pow10" = some 0 := by kernel_rfl
theorem Env.below {w w' : World} (h : Env w) (hb : Below w.heap.size w w') : Env w' :=
  ⟨var?_below hb gPow h.2 h.1, Nat.lt_of_lt_of_le h.2 hb.size⟩
theorem Env.of {w : World} (h : Lib.TabIs Tryd.prog w "internal/strconv.uint64pow10" .u64 Lib.pow10Tab) : Env w :=
  ⟨h, World.block_lt_of_cell? _ _ (h.cell gPow 0 (by decide))⟩
theorem heap_grow_old (w : World) (k : Nat) (os : Array Obj) (j : Nat) (hj : j < w.heap.size) : (Sort.grow (w.drewN k) os).heap[j]? = w.heap[j]? := by
  show (w.heap ++ os)[j]? = _
  rw [Array.getElem?_append_left hj]
theorem below_grow (w : World) (k : Nat) (os : Array Obj) : Below w.heap.size w (Sort.grow (w.drewN k) os) :=
  ⟨rfl, rfl, rfl, by show w.heap.size ≤ (w.heap ++ os).size; rw [Array.size_append]; omega, fun j hj => heap_grow_old w k os j hj⟩
/-- The text of a number: its digits, or none. -/
def showL (n : Int) : List UInt8 := if n < 0 then [] else Lib.decDigits n.toNat
theorem showL_neg {n : Int} (h : n < 0) : showL n = [] := if_pos h
theorem showL_pos {n : Int} (h : 0 ≤ n) : showL n = Lib.decDigits n.toNat := if_neg (by omega)
theorem itoa_pos {n : Int} (h : 0 ≤ n) : Lib.itoa n = Lib.decDigits n.toNat := if_neg (by omega)

theorem Show_any (n : Int) (w : World) (h0 : -9223372036854775808 ≤ n) (h1 : n ≤ 9223372036854775807) (he : Env w) :
    Calls Tryd.prog 9 #[.int .i64 n] w fun e w' => e = .returned (.string ⟨(showL n).toArray⟩) ∧ Below w.heap.size w w' := by
  have HE := Lib.hid he; clear he
  by_cases hn : n < 0
  · have hs := Lib.hid (showL_neg hn)
    go_enter Tryd.func9, Tryd.ntmps9
    go_wp2_with fail
    go_ret
    exact ⟨ret_str (by rw [hs.out]), Below.refl _ _⟩
  · have hs := Lib.hid (showL_pos (n := n) (by omega))
    have hi := Lib.hid (itoa_pos (n := n) (by omega))
    go_enter Tryd.func9, Tryd.ntmps9
    go_wp2_with (go_at_call 21; refine (Tryd.strconv_Itoa _ (by omega) (by omega) _ HE.out.1).mono ?_; rintro e w' ⟨rfl, k, os, rfl⟩)
    go_ret
    exact ⟨ret_str (by rw [hs.out, hi.out]), below_grow _ _ _⟩

theorem refShowAll_any (n : Int) (w : World) (h1 : n ≤ 9223372036854775807) :
    Calls Tryd.prog 10 #[.int .i64 n] w fun e w' => e = .returned (.string ⟨(showL n).toArray⟩) ∧ Below w.heap.size w w' := by
  by_cases hn : n < 0
  · have hs := Lib.hid (showL_neg hn)
    go_enter Tryd.func10, Tryd.ntmps10
    go_wp2_with fail
    go_ret
    exact ⟨ret_str (by rw [hs.out]), Below.refl _ _⟩
  · rw [showL_pos (by omega)]
    exact refShow_any n.toNat n w (by omega) h1 (by omega)
end Go.Proofs.YtgllaecahijlpaaDoor.NumW
