/- Walk of what must come, whatever is asked. -/
import Derived.Test.YtkghnjgioijgpaaTwo
import Derived.Test.YtkghnjgioijgpaaLive
import Derived.Lib.SlBytesConst
namespace Go.Proofs.Ytkghnjgioijgpaa.DfaW
set_option linter.unusedVariables false
open Go.RowKit Go.Maps Go.Proofs.Ytkghnjgioijgpaa.PartM Go.Proofs.Ytkghnjgioijgpaa.PartW Go.Proofs.Ytkghnjgioijgpaa.DfaM

theorem bs_new (w : World) (l : List Nat) (t : TypeId) (fr : Nat × Nat) (hl : l.length ≤ maxLen) (hb : ∀ b ∈ l, b < 256) : BS (w.alloc (.cells (l.map fun (b : Nat) => Value.int .u8 (b : Int)).toArray t fr)).heap.size (w.alloc (.cells (l.map fun (b : Nat) => Value.int .u8 (b : Int)).toArray t fr)) (.slice (some ⟨w.heap.size, 0, none⟩) l.length l.length) l := by
  refine ⟨⟨_, l.length, by simp, by simp, hl, fun i hi => ⟨w.heap.size, 0, rfl, by simp, ?_⟩⟩, hb⟩
  rw [World.cell?_alloc_mark, Nat.zero_add]; simp
theorem bs_nil (w : World) : BS w.heap.size w (.slice none 0 0) [] := ⟨VS.nil _ _ _, fun b hb => by cases hb⟩
theorem bx_store {w : World} {C : Array Value} {m : Mc} (h : IsM w.heap.size w C m) : Bx ((w.alloc (.cells Try.zeroCells27 27)).setRow w.heap.size C) w.heap.size C m := by
  refine ⟨(Ar.new _ _ _).row C, h.next ?_⟩
  exact below_row ((Below.refl _ _).alloc (Nat.le_refl _) _) (Nat.le_refl _) _
theorem ist_below (w : World) (C : Array Value) : Below w.heap.size w ((w.alloc (.cells Try.zeroCells27 27)).setRow w.heap.size C) := below_row ((Below.refl _ _).alloc (Nat.le_refl _) _) (Nat.le_refl _) _
theorem zc_size : (Try.zeroCells27).size = 260 := by rw [zc]; exact mkC_size zA_is.size _ _ _ _
theorem IsM.one {B : Nat} {w : World} {C : Array Value} {m : Mc} (h : IsM B w C m) : C.all (·.oneCell') = true := by
  rw [Array.all_eq_true]
  intro i hi
  have key : ∀ v, C[i]? = some v → v.oneCell' = true → (C[i]).oneCell' = true := fun v hv h1 => by
    rw [Array.getElem?_eq_getElem hi] at hv
    injection hv with hv
    rw [hv]; exact h1
  have hs := h.size
  by_cases h1 : i < 256
  · exact key _ (h.of' i h1) rfl
  · obtain ⟨v1, x1, y1⟩ := h.nx
    obtain ⟨v2, x2, y2⟩ := h.lb
    obtain ⟨v3, x3, y3⟩ := h.nm
    obtain ⟨_, _, rfl, _⟩ := y1.open
    obtain ⟨_, _, rfl, _⟩ := y2.open
    obtain ⟨_, _, rfl, _⟩ := y3.open
    have : i = 256 ∨ i = 257 ∨ i = 258 ∨ i = 259 := by omega
    rcases this with rfl | rfl | rfl | rfl
    · exact key _ h.wd rfl
    · exact key _ x1 rfl
    · exact key _ x2 rfl
    · exact key _ x3 rfl
section
variable {ops : Array Oper} {rest : List Oper} {op : Oper} {a : Act} {w : World} {Q : Exit → Act → World → Prop}
theorem wpList_load_dfa_g (hw : Region.wanted op (yielded ops a.tmps) = true) (x : Operand) (ho : op.op = .load 27 x) {b : Nat} (hx : a.eval x = .pointer (some ⟨b, 0, none⟩)) {C : Array Value} {m : Mc} (h : Bx w b C m)
    (hK : wpList Try.prog ops Q rest (a.put op.dst (.agg C)) w) : wpList Try.prog ops Q (op :: rest) a w :=
  wpList_step fun _ hK' => by
    rw [if_pos hw]
    unfold Oper.wp
    rw [run_load_dfa x ho hx h]
    exact hK' _ _ hK
end
set_option maxRecDepth 100000 in
set_option maxHeartbeats 4000000 in
theorem knows_any (w : World) : Calls Try.prog 12 #[] w fun e w' => e = .returned (.bool true) ∧ Below w.heap.size w w' := by
  have HT := Lib.hid (two_any)
  have kc := fun (w : World) (C : Array Value) (n c : Nat) => Lib.run_convert_bytes_const (P := Try.prog) w 31 5 C n c Try.underlying31 Try.underlying5
  go_enter Try.func12, Try.ntmps12
  go_wp2_with fail
  refine (HT.out _).mono ?_
  rintro e w1 ⟨C, rfl, hC, hb⟩
  have HC := Lib.hid hC; have HB := Lib.hid hb
  clear hC hb
  have HX := Lib.hid (bx_store HC.out)
  have HB2 := Lib.hid (HB.out.trans ((ist_below w1 C).mono HB.out.size))
  go_wp2_with (first | (refine wpList_store_dfa rfl (.tmp 1) (.tmp 2) rfl rfl rfl (Ar.new _ _ _) zc_size HC.out.size HC.out.one ?_; simp only [Act.put]) | refine wpList_load_dfa rfl (.tmp 1) rfl rfl HX.out ?_)
  refine (RightD_any _ HX.out.is).mono ?_
  rintro e w3 ⟨hs, hb⟩
  rcases hs.elim with ⟨rfl, _⟩ | ⟨_, hn⟩
  rotate_left
  · exact absurd two_ok hn
  have HX3 := Lib.hid (HX.out.below hb); have HB3 := Lib.hid (HB2.out.trans (hb.mono HB2.out.size))
  clear hb HX HB2 HC HB
  generalize w1.heap.size = b at *
  go_wp2_with (refine wpList_load_dfa_g rfl (.tmp 1) rfl rfl HX3.out ?_)
  refine (Tell_any (l := [97, 98, 99]) _ (HX3.out.alloc _).is (bs_new _ _ _ _ (by decide) (by decide))).mono ?_
  rintro e w4 ⟨rfl, hb⟩
  rw [two_tell]
  have HX4 := Lib.hid ((HX3.out.alloc _).below hb); have HB4 := Lib.hid ((HB3.out.alloc HB3.out.size _).trans (hb.mono (HB3.out.alloc HB3.out.size _).size))
  clear hb HX3 HB3
  go_wp2_with (refine wpList_load_dfa_g rfl (.tmp 1) rfl rfl HX4.out ?_)
  refine (Name_any' (l := [97]) _ (HX4.out.alloc _).is (bs_new _ _ _ _ (by decide) (by decide))).mono ?_
  rintro e w5 ⟨rfl, hb⟩
  rw [two_name]
  have HX5 := Lib.hid ((HX4.out.alloc _).below hb); have HB5 := Lib.hid ((HB4.out.alloc HB4.out.size _).trans (hb.mono (HB4.out.alloc HB4.out.size _).size))
  clear hb HX4 HB4
  have ho : (odd.toList == [111, 100, 100]) = true := by decide +kernel
  go_wp2_with (refine wpList_load_dfa_g rfl (.tmp 1) rfl rfl HX5.out ?_)
  refine (Name_any' (l := []) _ HX5.out.is (bs_nil _)).mono ?_
  rintro e w6 ⟨rfl, hb⟩
  rw [two_none]
  have HX6 := Lib.hid (HX5.out.below hb); have HB6 := Lib.hid (HB5.out.trans (hb.mono HB5.out.size))
  clear hb HX5 HB5
  have he : ByteArray.empty.toList = [] := by decide +kernel
  have he2 : (ByteArray.empty.toList == []) = true := by rw [he]; rfl
  go_wp2_with (refine wpList_load_dfa_g rfl (.tmp 1) rfl rfl HX6.out ?_)
  refine (Reach_any _ HX6.out.is).mono ?_
  rintro e w7 ⟨v7, rfl, ho7, hb⟩
  rw [two_reach] at ho7
  have HO7 := Lib.hid ho7
  obtain ⟨a7, c7, rfl, _, _⟩ := ho7.len
  have HX7 := Lib.hid (HX6.out.below hb); have HB7 := Lib.hid (HB6.out.trans (hb.mono HB6.out.size))
  clear hb HX6 HB6 ho7
  have HW := Lib.hid (is_new w7 [0, 1] 3 (by decide))
  go_wp2_with fail
  refine (Same17_any _ (B := w7.heap.size) (Nat.le_of_lt (by simp)) (Nat.le_refl _) (HO7.out.is.below ((Below.refl _ _).alloc (Nat.le_refl _) _)) HW.out).mono ?_
  rintro e w8 ⟨hs, hd⟩
  rcases hs.elim with ⟨rfl, _⟩ | ⟨_, hn⟩
  rotate_left
  · exact absurd rfl hn
  have hb1 := (Below.refl w7.heap.size w7).alloc (Nat.le_refl _) (.cells #[.int .i64 0, .int .i64 1] 3)
  have hb2 := hb1.trans (hd.below (B := w7.heap.size))
  have HX8 := Lib.hid (HX7.out.below hb2); have HB8 := Lib.hid (HB7.out.trans (hb2.mono HB7.out.size))
  clear hb1 hb2 hd HW HO7 HX7 HB7
  go_wp2_with (refine wpList_load_dfa_g rfl (.tmp 1) rfl rfl HX8.out ?_)
  refine (Live_any _ HX8.out.is).mono ?_
  rintro e w9 ⟨v9, rfl, ho9, hb⟩
  rw [two_live] at ho9
  have HO9 := Lib.hid ho9
  obtain ⟨a9, c9, rfl, _, _⟩ := ho9.len
  have HX9 := Lib.hid (HX8.out.below hb); have HB9 := Lib.hid (HB8.out.trans (hb.mono HB8.out.size))
  clear hb HX8 HB8 ho9
  have HW := Lib.hid (is_new w9 [0, 1] 3 (by decide))
  go_wp2_with fail
  refine (Same17_any _ (B := w9.heap.size) (Nat.le_of_lt (by simp)) (Nat.le_refl _) (HO9.out.is.below ((Below.refl _ _).alloc (Nat.le_refl _) _)) HW.out).mono ?_
  rintro e w10 ⟨hs, hd⟩
  rcases hs.elim with ⟨rfl, _⟩ | ⟨_, hn⟩
  rotate_left
  · exact absurd rfl hn
  have hb1 := (Below.refl w9.heap.size w9).alloc (Nat.le_refl _) (.cells #[.int .i64 0, .int .i64 1] 3)
  have hb2 := hb1.trans (hd.below (B := w9.heap.size))
  have HB10 := Lib.hid (HB9.out.trans (hb2.mono HB9.out.size))
  clear hb1 hb2 hd HW HO9 HX9 HB9
  go_wp2_with fail
  go_ret
  exact ⟨rfl, HB10.out⟩
end Go.Proofs.Ytkghnjgioijgpaa.DfaW
