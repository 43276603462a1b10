/- Walk of the statements' example. -/
import Derived.Test.YtogdjgfgmdphgaaDoorRight
import Derived.Test.YtogdjgfgmdphgaaDoorWord
import Derived.Test.YtogdjgfgmdphgaaDoorSame
namespace Go.Proofs.YtogdjgfgmdphgaaDoor.TreeW
set_option linter.unusedVariables false
open Go.RowKit Go.Proofs.YtogdjgfgmdphgaaDoor.TreeM
open Go.Proofs.YtogdjgfgmdphgaaDoor.Base (BSl bytes_below)
/-- The tree of the example. -/
def exL : List Tr := [.mk (leaf (SetM.ofF [97])) [], .mk (leaf (SetM.ofF [98])) []]
theorem ex_word : listT 4 2 (wordL ⟨#[97, 98]⟩) = .mk (ofKind 4) exL := rfl
theorem ex_none : listT 4 2 (wordL ByteArray.empty) = .mk (ofKind 2) [] := rfl
theorem ex_size : sizeL exL = 2 := by unfold exL; rw [sizeL_cons, sizeL_cons, sizeL_nil, size_mk, size_mk, sizeL_nil]
theorem okR_leaf (f : Nat → Bool) : okR (leaf f) 0 = true := by unfold okR leaf; simp
theorem ex_right : right (.mk (ofKind 4) exL) = true := by
  unfold right
  rw [size_mk, ex_size, allR_kids]
  show (_ && (allRL exL && okR (ofKind 4) 2)) = true
  unfold exL
  rw [allRL_cons, allRL_cons, allRL_nil, allR_kids, allR_kids]
  show (_ && ((allRL [] && okR (leaf _) 0) && ((allRL [] && okR (leaf _) 0) && true) && okR (ofKind 4) 2)) = true
  rw [allRL_nil, okR_leaf, okR_leaf]
  simp [okR, ofKind]
theorem two_bytes (w : World) : BSl (w.alloc (.cells #[.int .u8 97, .int .u8 98] 5)) (.slice (some ⟨w.heap.size, 0, none⟩) 2 2) ⟨#[97, 98]⟩ :=
  .inr ⟨w.heap.size, 0, 2, rfl, Nat.le_refl _, by unfold maxLen; omega, fun i hi => by
    have e : i = 0 ∨ i = 1 := by have : i < 2 := hi; omega
    rcases e with rfl | rfl <;> (rw [World.cell?_alloc_new]; rfl)⟩
def ExPost (w : World) (e : Ending) (w' : World) : Prop := ∃ a c, e = .returned (NV ⟨4, 0, 0, 0, 0, 0, 0⟩ (.slice a 2 c)) ∧ Lies 0 w'.heap.size w' (.slice a 2 c) exL ∧ Below w.heap.size w w'
def NoPost (w : World) (e : Ending) (w' : World) : Prop := ∃ a c, e = .returned (NV ⟨2, 0, 0, 0, 0, 0, 0⟩ (.slice a 0 c)) ∧ Lies 0 w'.heap.size w' (.slice a 0 c) [] ∧ Below w.heap.size w w'
set_option maxHeartbeats 2000000 in
theorem knows_any (w : World) (he : Env w) : Calls Tryd.prog 15 #[] w fun e w' => e = .returned (.bool true) ∧ Below w.heap.size w w' := by
  have hb0 := (Below.refl w.heap.size w).alloc (Nat.le_refl _) (.cells #[.int .u8 97, .int .u8 98] 5)
  have HB0 := Lib.hid hb0
  have hw := Word_any _ ⟨#[97, 98]⟩ _ (two_bytes w) (by decide)
  rw [ex_word] at hw
  have hw' : Calls Tryd.prog 23 #[.slice (some ⟨w.heap.size, 0, none⟩) 2 2] (w.alloc (.cells #[.int .u8 97, .int .u8 98] 5)) (ExPost (w.alloc (.cells #[.int .u8 97, .int .u8 98] 5))) :=
    hw.mono fun e w' ⟨a, c, h1, h2, h3⟩ => ⟨a, c, h1, h2.mono (Nat.zero_le _) (Nat.le_refl _), h3⟩
  have HW := Lib.hid hw'
  have hw0 : ∀ W, Calls Tryd.prog 23 #[.slice none 0 0] W (NoPost W) := fun W => by
    have h := Word_any (.slice none 0 0) ByteArray.empty W (.inl ⟨none, rfl, rfl⟩) (by decide)
    rw [ex_none] at h
    exact h.mono fun e w' ⟨a, c, h1, h2, h3⟩ => ⟨a, c, h1, h2.mono (Nat.zero_le _) (Nat.le_refl _), h3⟩
  have HW0 := Lib.hid hw0
  have HE := Lib.hid he
  have HSZ := Lib.hid (fun a c W (h : Lies 0 W.heap.size W (.slice a 2 c) exL) => (by
    have := Size_any ⟨4, 0, 0, 0, 0, 0, 0⟩ exL a c W h
    rw [ex_size, show wrap64 ((2 + 1 : Nat) : Int) = 3 by simp [wrap64]] at this
    exact this : Calls Tryd.prog 9 #[NV ⟨4, 0, 0, 0, 0, 0, 0⟩ (.slice a 2 c)] W fun e W' => e = .returned (.int .i64 3) ∧ Below W.heap.size W W'))
  have HRI := Lib.hid (fun a c W (h0 : Env W) (h : Lies 0 W.heap.size W (.slice a 2 c) exL) => (by
    have := Right_any ⟨4, 0, 0, 0, 0, 0, 0⟩ exL a c W h0 h
    rw [show right (.mk ⟨4, 0, 0, 0, 0, 0, 0⟩ exL) = true from ex_right] at this
    exact this : Calls Tryd.prog 7 #[NV ⟨4, 0, 0, 0, 0, 0, 0⟩ (.slice a 2 c)] W fun e W' => e = .returned (.bool true) ∧ Below W.heap.size W W'))
  have HSA := Lib.hid (fun a c a' c' W (h : Lies 0 W.heap.size W (.slice a 0 c) []) (h' : Lies 0 W.heap.size W (.slice a' 0 c') []) => (by
    have := Same_any ⟨2, 0, 0, 0, 0, 0, 0⟩ [] a c ⟨2, 0, 0, 0, 0, 0, 0⟩ [] a' c' W h h'
    rw [eqT_self] at this
    exact this : Calls Tryd.prog 16 #[NV ⟨2, 0, 0, 0, 0, 0, 0⟩ (.slice a 0 c), NV ⟨2, 0, 0, 0, 0, 0, 0⟩ (.slice a' 0 c')] W fun e W' => e = .returned (.bool true) ∧ Below W.heap.size W W'))
  have HEM := Lib.hid (fun W => (Empty_any W : Calls Tryd.prog 35 #[] W fun e w' => e = .returned (NV ⟨2, 0, 0, 0, 0, 0, 0⟩ (.slice none 0 0)) ∧ Below W.heap.size W w'))
  clear hw hw' hw0 hb0 he
  go_enter Tryd.func15, Tryd.ntmps15
  go_wp2_with fail
  refine HW.out.mono ?_
  rintro e w1 ⟨a1, c1, rfl, hL2, hb1⟩
  have hb2 := HB0.out.trans (hb1.mono HB0.out.size)
  have hbx := (Below.refl w1.heap.size w1).alloc (Nat.le_refl _) (.cells #[.int .i64 4, .int .u64 0, .int .u64 0, .int .u64 0, .int .u64 0, .slice a1 2 c1, .int .i64 0, .int .i64 0] 28)
  have hn3 : NodeAt (w1.alloc (.cells #[.int .i64 4, .int .u64 0, .int .u64 0, .int .u64 0, .int .u64 0, .slice a1 2 c1, .int .i64 0, .int .i64 0] 28)) w1.heap.size 0 ⟨4, 0, 0, 0, 0, 0, 0⟩ (.slice a1 2 c1) := NodeAt.new w1 ⟨4, 0, 0, 0, 0, 0, 0⟩ (.slice a1 2 c1) 28
  have HL3 := Lib.hid (hL2.grow hbx); have HN3 := Lib.hid hn3; have HEN3 := Lib.hid ((HE.out.grow hb2).grow hbx); have HB3 := Lib.hid (hb2.trans (hbx.mono hb2.size))
  clear hb1 hb2 hL2 hbx hn3
  go_wp2_with fail
  refine (HSZ.out a1 c1 _ HL3.out).mono ?_
  rintro e w2 ⟨rfl, hb⟩
  have hn := HN3.out.below HN3.out.lt hb
  have HL4 := Lib.hid (HL3.out.grow hb); have HEN4 := Lib.hid (HEN3.out.grow hb); have HB4 := Lib.hid (HB3.out.trans (hb.mono HB3.out.size)); have HN4 := Lib.hid hn
  have c0 := hn.c0; have d1 := hn.c1; have d2 := hn.c2; have d3 := hn.c3; have d4 := hn.c4; have d5 := hn.c5; have d6 := hn.c6; have d7 := hn.c7
  clear hb hn
  go_wp2_with fail
  refine (HRI.out a1 c1 _ HEN4.out HL4.out).mono ?_
  rintro e w3 ⟨rfl, hb⟩
  have HB5 := Lib.hid (HB4.out.trans (hb.mono HB4.out.size))
  clear hb c0 d1 d2 d3 d4 d5 d6 d7
  go_wp2_with fail
  refine (HW0.out _).mono ?_
  rintro e w4 ⟨a4, c4, rfl, hl4, hb⟩
  have HB6 := Lib.hid (HB5.out.trans (hb.mono HB5.out.size)); have HL6 := Lib.hid hl4
  clear hb hl4
  go_wp2_with fail
  refine (HEM.out _).mono ?_
  rintro e w5 ⟨rfl, hb⟩
  have HB7 := Lib.hid (HB6.out.trans (hb.mono HB6.out.size)); have HL7 := Lib.hid (HL6.out.grow hb)
  clear hb
  go_wp2_with fail
  refine (HSA.out a4 c4 none 0 _ HL7.out (.nil _ _ (fun _ => rfl))).mono ?_
  rintro e w6 ⟨rfl, hb⟩
  have HB8 := Lib.hid (HB7.out.trans (hb.mono HB7.out.size))
  clear hb
  go_wp2_with fail
  go_ret
  exact ⟨rfl, HB8.out⟩
end Go.Proofs.YtogdjgfgmdphgaaDoor.TreeW
