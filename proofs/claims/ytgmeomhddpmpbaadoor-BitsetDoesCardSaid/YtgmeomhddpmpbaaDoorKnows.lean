/- The chapter's example. -/
import Derived.Test.YtgmeomhddpmpbaaDoorRefWalk
namespace Go.Proofs.YtgmeomhddpmpbaaDoor.BitsW
set_option linter.unusedVariables false
open Go.RowKit Go.Shelf Go.Proofs.YtgmeomhddpmpbaaDoor.SetM

def g1 : Nat → Bool := putF 70 emptyF 64
def g2 : Nat → Bool := putF 70 g1 3
def g3 : Nat → Bool := putF 70 g2 3
def g4 : Nat → Bool := putF 70 g3 70
theorem list643 : upTo g4 70 = [3, 64] := by decide +kernel
theorem b1 : putB 70 emptyF 64 = true := by decide +kernel
theorem b2 : putB 70 g1 3 = true := by decide +kernel
theorem b3 : putB 70 g2 3 = false := by decide +kernel
theorem b4 : putB 70 g3 70 = false := by decide +kernel
theorem EnvC.up {W W' : World} (h : EnvC W) {B : Nat} {r : Option Nat} (hb : But B r W W') (hg : 0 < B) (hr : r ≠ some 0) : EnvC W' := fun j hj => (hb.cell (p := ⟨_, j, none⟩) hg (fun e => hr e.symm)).trans (h j hj)
theorem lit364 (w : World) : NSl (w.alloc (.cells #[i64 3, i64 64] 3)) (.slice (some ⟨w.heap.size, 0, none⟩) 2 2) [3, 64] :=
  nsl_of (World.ownsRow_lit (base := 0) (size := 1) w #[i64 3, i64 64] 2 (Nat.zero_le _) (by unfold maxLen; omega) rfl)
set_option maxHeartbeats 2000000 in
theorem knows_any (w : World) (he : EnvC w) :
    Calls Tryd.prog 7 #[] w fun e w' => e = .returned (.bool true) ∧ Below w.heap.size w w' := by
  have HE := Lib.hid he
  clear he
  go_enter Tryd.func7, Tryd.ntmps7
  go_wp2_with fail
  refine (New_yes 70 _ (by decide)).mono ?_
  rintro e w1 (⟨_, p, q, hp, hq, rfl, hB, hb⟩ | ⟨h, _⟩)
  · have HB1 := Lib.hid hB; have HW1 := Lib.hid hb
    clear hB hb
    go_wp2_with fail
    refine (Put_any p q 70 emptyF 64 _ HB1.out).mono ?_
    rintro e w2 ⟨rfl, hB, hb⟩
    rw [b1]
    have hg := HE.out.lt
    have hqg : some q ≠ some 0 := fun e => by injection e; omega
    have HE1 := Lib.hid (HE.out.below hg HW1.out)
    have hs1 := HW1.out.size
    have HE2 := Lib.hid (HE1.out.up hb (Nat.lt_of_lt_of_le hg hs1) hqg)
    have HW2 := Lib.hid (HW1.out.trans ((hb.mono hs1).below (fun k e => by cases e; exact hq)))
    have HB2 := Lib.hid hB
    clear hB hb HB1 HW1 HE1 hs1
    go_wp2_with fail
    refine (Put_any p q 70 g1 3 _ HB2.out).mono ?_
    rintro e w3 ⟨rfl, hB, hb⟩
    rw [b2]
    have hs1 := HW2.out.size
    have HE3 := Lib.hid (HE2.out.up hb (Nat.lt_of_lt_of_le hg hs1) hqg)
    have HW3 := Lib.hid (HW2.out.trans ((hb.mono hs1).below (fun k e => by cases e; exact hq)))
    have HB3 := Lib.hid hB
    clear hB hb HB2 HW2 HE2 hs1
    go_wp2_with fail
    refine (Put_any p q 70 g2 3 _ HB3.out).mono ?_
    rintro e w4 ⟨rfl, hB, hb⟩
    rw [b3]
    have hs1 := HW3.out.size
    have HE4 := Lib.hid (HE3.out.up hb (Nat.lt_of_lt_of_le hg hs1) hqg)
    have HW4 := Lib.hid (HW3.out.trans ((hb.mono hs1).below (fun k e => by cases e; exact hq)))
    have HB4 := Lib.hid hB
    clear hB hb HB3 HW3 HE3 hs1
    go_wp2_with fail
    refine (Put_any p q 70 g3 70 _ HB4.out).mono ?_
    rintro e w5 ⟨rfl, hB, hb⟩
    rw [b4]
    have hs1 := HW4.out.size
    have HE5 := Lib.hid (HE4.out.up hb (Nat.lt_of_lt_of_le hg hs1) hqg)
    have HW5 := Lib.hid (HW4.out.trans ((hb.mono hs1).below (fun k e => by cases e; exact hq)))
    have HB5 := Lib.hid hB
    clear hB hb HB4 HW4 HE4 hs1
    go_wp2_with fail
    refine (All_any (some ⟨p, 0, none⟩) q 70 g4 _ (src_of HB5.out) HE5.out).mono ?_
    rintro e w6 ⟨u, rfl, hown, hb⟩
    have hnl := nsl_of hown
    rw [show upTo g4 70 = [3, 64] from list643] at hnl
    have HW6 := Lib.hid (HW5.out.trans (hb.mono HW5.out.size))
    have HB6 := Lib.hid (HB5.out.below hb)
    have HN6 := Lib.hid hnl
    clear hnl hown hb HB5 HW5 HE5
    go_wp2_with fail
    have hal : Below w6.heap.size w6 (w6.alloc (.cells #[.int .i64 3, .int .i64 64] 3)) := (Below.refl _ _).alloc (Nat.le_refl _) _
    have HN7 := Lib.hid (HN6.out.below hal); have HL7 := Lib.hid (lit364 w6); have HB7 := Lib.hid (HB6.out.below hal); have HW7 := Lib.hid (HW6.out.trans (hal.mono HW6.out.size))
    clear hal
    refine (refSame_any u _ [3, 64] [3, 64] _ HN7.out HL7.out (by decide) (by decide)).mono ?_
    rintro e w7 ⟨rfl, hb⟩
    have HB8 := Lib.hid (HB7.out.below hb); have HW8 := Lib.hid (HW7.out.trans (hb.mono HW7.out.size))
    clear hb
    rw [show (([3, 64] : List Nat) == [3, 64]) = true from by decide]
    go_wp2_with fail
    refine (Count_any (some ⟨p, 0, none⟩) q 70 g4 _ (src_of HB8.out)).mono ?_
    rintro e w8 ⟨rfl, hb⟩
    rw [show upTo g4 70 = [3, 64] from list643]
    have HW9 := Lib.hid (HW8.out.trans (hb.mono HW8.out.size))
    clear hb
    go_wp2_with fail
    go_ret
    exact ⟨rfl, HW9.out⟩
  · exact absurd h (by decide)
end Go.Proofs.YtgmeomhddpmpbaaDoor.BitsW
