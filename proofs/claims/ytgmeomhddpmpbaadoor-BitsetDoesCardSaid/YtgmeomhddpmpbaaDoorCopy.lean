/- Walk of layer 14: Copy. -/
import Derived.Test.YtgmeomhddpmpbaaDoorKey
import Derived.Deep.RegionWith
namespace Go.Proofs.YtgmeomhddpmpbaaDoor.BitsW
set_option linter.unusedVariables false
open Go.RowKit Go.Shelf Go.Proofs.YtgmeomhddpmpbaaDoor.SetM Go.Proofs.YtgmeomhddpmpbaaDoor.SetW Go.Proofs.YtgmeomhddpmpbaaDoor.RegionU
attribute [local go_sem] Oper.semAt_some

/-- A slice of its own, of the same words. -/
def Cloned (w : World) (n : Nat) (f : Nat → Bool) (e : Ending) (w' : World) : Prop :=
  ∃ g cap : Nat, e = .returned (.slice (some ⟨g, 0, none⟩) (lenW n) cap) ∧ w.heap.size ≤ g ∧ w'.ownsRow 0 55 1 (.slice (some ⟨g, 0, none⟩) (lenW n) cap) (lenW n) (wds f (lenW n)) ∧ Below w.heap.size w w'
theorem words_ok {n : Nat} (h : n ≤ 1048576) : 0 + lenW n ≤ maxLen ∧ (0 + lenW n) * 8 ≤ 140737488355328 := by
  have := lenW_le h
  unfold maxLen; omega
theorem some_not_nil (q a b : Nat) (W : World) : (binOp BinOp.eql 52 (.slice (some ⟨q, 0, none⟩) a b) (.slice none 0 0)).run Tryd.prog W = .ok (.bool false) W := by kernel_rfl
theorem Clone_any (p q n cap : Nat) (f : Nat → Bool) (w : World) (hn : n ≤ 1048576) (h : Sw w p q n cap f) :
    Calls Tryd.prog 28 #[.slice (some ⟨q, 0, none⟩) (lenW n) cap] w (Cloned w n f) := by
  obtain ⟨i0, hi, hz0, hz1, hz2⟩ := info_parts infoWord
  have hnn := some_not_nil q (lenW n) cap
  have HS := Lib.hid h
  have HW := Lib.hid (words_ok hn)
  clear h
  go_enter Tryd.func28, Tryd.ntmps28
  have hown0 := World.ownsRow_lit (base := w.heap.size) (e := 55) (size := 1) w #[] 0 (Nat.le_refl _) (by unfold maxLen; omega) rfl
  have hS1 := HS.out.below ((Below.refl _ w).alloc (Nat.le_refl _) (.cells #[] 55))
  have hcells : ∀ (j : Nat) (u : Value), (wds f (lenW n))[j]? = some u → (w.alloc (.cells #[] 55)).cell? (Addr.add ⟨q, 0, none⟩ j) = some u := fun j u hj => by
    have hl : j < lenW n := by
      have := (List.getElem?_eq_some_iff.1 hj).1
      rwa [wds_length] at this
    rw [wds_at f _ j hl] at hj
    have : Addr.add ⟨q, 0, none⟩ j = ⟨q, j, none⟩ := by unfold Addr.add; split <;> simp_all
    rw [this, hS1.word hl]; exact hj
  go_wp2_with (first | (at_builtin; refine wpList_append_own _ rfl _ _ 52 rfl w.heap.size 55 i0 (.int .u64 0) 1 8 Tryd.underlying52 hi hz0 hz1 hz2 rfl (by decide) _ _ _ rfl hown0 ⟨q, 0, none⟩ (lenW n) cap (wds f (lenW n)) rfl (by rw [wds_length, Nat.mul_one]) hcells ?_ HW.out.1 HW.out.2 (by simp) ?_))
  · intro u hu
    simp only [wds, List.mem_map] at hu
    obtain ⟨j, _, rfl⟩ := hu
    rfl
  · intro v' w1 hown hg hv
    obtain ⟨g, cap', rfl, hge⟩ : ∃ g cap' : Nat, v' = .slice (some ⟨g, 0, none⟩) (lenW n) cap' ∧ w.heap.size ≤ g := by
      rcases hown.2 with ⟨h1, _⟩ | ⟨g, cap', _, h1, h2, _⟩
      · exact absurd h1 hv
      · exact ⟨g, cap', h1, h2⟩
    have HO := Lib.hid (owns_zero hown (Nat.zero_le _))
    have HB := Lib.hid (((Below.refl _ w).alloc (Nat.le_refl _) (.cells #[] 55)).grown hg (by simp) (fun k e => by simp only [Value.ownBlock, Option.some.injEq] at e; omega))
    clear hown hg hv hown0 hcells hS1
    go_wp2_with fail
    go_ret
    exact ⟨g, cap', rfl, hge, HO.out, HB.out⟩
/-- A set of its own, of the same numbers. -/
def Copied (w : World) (n : Nat) (f : Nat → Bool) (e : Ending) (w' : World) : Prop :=
  ∃ p q : Nat, w.heap.size ≤ p ∧ w.heap.size ≤ q ∧ e = .returned (.pointer (some ⟨p, 0, none⟩)) ∧ Bt w' p q n f ∧ Below w.heap.size w w'
set_option maxHeartbeats 2000000 in
theorem Copy_any (p q n : Nat) (f : Nat → Bool) (w : World) (h : Bt w p q n f) :
    Calls Tryd.prog 14 #[.pointer (some ⟨p, 0, none⟩)] w (Copied w n f) := by
  obtain ⟨cap, hS⟩ := h.sw
  have hS0 := hS.below (Below.refl _ w).drew
  have HS := Lib.hid hS; have HBT := Lib.hid h
  have hlt := h.lt
  have hp0 : p < w.drew.heap.size := hlt.1
  have HCL := Lib.hid (fun W h => Clone_any p q n cap f W HBT.out.room h)
  have HS0 := Lib.hid hS0
  have c0 := hS0.c0
  have c1 := hS0.c1
  clear hS h hS0
  go_enter Tryd.func14, Tryd.ntmps14
  go_wp2_with fail
  go_region_with (first | (go_at_call 28; refine (HCL.out _ HS0.out).mono ?_; rintro e w1 ⟨g, cap2, rfl, hge, hown, hb1⟩; have c2 := (hb1.cell (p := ⟨p, 0, none⟩) hp0).trans c0))
  all_goals
    go_wp2_with fail
    go_ret
    have hb2 : Below w.heap.size w w1 := (Below.refl _ _).drew.trans hb1
    exact ⟨w1.heap.size, g, hb2.size, hge, rfl, Bt.made HBT.out.room HBT.out.into hown, hb2.alloc hb2.size _⟩
end Go.Proofs.YtgmeomhddpmpbaaDoor.BitsW
