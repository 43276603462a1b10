/- Walks of layer 14: New; what a nil set does; the sequence itself. -/
import Derived.Test.YtgmeomhddpmpbaaDoorBtWalk1
import Derived.RangeFuncBox
import Derived.Deep.RegionWith
import Derived.RangeFuncLeaves
import Derived.RangeFuncNested
import Derived.RangeFuncBound
import Derived.RangeFuncCalls
import Derived.Shelf.Abstract
import Derived.OwnWalkIn
import Derived.TacticsInMore
import Derived.LoopNIn
import Derived.LoopIn
import Derived.Maps.AppendAt
namespace Go.Proofs.YtgmeomhddpmpbaaDoor.BitsW
set_option linter.unusedVariables false
open Go.RowKit Go.Shelf Go.Proofs.YtgmeomhddpmpbaaDoor.SetM
attribute [local go_sem] Oper.semAt_some

theorem infoWord : (Tryd.prog.info? 55).map (fun i => (i.zero, i.size, i.bytes)) = some (some (.int .u64 0), 1, 8) := by kernel_rfl
theorem wds_empty (k : Nat) : wds emptyF k = List.replicate k (.int .u64 0) := by
  apply List.ext_getElem?
  intro j
  by_cases hj : j < k
  · rw [wds_at _ _ _ hj, wd_empty]; simp [hj]
  · rw [List.getElem?_eq_none (by rw [wds_length]; omega), List.getElem?_eq_none (by simp; omega)]
/-- An empty set, or none. -/
def Newed (i : Int) (w : World) (e : Ending) (w' : World) : Prop :=
  (inR 1048577 i = true ∧ ∃ p q : Nat, w.heap.size ≤ p ∧ w.heap.size ≤ q ∧ e = .returned (.tuple #[.pointer (some ⟨p, 0, none⟩), .int .i64 0]) ∧ Bt w' p q i.toNat emptyF ∧ Below w.heap.size w w') ∨
  (inR 1048577 i = false ∧ e = .returned (.tuple #[.pointer none, .int .i64 2]) ∧ w = w')
theorem New_no (i : Int) (w : World) (h : inR 1048577 i = false) :
    Calls Tryd.prog 6 #[.int .i64 i] w (Newed i w) := by
  have HI := Lib.hid h
  cases h1 : decide (i < 0)
  · have h2 : decide (1048576 < i) = true := by simp [inR] at *; omega
    clear h
    go_enter Tryd.func6, Tryd.ntmps6
    go_wp2_with fail
    go_ret2
    exact .inr ⟨HI.out, rfl, rfl⟩
  · clear h
    go_enter Tryd.func6, Tryd.ntmps6
    go_wp2_with fail
    go_ret2
    exact .inr ⟨HI.out, rfl, rfl⟩
theorem Bt.made {W : World} {q n cap : Nat} {f : Nat → Bool} (hn : n ≤ 1048576) (hi : ∀ i, f i = true → i < n) (h : W.ownsRow 0 55 1 (.slice (some ⟨q, 0, none⟩) (lenW n) cap) (lenW n) (wds f (lenW n))) :
    Bt (W.alloc (.cells #[.int .i64 n, .slice (some ⟨q, 0, none⟩) (lenW n) cap] 54)) W.heap.size q n f :=
  ⟨hn, hi, cap, World.alloc_heap_new W _, h.alloc _⟩
theorem make_words (n : Nat) (hn : n ≤ 1048576) (w : World) :
    ∃ w', (Instr.makeSlice 52 (.int .i64 (lenW n : Nat)) (.int .i64 (lenW n : Nat))).run Tryd.prog w = .ok (.slice (some ⟨w.heap.size, 0, none⟩) (lenW n) (lenW n)) w' ∧
      w'.ownsRow 0 55 1 (.slice (some ⟨w.heap.size, 0, none⟩) (lenW n) (lenW n)) (lenW n) (wds emptyF (lenW n)) ∧ w.grownBy w' none := by
  obtain ⟨i0, hi, hz0, hz1, hz2⟩ := info_parts infoWord
  have hl := lenW_le hn
  obtain ⟨w', h1, h2, h3⟩ := run_make_full (P := Tryd.prog) w 0 52 55 i0 (.int .u64 0) 1 Tryd.underlying52 hi hz0 hz1 .i64 .i64 (lenW n) (by rw [hz2]; omega) (by unfold maxLen; omega) (Nat.zero_le _)
  refine ⟨w', h1, ?_, h3⟩
  have e : (madeCells (Value.int IntKind.u64 0).cells (lenW n * 1)).toList = wds emptyF (lenW n) := by
    rw [wds_empty, Nat.mul_one]
    exact toList_madeCells_one (Value.int IntKind.u64 0) (lenW n)
  rw [← e]; exact h2
theorem New_yes (n : Nat) (w : World) (hn : n ≤ 1048576) :
    Calls Tryd.prog 6 #[.int .i64 n] w (Newed n w) := by
  have h1 : decide ((n : Int) < 0) = false := by simp
  have h2 : decide (1048576 < (n : Int)) = false := by simp; omega
  have H1 := Lib.hid (fun W => length_any n hn W)
  have HM := Lib.hid (fun W => make_words n hn W)
  have HI := Lib.hid (show inR 1048577 (n : Int) = true by simp [inR]; omega)
  go_enter Tryd.func6, Tryd.ntmps6
  go_wp2_with fail
  have b0 := Boxed.new w 51 (.int .i64 n)
  have hb0 : Below w.heap.size w (w.alloc (.cells #[.int .i64 n] 51)) := (Below.refl _ _).alloc (Nat.le_refl _) _
  have hs0 : w.heap.size < (w.alloc (.cells #[.int .i64 n] 51)).heap.size := by simp
  generalize w.alloc (.cells #[.int .i64 n] 51) = W0 at *
  obtain ⟨R, hR⟩ : ∃ R, R = w.heap.size := ⟨_, rfl⟩
  have HB0 := Lib.hid hb0; have HR := Lib.hid hR
  rw [← hR] at b0 hs0 ⊢
  have c0 : W0.drew.cell? ⟨R, 0, none⟩ = some (.int .i64 n) := b0.cell
  clear hb0 hR b0
  go_region_with (first | (go_at_call 24; refine (H1.out _).mono ?_; rintro e w1 ⟨rfl, hb1⟩; obtain ⟨wm, hmk, hown, hgm⟩ := HM.out w1; have c1 := (hb1.cell (p := ⟨R, 0, none⟩) hs0).trans c0; have c2 := hgm.cell c1 (by simp)))
  all_goals
    go_wp2_with fail
    go_ret2
    have hb2 : Below W0.heap.size W0 w1 := (Below.refl _ _).drew.trans hb1
    have hb3 := (hb2.grown hgm hb2.size (fun k e => by cases e)).alloc (by have := hb2.size; have := hgm.size; omega) (.cells #[.int .i64 n, .slice (some ⟨w1.heap.size, 0, none⟩) (lenW n) (lenW n)] 54)
    have hs2 := hb2.size
    have hs3 := hgm.size
    refine .inl ⟨HI.out, wm.heap.size, w1.heap.size, by rw [← HR.out]; omega, by rw [← HR.out]; omega, rfl, Bt.made hn (fun i h => by cases h) hown, HB0.out.trans (hb3.mono HB0.out.size)⟩
theorem New_any (i : Int) (w : World) : Calls Tryd.prog 6 #[.int .i64 i] w (Newed i w) := by
  cases h : inR 1048577 i
  · exact New_no i w h
  · obtain ⟨k, rfl, hk⟩ := inR_nat h
    exact New_yes k w (by omega)
/-! ### A nil set -/
theorem Room_nil (w : World) : Calls Tryd.prog 15 #[.pointer none] w fun e w' => e = .returned (.int .i64 0) ∧ w = w' := by
  go_enter Tryd.func15, Tryd.ntmps15
  go_wp2_with fail
  go_ret
  exact ⟨rfl, rfl⟩
theorem Has_nil (i : Int) (w : World) : Calls Tryd.prog 19 #[.pointer none, .int .i64 i] w fun e w' => e = .returned (.bool false) ∧ w = w' := by
  go_enter Tryd.func19, Tryd.ntmps19
  go_wp2_with fail
  go_ret
  exact ⟨rfl, rfl⟩
theorem Put_nil (i : Int) (w : World) : Calls Tryd.prog 8 #[.pointer none, .int .i64 i] w fun e w' => e = .returned (.bool false) ∧ w = w' := by
  go_enter Tryd.func8, Tryd.ntmps8
  go_wp2_with fail
  go_ret
  exact ⟨rfl, rfl⟩
theorem Take_nil (i : Int) (w : World) : Calls Tryd.prog 10 #[.pointer none, .int .i64 i] w fun e w' => e = .returned (.bool false) ∧ w = w' := by
  have H := Lib.hid (fun W => Has_nil i W)
  go_enter Tryd.func10, Tryd.ntmps10
  go_wp2_with fail
  refine (H.out _).mono ?_
  rintro e w1 ⟨rfl, rfl⟩
  go_wp2_with fail
  go_ret
  exact ⟨rfl, rfl⟩
theorem Copy_nil (w : World) : Calls Tryd.prog 14 #[.pointer none] w fun e w' => e = .returned (.pointer none) ∧ w = w' := by
  go_enter Tryd.func14, Tryd.ntmps14
  go_wp2_with fail
  go_ret
  exact ⟨rfl, rfl⟩
theorem Or_nil (p : Option Addr) (w : World) : Calls Tryd.prog 12 #[.pointer none, .pointer p] w fun e w' => e = .returned (.bool false) ∧ Below w.heap.size w w' := by
  go_enter Tryd.func12, Tryd.ntmps12
  go_wp2_with fail
  go_ret
  exact ⟨rfl, (Below.refl _ _).alloc (Nat.le_refl _) _⟩
theorem Meets_nil (p : Option Addr) (w : World) : Calls Tryd.prog 21 #[.pointer none, .pointer p] w fun e w' => e = .returned (.bool false) ∧ Below w.heap.size w w' := by
  go_enter Tryd.func21, Tryd.ntmps21
  go_wp2_with fail
  exact bodyPost_ret (v := .bool false) (by simp [results, Tryd.results21, go_sem]) rfl ⟨rfl, ((Below.refl _ _).alloc (Nat.le_refl _) _).alloc (by simp) _⟩
end Go.Proofs.YtgmeomhddpmpbaaDoor.BitsW
