/- Walks of layer 15: look, of numbers. -/
import Derived.Test.YtkgklccafebcbaaLookS
namespace Go.Proofs.Ytkgklccafebcbaa.IntW
set_option linter.unusedVariables false
open Go.RowKit Go.Maps
theorem lawI : Keyed Try.prog 3 := int_keyed Try.underlying3
theorem catchI (p q : Addr) (w : World) :
    CallsD Try.prog 34 #[.pointer (some p), .pointer (some q)] .returning w fun e u' w' => e = .returned (.tuple #[]) ∧ u' = .returning ∧ w' = w := by
  refine callsD_of_wpS Try.func34 rfl fun c₀ cs hu => ?_
  apply wpS_seq
  apply wpS_region
  simp [wpOpsS, go_sem, recoverD, hu, Try.ntmps34, Exit.thenS]
  refine wpS_cond (t := false) (by simp [Act.eval, Array.replicate]) ?_
  simp only [Bool.false_eq_true, if_false]
  refine wpS_of_wp (wp_skip ?_)
  cases c₀
  simp_all [bodyPostS, results, Try.results34]

theorem look_nilI (x : Value) (w : World) :
    Calls Try.prog 30 #[.pointer none, x] w fun e w' => e = .returned (.tuple #[.int .i64 (-1), .bool false]) ∧ Below w.heap.size w w' := by
  have h := hmf
  go_enter_defers Try.func30, Try.ntmps30
  go_wp2_with fail
  have hb : Below w.heap.size w ((w.alloc (.cells #[.int .i64 (-1)] 3)).alloc (.cells #[.bool false] 4)) := ((Below.refl _ w).alloc (Nat.le_refl _) _).alloc (by simp) _
  simp [bodyPostD, Leaves, results, Try.results30, go_sem]
  exact hb
theorem lookI (s : Int) (hs : (Lit.int .i64 s).wf = true) {w : World} {p m : Nat} {v : Value} {l : List Value} {N : Nat} (h : Tbl Try.prog 3 61 3 1 w p m v l N) :
    Calls Try.prog 30 #[.pointer (some ⟨p, 0, none⟩), .int .i64 s] w fun e w' => ∃ i, Ix l (.int .i64 s) i ∧ e = .returned (.tuple #[.int .i64 i, .bool true]) ∧ Below w.heap.size w w' := by
  have h1 := hmf
  have hkey := keyOf_int_mk (P := Try.prog) Try.underlying3 hs
  have hb : Below w.heap.size w ((w.alloc (.cells #[.int .i64 0] 3)).alloc (.cells #[.bool false] 4)) := ((Below.refl _ w).alloc (Nat.le_refl _) _).alloc (by simp) _
  have h2 := h.below hb
  have c0 := h2.c0
  obtain ⟨D, hown, hD⟩ := h2.look hkey
  have HB := Lib.hid hb
  clear h hb h2
  rcases hD with ⟨j, hj, hhas, hat0⟩ | ⟨hx, hhas⟩
  · have HJ := Lib.hid hj; have HH := Lib.hid hhas
    clear hj hhas
    go_enter_defers Try.func30, Try.ntmps30
    go_wp2_with (first | (at_lookup; refine wpList_lookup_own_ok_int _ rfl _ _ 59 rfl 3 3 .i64 lawI Try.underlying59 Try.underlying3 (zeroI _) m N D rfl hown _ _ rfl hkey ?_; intro c hat hwc; rw [HH.out]))
    refine leaves_cons (f := 34) (args := #[.pointer (some ⟨w.heap.size, 0, none⟩), .pointer (some ⟨w.heap.size + 1, 0, none⟩)]) (by simp) (by simp [go_sem]) ?_
    refine (catchI ⟨w.heap.size, 0, none⟩ ⟨w.heap.size + 1, 0, none⟩ _).mono ?_
    rintro e u' w'' ⟨rfl, rfl, rfl⟩
    have hc : c = j := by have h := (hat0 _).symm.trans hat; simp at h; exact h.symm
    simp [Leaves, settle, results, Try.results30, go_sem]
    exact ⟨c, .inl ⟨j, hc, HJ.out⟩, rfl, ((Below.refl _ w).alloc (Nat.le_refl _) _).alloc (by simp) _⟩
  · have HX := Lib.hid hx; have HH := Lib.hid hhas
    clear hx hhas
    go_enter_defers Try.func30, Try.ntmps30
    go_wp2_with (first | (at_lookup; refine wpList_lookup_own_ok_int _ rfl _ _ 59 rfl 3 3 .i64 lawI Try.underlying59 Try.underlying3 (zeroI _) m N D rfl hown _ _ rfl hkey ?_; intro c hat hwc; rw [HH.out]))
    refine leaves_cons (f := 34) (args := #[.pointer (some ⟨w.heap.size, 0, none⟩), .pointer (some ⟨w.heap.size + 1, 0, none⟩)]) (by simp) (by simp [go_sem]) ?_
    refine (catchI ⟨w.heap.size, 0, none⟩ ⟨w.heap.size + 1, 0, none⟩ _).mono ?_
    rintro e u' w'' ⟨rfl, rfl, rfl⟩
    simp [Leaves, settle, results, Try.results30, go_sem]
    exact ⟨-1, .inr ⟨rfl, HX.out⟩, rfl, ((Below.refl _ w).alloc (Nat.le_refl _) _).alloc (by simp) _⟩
end Go.Proofs.Ytkgklccafebcbaa.IntW
