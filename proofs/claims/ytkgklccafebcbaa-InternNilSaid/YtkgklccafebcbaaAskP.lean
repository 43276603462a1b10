/- Walks of layer 15: New, Find, Len, of pairs of numbers. -/
import Derived.Test.YtkgklccafebcbaaAskS
import Derived.Test.YtkgklccafebcbaaLookP
namespace Go.Proofs.Ytkgklccafebcbaa.IntW
set_option linter.unusedVariables false
open Go.RowKit Go.Maps

abbrev TblP (w : World) (p m : Nat) (v : Value) (l : List Value) (N : Nat) : Prop := Tbl Try.prog 46 65 3 2 w p m v l N
theorem NewP (w : World) :
    Calls Try.prog 18 #[] w fun e w' => ∃ p m, e = .returned (.pointer (some ⟨p, 0, none⟩)) ∧ w.heap.size ≤ p ∧ w.heap.size ≤ m ∧ TblP w' p m (.slice none 0 0) [] 0 ∧ Below w.heap.size w w' := by
  have hmm := @run_makeMap Try.prog
  go_enter Try.func18, Try.ntmps18
  go_wp2_with fail
  go_ret
  refine ⟨w.heap.size + 1, w.heap.size, by simp, by omega, by omega, ⟨fun x hx => by simp at hx, List.nodup_nil, by simp, ?_, ⟨.map [], ?_, Rd.empty _ _⟩, ⟨[], ⟨by simp, .inl ⟨rfl, rfl⟩⟩, fun h => by simp at h⟩⟩, ((Below.refl _ w).alloc (Nat.le_refl _) _).alloc (by simp) _⟩
  · have h : w.heap.size + 1 = (w.alloc (.map #[] 0)).heap.size := by simp
    rw [h]
    exact Array.getElem?_push_size
  · exact (World.ownsMap_made w Try.prog 46 _).alloc _
theorem FindP (x y : Int) (hx : (Lit.int .i64 x).wf = true) (hy : (Lit.int .i64 y).wf = true) {w : World} {p m : Nat} {v : Value} {l : List Value} {N : Nat} (h : TblP w p m v l N) :
    Calls Try.prog 25 #[.pointer (some ⟨p, 0, none⟩), .agg #[.int .i64 x, .int .i64 y]] w fun e w' => ∃ i, Ix l (.agg #[.int .i64 x, .int .i64 y]) i ∧ e = .returned (.int .i64 i) ∧ Below w.heap.size w w' := by
  go_enter Try.func25, Try.ntmps25
  go_wp2_with fail
  have hal : Below w.heap.size w (w.alloc (.cells #[.int .i64 x, .int .i64 y] 46)) := (Below.refl _ w).alloc (Nat.le_refl _) _
  refine (lookP x y hx hy (h.below hal)).mono ?_
  rintro e w1 ⟨i, hi, rfl, hb⟩
  have HB := Lib.hid (hal.trans (hb.mono (by simp))); have HI := Lib.hid hi
  clear hb hi hal
  go_wp2_with fail
  go_ret
  exact ⟨i, HI.out, rfl, HB.out⟩
theorem LenP {w : World} {p m : Nat} {v : Value} {l : List Value} {N : Nat} (h : TblP w p m v l N) :
    Calls Try.prog 24 #[.pointer (some ⟨p, 0, none⟩)] w fun e w' => e = .returned (.int .i64 l.length) ∧ w' = w := by
  have c1 := h.c1
  obtain ⟨a, c, rfl, _, _⟩ := h.shape
  clear h
  go_enter Try.func24, Try.ntmps24
  go_wp2_with fail
  go_ret
  exact ⟨rfl, rfl⟩
end Go.Proofs.Ytkgklccafebcbaa.IntW
