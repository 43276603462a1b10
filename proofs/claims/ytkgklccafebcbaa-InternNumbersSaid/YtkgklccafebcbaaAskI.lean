/- Walks of layer 15: New, Find, Key, Len, of numbers. -/
import Derived.Test.YtkgklccafebcbaaAskS
import Derived.Test.YtkgklccafebcbaaLookI
namespace Go.Proofs.Ytkgklccafebcbaa.IntW
set_option linter.unusedVariables false
open Go.RowKit Go.Maps

abbrev TblI (w : World) (p m : Nat) (v : Value) (l : List Value) (N : Nat) : Prop := Tbl Try.prog 3 61 3 1 w p m v l N
theorem NewI (w : World) :
    Calls Try.prog 17 #[] w fun e w' => ∃ p m, e = .returned (.pointer (some ⟨p, 0, none⟩)) ∧ w.heap.size ≤ p ∧ w.heap.size ≤ m ∧ TblI w' p m (.slice none 0 0) [] 0 ∧ Below w.heap.size w w' := by
  have hmm := @run_makeMap Try.prog
  go_enter Try.func17, Try.ntmps17
  go_wp2_with fail
  go_ret
  refine ⟨w.heap.size + 1, w.heap.size, by simp, by omega, by omega, ⟨fun x hx => by simp at hx, List.nodup_nil, by simp, ?_, ⟨.map [], ?_, Rd.empty _ _⟩, ⟨[], ⟨by simp, .inl ⟨rfl, rfl⟩⟩, fun _ => rfl⟩⟩, ((Below.refl _ w).alloc (Nat.le_refl _) _).alloc (by simp) _⟩
  · have h : w.heap.size + 1 = (w.alloc (.map #[] 0)).heap.size := by simp
    rw [h]
    exact Array.getElem?_push_size
  · exact (World.ownsMap_made w Try.prog 3 _).alloc _
theorem FindI (s : Int) (hs : (Lit.int .i64 s).wf = true) {w : World} {p m : Nat} {v : Value} {l : List Value} {N : Nat} (h : TblI w p m v l N) :
    Calls Try.prog 22 #[.pointer (some ⟨p, 0, none⟩), .int .i64 s] w fun e w' => ∃ i, Ix l (.int .i64 s) i ∧ e = .returned (.int .i64 i) ∧ Below w.heap.size w w' := by
  go_enter Try.func22, Try.ntmps22
  go_wp2_with fail
  refine (lookI s hs h).mono ?_
  rintro e w1 ⟨i, hi, rfl, hb⟩
  have HB := Lib.hid hb; have HI := Lib.hid hi
  clear hb hi
  go_wp2_with fail
  go_ret
  exact ⟨i, HI.out, rfl, HB.out⟩
theorem Find_nilI (x : Value) (w : World) :
    Calls Try.prog 22 #[.pointer none, x] w fun e w' => e = .returned (.int .i64 (-1)) ∧ Below w.heap.size w w' := by
  go_enter Try.func22, Try.ntmps22
  go_wp2_with fail
  refine (look_nilI x w).mono ?_
  rintro e w1 ⟨rfl, hb⟩
  have HB := Lib.hid hb
  clear hb
  go_wp2_with fail
  go_ret
  exact ⟨rfl, HB.out⟩
theorem LenI {w : World} {p m : Nat} {v : Value} {l : List Value} {N : Nat} (h : TblI w p m v l N) :
    Calls Try.prog 23 #[.pointer (some ⟨p, 0, none⟩)] w fun e w' => e = .returned (.int .i64 l.length) ∧ w' = w := by
  have c1 := h.c1
  obtain ⟨a, c, rfl, _, _⟩ := h.shape
  clear h
  go_enter Try.func23, Try.ntmps23
  go_wp2_with fail
  go_ret
  exact ⟨rfl, rfl⟩
theorem Len_nilI (w : World) :
    Calls Try.prog 23 #[.pointer none] w fun e w' => e = .returned (.int .i64 0) ∧ w' = w := by
  go_enter Try.func23, Try.ntmps23
  go_wp2_with fail
  go_ret
  exact ⟨rfl, rfl⟩
theorem KeyI (i : Int) {w : World} {p m : Nat} {v : Value} {l : List Value} {N : Nat} (h : TblI w p m v l N) :
    Calls Try.prog 21 #[.pointer (some ⟨p, 0, none⟩), .int .i64 i] w fun e w' =>
      ((∃ j : Nat, ∃ x, i = j ∧ l[j]? = some x ∧ e = .returned (.tuple #[x, .bool true])) ∨ ((i < 0 ∨ (l.length : Int) ≤ i) ∧ e = .returned (.tuple #[.int .i64 0, .bool false]))) ∧ w' = w := by
  have HT := Lib.hid h
  clear h
  by_cases h1 : i < 0
  · go_enter Try.func21, Try.ntmps21
    go_wp2_with fail
    go_ret2
    exact ⟨.inr ⟨.inl h1, rfl⟩, rfl⟩
  · by_cases h2 : (l.length : Int) ≤ i
    · go_enter Try.func21, Try.ntmps21
      go_wp2_with fail
      refine (LenI HT.out).mono ?_
      rintro e w1 ⟨rfl, rfl⟩
      go_wp2_with fail
      go_ret2
      exact ⟨.inr ⟨.inr h2, rfl⟩, rfl⟩
    · obtain ⟨j, rfl⟩ : ∃ j : Nat, i = j := ⟨i.toNat, by omega⟩
      have hj : j < l.length := by omega
      obtain ⟨xs, hrow, hxs⟩ := HT.out.row
      have hxl := hxs rfl
      rw [hxl] at hrow
      obtain ⟨g, c, hv, hn, hcm, hcell, _⟩ := owns_at hrow hj
      have c1 := HT.out.c1
      have HX := Lib.hid (List.getElem?_eq_getElem hj)
      have h5 := HX.out
      rw [h5] at hcell
      clear h5
      have h3 : 0 ≤ (j : Int) ∧ (j : Int) < (l.length : Int) := by omega
      have h4 : ((j : Int)).toNat = j := by omega
      obtain ⟨x, hx⟩ : ∃ x, x = l[j] := ⟨_, rfl⟩
      rw [← hx] at HX hcell
      subst hv
      clear hxs hxl hrow hn hcm hx hj
      generalize hL : l.length = L at *
      go_enter Try.func21, Try.ntmps21
      go_wp2_with fail
      refine (LenI HT.out).mono ?_
      rintro e w1 ⟨rfl, rfl⟩
      rw [hL]
      go_wp2_with fail
      go_ret2
      exact ⟨.inl ⟨j, x, rfl, HX.out, rfl⟩, rfl⟩
theorem Key_nilI (i : Int) (w : World) :
    Calls Try.prog 21 #[.pointer none, .int .i64 i] w fun e w' => e = .returned (.tuple #[.int .i64 0, .bool false]) ∧ w' = w := by
  by_cases h1 : i < 0
  · go_enter Try.func21, Try.ntmps21
    go_wp2_with fail
    go_ret2
    exact ⟨rfl, rfl⟩
  · have h2 : 0 ≤ i := by omega
    go_enter Try.func21, Try.ntmps21
    go_wp2_with fail
    refine (Len_nilI _).mono ?_
    rintro e w1 ⟨rfl, rfl⟩
    go_wp2_with fail
    go_ret2
    exact ⟨rfl, rfl⟩
end Go.Proofs.Ytkgklccafebcbaa.IntW
