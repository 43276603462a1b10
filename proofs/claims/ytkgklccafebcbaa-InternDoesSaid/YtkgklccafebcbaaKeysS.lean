/- Walks of layer 15: Keys, of texts. -/
import Derived.Test.YtkgklccafebcbaaAskS
import Derived.Test.YtkgklccafebcbaaShelf
namespace Go.Proofs.Ytkgklccafebcbaa.IntW
set_option linter.unusedVariables false
open Go.RowKit Go.Maps

theorem key_string {x : Value} {lx : Lit} (h : keyOf Try.prog 9 x = some lx) : ∃ s : ByteArray, x = .string s ∧ s.size ≤ maxLen := by
  rw [keyOf_string Try.underlying9] at h
  unfold mapKey at h
  rw [Try.underlying9] at h
  split at h <;> simp_all
theorem strs_of {l : List Value} (h : ∀ x ∈ l, ∃ lx, keyOf Try.prog 9 x = some lx) : ∃ ss : List ByteArray, l = ss.map .string ∧ ∀ s ∈ ss, s.size ≤ maxLen := by
  induction l with
  | nil => exact ⟨[], rfl, fun s hs => by simp at hs⟩
  | cons x l ih =>
    obtain ⟨ss, rfl, h2⟩ := ih fun y hy => h y (List.mem_cons_of_mem _ hy)
    obtain ⟨lx, hx⟩ := h x List.mem_cons_self
    obtain ⟨s, rfl, hs⟩ := key_string hx
    exact ⟨s :: ss, rfl, fun y hy => by rcases List.mem_cons.1 hy with rfl | hy; exact hs; exact h2 y hy⟩
theorem CloneS {w : World} {v : Value} (ss : List ByteArray) (h : w.ownsRow 0 9 1 v ss.length (ss.map .string)) (hN : ss.length ≤ 1000001) :
    Calls Try.prog 29 #[v] w fun e w' => ∃ v', e = .returned v' ∧ w'.ownsRow w.heap.size 9 1 v' ss.length (ss.map .string) ∧ Below w.heap.size w w' := by
  rcases h.2 with ⟨rfl, h0⟩ | ⟨g, cap, cur, rfl, hg, hh, hn, hc, hs, hx⟩
  · refine (Try.slices_Clone_string_nil 0 0 w).mono ?_
    rintro e w' ⟨rfl, rfl⟩
    obtain rfl := List.length_eq_zero_iff.1 h0
    exact ⟨_, rfl, World.ownsRow_nil _ _ _ _, Below.refl _ _⟩
  · refine (Try.slices_Clone_string g 0 ss.length cap ss w (Nat.le_refl _) (by omega) (fun j hj => ?_)).mono ?_
    · rw [Nat.zero_add, World.ownsRow.cellAt h j (by omega)]
      simp [List.getD, hj]
    · rintro e w' ⟨v', rfl, h1, _, h2⟩
      rw [List.take_length] at h1
      exact ⟨v', rfl, h1, h2⟩
theorem KeysS {w : World} {p m : Nat} {v : Value} {l : List Value} {N : Nat} (h : TblS w p m v l N) (hN : N ≤ 1000001) :
    Calls Try.prog 16 #[.pointer (some ⟨p, 0, none⟩)] w fun e w' => ∃ v', e = .returned v' ∧ w'.ownsRow w.heap.size 9 1 v' l.length l ∧ Below w.heap.size w w' := by
  have c1 := h.c1
  obtain ⟨ss, hl, _⟩ := strs_of h.keys
  obtain ⟨xs, hrow, hxs⟩ := h.row
  have hxl := hxs rfl
  rw [hxl] at hrow
  have hlen := h.len
  have HR := Lib.hid hrow
  clear hrow hxs h hxl
  subst hl
  rw [List.length_map] at HR hlen
  go_enter Try.func16, Try.ntmps16
  go_wp2_with fail
  refine (CloneS ss HR.out (by omega)).mono ?_
  rintro e w1 ⟨v', rfl, h1, h2⟩
  have H1 := Lib.hid h1; have H2 := Lib.hid h2
  clear h1 h2
  go_wp2_with fail
  go_ret
  refine ⟨v', rfl, ?_, H2.out⟩
  rw [List.length_map]; exact H1.out
theorem Keys_nilS (w : World) :
    Calls Try.prog 16 #[.pointer none] w fun e w' => e = .returned (.slice none 0 0) ∧ w' = w := by
  go_enter Try.func16, Try.ntmps16
  go_wp2_with fail
  go_ret
  exact ⟨rfl, rfl⟩
end Go.Proofs.Ytkgklccafebcbaa.IntW
