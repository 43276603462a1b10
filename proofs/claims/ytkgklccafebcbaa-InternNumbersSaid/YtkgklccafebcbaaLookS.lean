/- Walks of layer 15: look, of texts. -/
import Derived.Test.YtkgklccafebcbaaTbl
import Derived.Defers
import Derived.Recover
import Derived.Maps.OwnOps
namespace Go.Proofs.Ytkgklccafebcbaa.IntW
set_option linter.unusedVariables false
open Go.RowKit Go.Maps

/-- A thing's number, as it is told. -/
def Ix (l : List Value) (x : Value) (i : Int) : Prop := (∃ j : Nat, i = j ∧ l[j]? = some x) ∨ (i = -1 ∧ x ∉ l)
theorem Ix.one {l : List Value} (hd : l.Nodup) {x : Value} {i j : Int} (hi : Ix l x i) (hj : Ix l x j) : i = j := by
  rcases hi with ⟨a, rfl, ha⟩ | ⟨rfl, ha⟩ <;> rcases hj with ⟨b, rfl, hb⟩ | ⟨rfl, hb⟩
  · rw [nodup_at hd ha hb]
  · exact absurd (List.mem_of_getElem? ha) hb
  · exact absurd (List.mem_of_getElem? hb) ha
  · rfl
theorem Ix.ge {l : List Value} {x : Value} {i : Int} (h : Ix l x i) : -1 ≤ i := by rcases h with ⟨a, rfl, _⟩ | ⟨rfl, _⟩ <;> omega
theorem lawS : Keyed Try.prog 9 := string_keyed Try.underlying9
theorem zeroI (w : World) : (zeroValue 3).run Try.prog w = .ok (.int .i64 0) w := by kernel_rfl
theorem hmf : ∀ (fn : Fn) (first cap : Array Value) (w : World), (Instr.makeFunc fn first cap).run Try.prog w = .ok (.func fn first cap) w := fun _ _ _ _ => rfl

theorem catchS (p q : Addr) (w : World) :
    CallsD Try.prog 33 #[.pointer (some p), .pointer (some q)] .returning w fun e u' w' => e = .returned (.tuple #[]) ∧ u' = .returning ∧ w' = w := by
  refine callsD_of_wpS Try.func33 rfl fun c₀ cs hu => ?_
  apply wpS_seq
  apply wpS_region
  simp [wpOpsS, go_sem, recoverD, hu, Try.ntmps33, Exit.thenS]
  refine wpS_cond (t := false) (by simp [Act.eval, Array.replicate]) ?_
  simp only [Bool.false_eq_true, if_false]
  refine wpS_of_wp (wp_skip ?_)
  cases c₀
  simp_all [bodyPostS, results, Try.results33]

theorem look_nilS (x : Value) (w : World) :
    Calls Try.prog 27 #[.pointer none, x] w fun e w' => e = .returned (.tuple #[.int .i64 (-1), .bool false]) ∧ Below w.heap.size w w' := by
  have h := hmf
  go_enter_defers Try.func27, Try.ntmps27
  go_wp2_with fail
  have hb : Below w.heap.size w ((w.alloc (.cells #[.int .i64 (-1)] 3)).alloc (.cells #[.bool false] 4)) := ((Below.refl _ w).alloc (Nat.le_refl _) _).alloc (by simp) _
  simp [bodyPostD, Leaves, results, Try.results27, go_sem]
  exact hb
/-- What a table's map says of a thing. -/
theorem Tbl.look {k T tI : TypeId} {z : Nat} {w : World} {p m : Nat} {v : Value} {l : List Value} {N : Nat} {P : Program} (h : Tbl P k T tI z w p m v l N) {x : Value} {lx : Lit} (hx : keyOf P k x = some lx) :
    ∃ D : DataW Unit, w.ownsMap P k (plainElem P tI) m N D ∧ ((∃ j : Nat, l[j]? = some x ∧ Maps.has D lx = true ∧ ∀ z, D.atKey lx z = .lit (.int .i64 j)) ∨ (x ∉ l ∧ Maps.has D lx = false)) := by
  obtain ⟨D, h1, h2⟩ := h.map
  refine ⟨D, h1, ?_⟩
  by_cases hm : x ∈ l
  · obtain ⟨j, hj⟩ := List.mem_iff_getElem?.1 hm
    obtain ⟨a, b⟩ := h2.yes j x lx hj hx trivial
    exact .inl ⟨j, hj, a, b⟩
  · exact .inr ⟨hm, h2.no x lx hx fun i hi _ => hm (List.mem_of_getElem? hi)⟩
theorem lookS (s : ByteArray) (hs : s.size ≤ maxLen) {w : World} {p m : Nat} {v : Value} {l : List Value} {N : Nat} (h : Tbl Try.prog 9 56 3 1 w p m v l N) :
    Calls Try.prog 27 #[.pointer (some ⟨p, 0, none⟩), .string s] w fun e w' => ∃ i, Ix l (.string s) i ∧ e = .returned (.tuple #[.int .i64 i, .bool true]) ∧ Below w.heap.size w w' := by
  have h1 := hmf
  have hkey := WideMaps.keyOf_string_mk (P := Try.prog) Try.underlying9 hs
  have hb : Below w.heap.size w ((w.alloc (.cells #[.int .i64 0] 3)).alloc (.cells #[.bool false] 4)) := ((Below.refl _ w).alloc (Nat.le_refl _) _).alloc (by simp) _
  have h2 := h.below hb
  have c0 := h2.c0
  obtain ⟨D, hown, hD⟩ := h2.look hkey
  have HB := Lib.hid hb
  clear h hb h2
  rcases hD with ⟨j, hj, hhas, hat0⟩ | ⟨hx, hhas⟩
  · have HJ := Lib.hid hj; have HH := Lib.hid hhas
    clear hj hhas
    go_enter_defers Try.func27, Try.ntmps27
    go_wp2_with (first | (at_lookup; refine wpList_lookup_own_ok_int _ rfl _ _ 54 rfl 9 3 .i64 lawS Try.underlying54 Try.underlying3 (zeroI _) m N D rfl hown _ _ rfl hkey ?_; intro c hat hwc; rw [HH.out]))
    refine leaves_cons (f := 33) (args := #[.pointer (some ⟨w.heap.size, 0, none⟩), .pointer (some ⟨w.heap.size + 1, 0, none⟩)]) (by simp) (by simp [go_sem]) ?_
    refine (catchS ⟨w.heap.size, 0, none⟩ ⟨w.heap.size + 1, 0, none⟩ _).mono ?_
    rintro e u' w'' ⟨rfl, rfl, rfl⟩
    have hc : c = j := by have h := (hat0 _).symm.trans hat; simp at h; exact h.symm
    simp [Leaves, settle, results, Try.results27, go_sem]
    exact ⟨c, .inl ⟨j, hc, HJ.out⟩, rfl, ((Below.refl _ w).alloc (Nat.le_refl _) _).alloc (by simp) _⟩
  · have HX := Lib.hid hx; have HH := Lib.hid hhas
    clear hx hhas
    go_enter_defers Try.func27, Try.ntmps27
    go_wp2_with (first | (at_lookup; refine wpList_lookup_own_ok_int _ rfl _ _ 54 rfl 9 3 .i64 lawS Try.underlying54 Try.underlying3 (zeroI _) m N D rfl hown _ _ rfl hkey ?_; intro c hat hwc; rw [HH.out]))
    refine leaves_cons (f := 33) (args := #[.pointer (some ⟨w.heap.size, 0, none⟩), .pointer (some ⟨w.heap.size + 1, 0, none⟩)]) (by simp) (by simp [go_sem]) ?_
    refine (catchS ⟨w.heap.size, 0, none⟩ ⟨w.heap.size + 1, 0, none⟩ _).mono ?_
    rintro e u' w'' ⟨rfl, rfl, rfl⟩
    simp [Leaves, settle, results, Try.results27, go_sem]
    exact ⟨-1, .inr ⟨rfl, HX.out⟩, rfl, ((Below.refl _ w).alloc (Nat.le_refl _) _).alloc (by simp) _⟩
end Go.Proofs.Ytkgklccafebcbaa.IntW
