/- Walks of layer 15: look, of pairs of numbers. -/
import Derived.Test.YtkgklccafebcbaaLookS
import Derived.DeepKeys4
import Derived.ChangeKeysEq
namespace Go.Proofs.Ytkgklccafebcbaa.IntW
set_option linter.unusedVariables false
open Go.RowKit Go.Maps
theorem laidP : laidOutB Try.prog = true := by kernel_rfl
theorem rowP : (46 : TypeId) < Try.prog.types.size := of_decide_eq_true (by kernel_rfl)
theorem wideP : (match Try.prog.underlying 46 with | some (.array _ _) | some (.struct _) => true | _ => false) = true := by rw [Try.underlying46]
theorem lawP : Keyed Try.prog 46 := Keyed.of_law (deep_law_laid laidP (m := 2) (by omega) rowP (by kernel_rfl) wideP)
theorem cellsP : Try.prog.cellsOf 46 = 2 := by kernel_rfl
theorem cellsI : Try.prog.cellsOf 3 = 1 := by kernel_rfl
theorem formedP {c0 c1 : Value} : (Value.agg #[c0, c1]).formed Try.prog 46 = true := by simp [Value.formed, Try.underlying46, cellsP]
theorem keyTypeP : Try.prog.keyType 46 = true := by kernel_rfl
theorem litI {n : Nat} {x : Int} (hx : (Lit.int .i64 x).wf = true) : Try.prog.keyLits (n + 1) 3 [.int .i64 x] = some [.int .i64 x] := by
  simp [Program.keyLits, Try.underlying3, hx]
theorem litP {n : Nat} {x y : Int} (hx : (Lit.int .i64 x).wf = true) (hy : (Lit.int .i64 y).wf = true) : Try.prog.keyLits (n + 2) 46 [.int .i64 x, .int .i64 y] = some [.int .i64 x, .int .i64 y] := by
  unfold Program.keyLits
  simp only [Try.underlying46, cellsP, cellsI]
  simp [List.range, List.range.loop, litI hx, litI hy]
theorem keyP {x y : Int} (hx : (Lit.int .i64 x).wf = true) (hy : (Lit.int .i64 y).wf = true) : ∃ lx, keyOf Try.prog 46 (.agg #[.int .i64 x, .int .i64 y]) = some lx := by
  obtain ⟨n, hn⟩ : ∃ n, Try.prog.types.size + 1 = n + 2 := ⟨Try.prog.types.size - 1, by have h : 46 < Try.prog.types.size := rowP; omega⟩
  unfold keyOf
  rw [Try.underlying46]
  simp only [keyTypeP, formedP, hn, Bool.and_self, if_true]
  exact ⟨_, by simp [Value.cells, litP hx hy]; rfl⟩
theorem catchP (p q : Addr) (w : World) :
    CallsD Try.prog 35 #[.pointer (some p), .pointer (some q)] .returning w fun e u' w' => e = .returned (.tuple #[]) ∧ u' = .returning ∧ w' = w := by
  refine callsD_of_wpS Try.func35 rfl fun c₀ cs hu => ?_
  apply wpS_seq
  apply wpS_region
  simp [wpOpsS, go_sem, recoverD, hu, Try.ntmps35, Exit.thenS]
  refine wpS_cond (t := false) (by simp [Act.eval, Array.replicate]) ?_
  simp only [Bool.false_eq_true, if_false]
  refine wpS_of_wp (wp_skip ?_)
  cases c₀
  simp_all [bodyPostS, results, Try.results35]

theorem look_nilP (x y : Int) (w : World) :
    Calls Try.prog 31 #[.pointer none, .agg #[.int .i64 x, .int .i64 y]] w fun e w' => e = .returned (.tuple #[.int .i64 (-1), .bool false]) ∧ Below w.heap.size w w' := by
  have h := hmf
  go_enter_defers Try.func31, Try.ntmps31
  go_wp2_with fail
  have hb : Below w.heap.size w (((w.alloc (.cells #[.int .i64 x, .int .i64 y] 46)).alloc (.cells #[.int .i64 (-1)] 3)).alloc (.cells #[.bool false] 4)) := (((Below.refl _ w).alloc (Nat.le_refl _) _).alloc (by simp) _).alloc (by simp; omega) _
  simp [bodyPostD, Leaves, results, Try.results31, go_sem]
  exact hb

theorem lookP (x y : Int) (hx : (Lit.int .i64 x).wf = true) (hy : (Lit.int .i64 y).wf = true) {w : World} {p m : Nat} {v : Value} {l : List Value} {N : Nat} (h : Tbl Try.prog 46 65 3 2 w p m v l N) :
    Calls Try.prog 31 #[.pointer (some ⟨p, 0, none⟩), .agg #[.int .i64 x, .int .i64 y]] w fun e w' => ∃ i, Ix l (.agg #[.int .i64 x, .int .i64 y]) i ∧ e = .returned (.tuple #[.int .i64 i, .bool true]) ∧ Below w.heap.size w w' := by
  have h1 := hmf
  obtain ⟨lx, hkey⟩ := keyP hx hy
  have hb : Below w.heap.size w (((w.alloc (.cells #[.int .i64 x, .int .i64 y] 46)).alloc (.cells #[.int .i64 0] 3)).alloc (.cells #[.bool false] 4)) := (((Below.refl _ w).alloc (Nat.le_refl _) _).alloc (by simp) _).alloc (by simp; omega) _
  have h2 := h.below hb
  have c0 := h2.c0
  obtain ⟨D, hown, hD⟩ := h2.look hkey
  obtain ⟨v0, ps, hrun, hv0⟩ := hown.drew.look_ok lawP Try.underlying62 (zeroI _) (zd := .lit (.int .i64 0)) (zp := []) (plainElem_int Try.underlying3 (by decide)) hkey
  obtain ⟨c, rfl, hat, hwc⟩ := plainElem_int_inv Try.underlying3 hv0
  have HAT := Lib.hid (congrArg Prod.fst hat)
  have HB := Lib.hid hb
  have hw1 : w.heap.size + 2 < w.heap.size + 3 := by omega
  clear h hb h2 hv0 hat hown hkey
  rcases hD with ⟨j, hj, hhas, hat0⟩ | ⟨hx0, hhas⟩
  · rw [hhas] at hrun
    have HJ := Lib.hid hj
    clear hj hhas
    go_enter_defers Try.func31, Try.ntmps31
    go_wp2_with fail
    go_region
    go_wp2_with fail
    refine leaves_cons (f := 35) (args := #[.pointer (some ⟨w.heap.size + 1, 0, none⟩), .pointer (some ⟨w.heap.size + 1 + 1, 0, none⟩)]) (by simp) (by simp [go_sem]) ?_
    refine (catchP ⟨w.heap.size + 1, 0, none⟩ ⟨w.heap.size + 1 + 1, 0, none⟩ _).mono ?_
    rintro e u' w'' ⟨rfl, rfl, rfl⟩
    have hc : c = j := by have h := (hat0 _).symm.trans HAT.out; simp at h; exact h.symm
    simp [Leaves, settle, results, Try.results31, go_sem]
    exact ⟨c, .inl ⟨j, hc, HJ.out⟩, rfl, ((((Below.refl _ w).alloc (Nat.le_refl _) _).alloc (by simp) _).alloc (by simp; omega) _).drew⟩
  · rw [hhas] at hrun
    have HX := Lib.hid hx0
    clear hx0 hhas
    go_enter_defers Try.func31, Try.ntmps31
    go_wp2_with fail
    go_region
    go_wp2_with fail
    refine leaves_cons (f := 35) (args := #[.pointer (some ⟨w.heap.size + 1, 0, none⟩), .pointer (some ⟨w.heap.size + 1 + 1, 0, none⟩)]) (by simp) (by simp [go_sem]) ?_
    refine (catchP ⟨w.heap.size + 1, 0, none⟩ ⟨w.heap.size + 1 + 1, 0, none⟩ _).mono ?_
    rintro e u' w'' ⟨rfl, rfl, rfl⟩
    simp [Leaves, settle, results, Try.results31, go_sem]
    exact ⟨-1, .inr ⟨rfl, HX.out⟩, rfl, ((((Below.refl _ w).alloc (Nat.le_refl _) _).alloc (by simp) _).alloc (by simp; omega) _).drew⟩
end Go.Proofs.Ytkgklccafebcbaa.IntW
