/- What is handed in: arrays of 256 small numbers, slices of sets. -/
import Derived.Test.YtciggkebbhineaaDoorRows
import Derived.Test.YtciggkebbhineaaDoorSets
import Derived.WalkKit
import Derived.ProofKit
import Derived.OpenShut
import Derived.Laws.IdiomArrays
namespace Go.Proofs.YtciggkebbhineaaDoor.PartW
set_option linter.unusedVariables false
open Go.RowKit Go.Proofs.YtciggkebbhineaaDoor.PartM Go.Proofs.YtciggkebbhineaaDoor.SetM Go.Proofs.YtciggkebbhineaaDoor.SetW
open Go.ChangeShapes Go.WideShapes Go.ChangeAt
theorem choice {α : Type} {p : Nat → α → Prop} (h : ∀ i, ∃ x, p i x) : ∃ f : Nat → α, ∀ i, p i (f i) := ⟨fun i => Classical.choose (h i), fun i => Classical.choose_spec (h i)⟩
/-- An array that is handed in: its numbers. -/
theorem arr_open {H : Type} {enc : TypeId × Value → H} {W : World} {base : Nat} {v : Value} {d : DataW H} {p : List MemPlace} (hval : Value.okWide Tryd.prog W .any base 22 v)
    (h : DataW.Trod enc Tryd.prog W 0 (fun _ => true) true 22 v d p) : ∃ C f, v = .agg C ∧ IsA C f ∧ ∀ b, b < 256 → f b < 256 := by
  obtain ⟨cs, rfl, hsz, _⟩ : ∃ cs, v = .agg cs ∧ cs.size = Tryd.prog.cellsOf 22 ∧ Row.okWide Tryd.prog W .any base 22 cs := by
    simpa [Value.okWide, Tryd.underlying22] using hval
  rw [show Tryd.prog.cellsOf 22 = 256 by kernel_rfl] at hsz
  obtain ⟨fuel, hf⟩ := h
  obtain ⟨xs, m, _, _, _, hxl, hat⟩ := DataW.trod_array Tryd.underlying22 hf
  have h1 : Tryd.prog.cellsOf 5 = 1 := by kernel_rfl
  have hex : ∀ i, ∃ x : Nat, i < 256 → cs[i]? = some (.int .u8 (x : Int)) ∧ x < 256 := fun i => by
    by_cases hi : i < 256
    · have hb := hat i hi
      rw [h1, Nat.mul_one, List.getElem?_eq_getElem (by omega)] at hb
      have hcl : i < cs.size := by omega
      have hd : (((Value.agg cs).cells.toList.drop i).take 1) = [cs[i]] := by
        show ((cs.toList.drop i).take 1) = _
        rw [List.take_one, List.head?_drop]
        simp [hcl]
      obtain ⟨y, e0, _, w0⟩ := DataW.trod_int Tryd.underlying5 hb
      have e1 := hd.symm.trans e0
      simp only [List.cons.injEq, and_true] at e1
      have h2 := Base.byte_of_wf' w0
      exact ⟨y.toNat, fun _ => ⟨by rw [Array.getElem?_eq_getElem hcl, e1, show ((y.toNat : Nat) : Int) = y by omega], by omega⟩⟩
    · exact ⟨0, fun h => absurd h hi⟩
  obtain ⟨f, hf'⟩ := choice hex
  exact ⟨cs, f, rfl, ⟨hsz, fun i hi => (hf' i hi).1⟩, fun b hb => (hf' b hb).2⟩
theorem nat_of_wf {x : Int} (h : (Lit.int .u64 x).wf = true) : ∃ n : Nat, x = n ∧ n < 18446744073709551616 := by
  have h1 : IntKind.u64.min = 0 := rfl
  have h2 : IntKind.u64.max = 18446744073709551615 := rfl
  simp only [Lit.wf, Bool.and_eq_true, decide_eq_true_eq] at h
  exact ⟨x.toNat, by omega, by omega⟩
theorem list_four {α : Type} {cs : List α} (h : cs.length = 4) : ∃ a b c d, cs = [a, b, c, d] := by
  match cs, h with
  | [a, b, c, d], _ => exact ⟨a, b, c, d, rfl⟩
/-- A set that was read: who is in it. -/
theorem set_read {H : Type} {enc : TypeId × Value → H} {W : World} {fuel : Nat} {cs : List Value} {x : DataW H × List MemPlace} (hf : DataW.trod enc Tryd.prog W 0 (fun _ => true) true fuel 35 cs = some x) :
    ∃ f : Nat → Bool, cs = [.int .u64 (wd f 0), .int .u64 (wd f 1), .int .u64 (wd f 2), .int .u64 (wd f 3)] := by
  obtain ⟨xs, m, _, _, hl, _, _⟩ := DataW.trod_array Tryd.underlying35 hf
  rw [show Tryd.prog.cellsOf 35 = 4 by kernel_rfl] at hl
  obtain ⟨c0, c1, c2, c3, rfl⟩ := list_four hl
  obtain ⟨y0, y1, y2, y3, m, hx, hy0, hy1, hy2, hy3⟩ := trod_array4 Tryd.underlying35 (by kernel_rfl) hf
  obtain ⟨x0, e0, _, w0⟩ := DataW.trod_int Tryd.underlying33 hy0
  obtain ⟨x1, e1, _, w1⟩ := DataW.trod_int Tryd.underlying33 hy1
  obtain ⟨x2, e2, _, w2⟩ := DataW.trod_int Tryd.underlying33 hy2
  obtain ⟨x3, e3, _, w3⟩ := DataW.trod_int Tryd.underlying33 hy3
  simp at e0 e1 e2 e3
  subst e0 e1 e2 e3
  obtain ⟨n0, rfl, l0⟩ := nat_of_wf w0
  obtain ⟨n1, rfl, l1⟩ := nat_of_wf w1
  obtain ⟨n2, rfl, l2⟩ := nat_of_wf w2
  obtain ⟨n3, rfl, l3⟩ := nat_of_wf w3
  refine ⟨memOf n0 n1 n2 n3, ?_⟩
  rw [← memOf0 n0 n1 n2 n3 l0, ← memOf1 n0 n1 n2 n3 l1, ← memOf2 n0 n1 n2 n3 l2, ← memOf3 n0 n1 n2 n3 l3]
/-- A slice of sets that is handed in. -/
theorem sets_open {H : Type} {enc : TypeId × Value → H} {W : World} {v : Value} {d : DataW H} {p : List MemPlace} (hv : ∃ a len cap, v = .slice a len cap)
    (h : DataW.Trod enc Tryd.prog W 0 (fun _ => true) true 27 v d p) : ∃ fs, SSl W v fs := by
  obtain ⟨a0, len0, cap0, rfl⟩ := hv
  obtain ⟨fuel, hf⟩ := h
  rcases DataW.trod_slice Tryd.underlying27 hf with ⟨hcs, _⟩ | ⟨a, len, cap, elems, rest, n, hn, hcs, _, _, hlc, hcm, hel, hat, hrest, _⟩
  · simp only [Value.cells, List.cons.injEq, Value.slice.injEq, and_true] at hcs
    obtain ⟨rfl, rfl, rfl⟩ := hcs
    exact ⟨[], .inl ⟨none, rfl, rfl⟩⟩
  · simp only [Value.cells, List.cons.injEq, Value.slice.injEq, and_true] at hcs
    obtain ⟨rfl, rfl, rfl⟩ := hcs
    have h4 : Tryd.prog.cellsOf 35 = 4 := by kernel_rfl
    rw [h4] at hat hrest
    have hrl := (hrest rfl).1
    have hrat := (hrest rfl).2
    have hall : ∀ i, i < cap0 → ∃ f : Nat → Bool, W.cells? 0 (a.add (i * 4)) 4 = some [.int .u64 (wd f 0), .int .u64 (wd f 1), .int .u64 (wd f 2), .int .u64 (wd f 3)] := fun i hi => by
      by_cases hl : i < len0
      · have hb := hat i hl
        rw [List.getElem?_eq_getElem (by omega)] at hb
        obtain ⟨cs', h1, h2⟩ := Option.bind_eq_some_iff.1 hb
        obtain ⟨f, rfl⟩ := set_read h2
        exact ⟨f, h1⟩
      · have hb := hrat (i - len0) (by omega)
        rw [show len0 + (i - len0) = i by omega, List.getElem?_eq_getElem (by omega)] at hb
        obtain ⟨cs', h1, h2⟩ := Option.bind_eq_some_iff.1 hb
        obtain ⟨f, rfl⟩ := set_read h2
        exact ⟨f, h1⟩
    have hex : ∀ i, ∃ f : Nat → Bool, i < cap0 → W.cells? 0 (a.add (i * 4)) 4 = some [.int .u64 (wd f 0), .int .u64 (wd f 1), .int .u64 (wd f 2), .int .u64 (wd f 3)] := fun i => by
      by_cases hi : i < cap0
      · obtain ⟨f, hf⟩ := hall i hi
        exact ⟨f, fun _ => hf⟩
      · exact ⟨emptyF, fun h => absurd h hi⟩
    obtain ⟨f, hf'⟩ := choice hex
    obtain ⟨b, off, spot⟩ := a
    have hcell : ∀ i, i < cap0 → ∀ j, j < 4 → W.cell? (((⟨b, off, spot⟩ : Addr).add (i * 4)).add j) = [Value.int .u64 (wd (f i) 0), .int .u64 (wd (f i) 1), .int .u64 (wd (f i) 2), .int .u64 (wd (f i) 3)][j]? := fun i hi j hj => (World.cells?_some (hf' i hi)).2.2 j hj
    by_cases h0 : cap0 = 0
    · obtain rfl : cap0 = 0 := h0
      obtain rfl : len0 = 0 := by omega
      exact ⟨[], .inl ⟨_, rfl, rfl⟩⟩
    · have hspot : spot = none := by
        have h1 := hcell 0 (by omega) 0 (by decide)
        simpa [Addr.add] using World.cell?_spot h1
      subst hspot
      refine ⟨(List.range len0).map f, .inr ⟨b, off, cap0, by simp, by simpa using hlc, hcm, fun k hk j hj => ?_⟩⟩
      have hk' : k < len0 := by simpa using hk
      have h1 := hcell k (by omega) j hj
      rw [Addr.add_mid, Addr.add_mid] at h1
      rw [h1]
      simp only [List.getElem_map, List.getElem_range]
      rcases j with _ | _ | _ | _ | j
      all_goals first | rfl | omega
end Go.Proofs.YtciggkebbhineaaDoor.PartW
