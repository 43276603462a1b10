/- InternDoes whole, in the row's own arguments. -/
import Derived.Test.YtkgklccafebcbaaRows
import Derived.Test.YtkgklccafebcbaaDoes
import Derived.SizedLaws
namespace Go.Proofs.Ytkgklccafebcbaa.IntW
set_option linter.unusedVariables false
open Go.RowKit
open Go.ChangeShapes Go.WideShapes Go.ChangeAt
theorem op_parts {H : Type} {enc : TypeId × Value → H} {W : World} {fuel : Nat} {cs : List Value} {x : DataW H × List MemPlace} (h : DataW.trod enc Try.prog W 0 (fun _ => true) true fuel 28 cs = some x) :
    ∃ y : OpT, cs = [.int .i64 y.kind, .string y.k, .int .i64 y.i] ∧ y.k.size ≤ maxLen := by
  obtain ⟨xs, n, hn, hx, hcl, hxl, hf⟩ := DataW.trod_struct Try.underlying28 h
  rw [show Try.prog.cellsOf 28 = 3 by kernel_rfl] at hcl
  match cs, hcl with
  | [c0, c1, c2], _ =>
    match xs, hxl with
    | [y0, y1, y2], _ =>
      have f0 : DataW.trod enc Try.prog W 0 (fun _ => true) true n 3 [c0] = some y0 := by
        have h := hf 0 _ rfl
        simpa [show Try.prog.cellsOf 3 = 1 by kernel_rfl] using h
      have f1 : DataW.trod enc Try.prog W 0 (fun _ => true) true n 9 [c1] = some y1 := by
        have h := hf 1 _ rfl
        simpa [show Try.prog.cellsOf 9 = 1 by kernel_rfl] using h
      have f2 : DataW.trod enc Try.prog W 0 (fun _ => true) true n 3 [c2] = some y2 := by
        have h := hf 2 _ rfl
        simpa [show Try.prog.cellsOf 3 = 1 by kernel_rfl] using h
      obtain ⟨K, e0, _, _⟩ := DataW.trod_int Try.underlying3 f0
      obtain ⟨s, e1, _, hs⟩ := DataW.trod_string Try.underlying9 f1
      obtain ⟨I, e2, _, _⟩ := DataW.trod_int Try.underlying3 f2
      simp only [List.cons.injEq, and_true] at e0 e1 e2
      exact ⟨⟨K, s, I⟩, by rw [e0, e1, e2], hs⟩
theorem choiceN {α : Type} {p : Nat → α → Prop} (h : ∀ i, ∃ x, p i x) : ∃ f : Nat → α, ∀ i, p i (f i) := ⟨fun i => Classical.choose (h i), fun i => Classical.choose_spec (h i)⟩
/-- The operations that are handed in. -/
theorem ops_open {H : Type} {enc : TypeId × Value → H} {W : World} {a : Option Addr} {len cap : Nat} {d : DataW H} {p : List MemPlace}
    (h : DataW.Trod enc Try.prog W 0 (fun _ => true) true 22 (.slice a len cap) d p) : ∃ l, OSl W (.slice a len cap) l := by
  obtain ⟨fuel, hf⟩ := h
  rcases DataW.trod_slice Try.underlying22 hf with ⟨hcs, hx⟩ | ⟨x, len', cap', elems, rest, n, hn, hcs, hx, _, hlc, hcm, hel, hat, _, _⟩
  · simp only [Value.cells, List.cons.injEq, Value.slice.injEq, and_true] at hcs
    obtain ⟨rfl, rfl, rfl⟩ := hcs
    exact ⟨[], none, 0, rfl, fun j hj => by simp at hj⟩
  · simp only [Value.cells, List.cons.injEq, Value.slice.injEq, and_true] at hcs
    obtain ⟨rfl, rfl, rfl⟩ := hcs
    rw [show Try.prog.cellsOf 28 = 3 by kernel_rfl] at hat
    have hex : ∀ i, ∃ y : OpT, i < len → W.cells? 0 (x.add (i * 3)) 3 = some [.int .i64 y.kind, .string y.k, .int .i64 y.i] ∧ y.k.size ≤ maxLen := fun i => by
      by_cases hi : i < len
      · have hb := hat i hi
        rw [List.getElem?_eq_getElem (show i < elems.length by omega)] at hb
        obtain ⟨cs', h1, h2⟩ := Option.bind_eq_some_iff.1 hb
        obtain ⟨y, rfl, hy⟩ := op_parts h2
        exact ⟨y, fun _ => ⟨h1, hy⟩⟩
      · exact ⟨⟨0, ByteArray.empty, 0⟩, fun h => absurd h hi⟩
    obtain ⟨f, hf⟩ := choiceN hex
    have hcell : ∀ i, i < len → ∀ j, j < 3 → W.cell? ((x.add (i * 3)).add j) = [Value.int .i64 (f i).kind, .string (f i).k, .int .i64 (f i).i][j]? := fun i hi j hj => (World.cells?_some (hf i hi).1).2.2 j hj
    obtain ⟨b, off, spot⟩ := x
    refine ⟨(List.range len).map f, some ⟨b, off, spot⟩, cap, by simp, fun j hj => ?_⟩
    have hj' : j < len := by simpa using hj
    have hspot : spot = none := by
      have h1 := hcell 0 (by omega) 0 (by decide)
      simpa [Addr.add] using World.cell?_spot h1
    subst hspot
    have hadd : ∀ i j, ((⟨b, off, none⟩ : Addr).add (i * 3)).add j = ⟨b, off + i * 3 + j, none⟩ := fun i j => by
      unfold Addr.add; split <;> split <;> simp_all <;> omega
    have hc := hcell j hj'
    simp only [hadd] at hc
    exact ⟨b, off, f j, rfl, hc 0 (by decide), hc 1 (by decide), hc 2 (by decide), (hf j hj').2⟩
set_option maxHeartbeats 2000000 in
theorem Does_long (a : Option Addr) (L cap : Nat) (hL : 80 < L) (w : World) :
    Calls Try.prog 3 #[.slice a L cap] w fun e w' => e = .returned (.bool true) ∧ Below w.heap.size w w' := by
  have h1 : (80 : Int) < (L : Int) := by omega
  go_enter Try.func3, Try.ntmps3
  go_wp2_with fail
  refine (NewS _).mono ?_
  rintro e w1 ⟨p, m, rfl, hp, hm, hT, hb⟩
  have HB1 := Lib.hid hb
  clear hT hb hp hm
  go_wp2_with fail
  refine (knows_any _).mono ?_
  rintro e w3 ⟨rfl, hb⟩
  have HB3 := Lib.hid (HB1.out.trans (hb.mono HB1.out.size))
  clear hb HB1
  go_wp2_with fail
  go_ret
  exact ⟨rfl, HB3.out⟩
theorem InternDoes_row {H : Type} {enc : TypeId × Value → H} (w : World) {a : Option Addr} {len cap : Nat} {d : DataW H} {p : List MemPlace}
    (h : DataW.Trod enc Try.prog w 0 (fun _ => true) true 22 (.slice a len cap) d p) :
    Calls Try.prog 3 #[.slice a len cap] w fun e w' => e = .returned (.bool true) ∧ Below w.heap.size w w' := by
  obtain ⟨l, hl⟩ := ops_open h
  by_cases h80 : l.length ≤ 80
  · exact Does_main _ l w hl h80
  · obtain ⟨a', cap', he, _⟩ := hl
    rw [he]
    exact Does_long a' l.length cap' (by omega) w
end Go.Proofs.Ytkgklccafebcbaa.IntW
