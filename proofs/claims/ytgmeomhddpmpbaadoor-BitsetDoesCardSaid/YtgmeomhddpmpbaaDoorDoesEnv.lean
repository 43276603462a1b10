/- BitsetDoes whole, in the row's own arguments. -/
import Derived.Test.YtgmeomhddpmpbaaDoorRows
import Derived.Test.YtgmeomhddpmpbaaDoorBitsEnv
import Derived.Test.YtgmeomhddpmpbaaDoorDoesWalk
import Derived.Test.YtgmeomhddpmpbaaDoorDoesOut
import Derived.SizedLaws
namespace Go.Proofs.YtgmeomhddpmpbaaDoor.BitsW
set_option linter.unusedVariables false
open Go.RowKit Go.Proofs.YtgmeomhddpmpbaaDoor.SetM Go.Proofs.YtgmeomhddpmpbaaDoor.SetW
open Go.ChangeShapes Go.WideShapes Go.ChangeAt
theorem op_parts {H : Type} {enc : TypeId × Value → H} {W : World} {fuel : Nat} {cs : List Value} {x : DataW H × List MemPlace} (h : DataW.trod enc Tryd.prog W 0 (fun _ => true) true fuel 32 cs = some x) :
    ∃ y : OpT, cs = [.int .i64 y.kind, .bool y.other, .int .i64 y.i] := by
  obtain ⟨xs, n, hn, hx, hcl, hxl, hf⟩ := DataW.trod_struct Tryd.underlying32 h
  rw [show Tryd.prog.cellsOf 32 = 3 by kernel_rfl] at hcl
  match cs, hcl with
  | [c0, c1, c2], _ =>
    match xs, hxl with
    | [y0, y1, y2], _ =>
      have f0 : DataW.trod enc Tryd.prog W 0 (fun _ => true) true n 3 [c0] = some y0 := by
        have h := hf 0 _ rfl
        simpa [show Tryd.prog.cellsOf 3 = 1 by kernel_rfl] using h
      have f1 : DataW.trod enc Tryd.prog W 0 (fun _ => true) true n 4 [c1] = some y1 := by
        have h := hf 1 _ rfl
        simpa [show Tryd.prog.cellsOf 4 = 1 by kernel_rfl] using h
      have f2 : DataW.trod enc Tryd.prog W 0 (fun _ => true) true n 3 [c2] = some y2 := by
        have h := hf 2 _ rfl
        simpa [show Tryd.prog.cellsOf 3 = 1 by kernel_rfl] using h
      obtain ⟨K, e0, _, _⟩ := DataW.trod_int Tryd.underlying3 f0
      obtain ⟨b, e1, _⟩ := DataW.trod_bool Tryd.underlying4 f1
      obtain ⟨I, e2, _, _⟩ := DataW.trod_int Tryd.underlying3 f2
      simp only [List.cons.injEq, and_true] at e0 e1 e2
      exact ⟨⟨K, b, I⟩, by rw [e0, e1, e2]⟩
theorem choiceN {α : Type} {p : Nat → α → Prop} (h : ∀ i, ∃ x, p i x) : ∃ f : Nat → α, ∀ i, p i (f i) := ⟨fun i => Classical.choose (h i), fun i => Classical.choose_spec (h i)⟩
/-- The operations that are handed in. -/
theorem ops_open {H : Type} {enc : TypeId × Value → H} {W : World} {a : Option Addr} {len cap : Nat} {d : DataW H} {p : List MemPlace}
    (h : DataW.Trod enc Tryd.prog W 0 (fun _ => true) true 22 (.slice a len cap) d p) : ∃ l, OSl W (.slice a len cap) l := by
  obtain ⟨fuel, hf⟩ := h
  rcases DataW.trod_slice Tryd.underlying22 hf with ⟨hcs, hx⟩ | ⟨x, len', cap', elems, rest, n, hn, hcs, hx, _, hlc, hcm, hel, hat, _, _⟩
  · simp only [Value.cells, List.cons.injEq, Value.slice.injEq, and_true] at hcs
    obtain ⟨rfl, rfl, rfl⟩ := hcs
    exact ⟨[], none, 0, rfl, Nat.zero_le _, fun j hj => by simp at hj⟩
  · simp only [Value.cells, List.cons.injEq, Value.slice.injEq, and_true] at hcs
    obtain ⟨rfl, rfl, rfl⟩ := hcs
    rw [show Tryd.prog.cellsOf 32 = 3 by kernel_rfl] at hat
    have hex : ∀ i, ∃ y : OpT, i < len → W.cells? 0 (x.add (i * 3)) 3 = some [.int .i64 y.kind, .bool y.other, .int .i64 y.i] := fun i => by
      by_cases hi : i < len
      · have hb := hat i hi
        rw [List.getElem?_eq_getElem (show i < elems.length by omega)] at hb
        obtain ⟨cs', h1, h2⟩ := Option.bind_eq_some_iff.1 hb
        obtain ⟨y, rfl⟩ := op_parts h2
        exact ⟨y, fun _ => h1⟩
      · exact ⟨⟨0, false, 0⟩, fun h => absurd h hi⟩
    obtain ⟨f, hf⟩ := choiceN hex
    have hcell : ∀ i, i < len → ∀ j, j < 3 → W.cell? ((x.add (i * 3)).add j) = [Value.int .i64 (f i).kind, .bool (f i).other, .int .i64 (f i).i][j]? := fun i hi j hj => (World.cells?_some (hf i hi)).2.2 j hj
    obtain ⟨b, off, spot⟩ := x
    refine ⟨(List.range len).map f, some ⟨b, off, spot⟩, cap, by simp, by simp; omega, fun j hj => ?_⟩
    have hj' : j < len := by simpa using hj
    have hspot : spot = none := by
      have h1 := hcell 0 (by omega) 0 (by decide)
      simpa [Addr.add] using World.cell?_spot h1
    subst hspot
    have hadd : ∀ i j, ((⟨b, off, none⟩ : Addr).add (i * 3)).add j = ⟨b, off + i * 3 + j, none⟩ := fun i j => by
      unfold Addr.add; split <;> split <;> simp_all <;> omega
    have hc := hcell j hj'
    simp only [hadd] at hc
    exact ⟨b, off, f j, rfl, hc 0 (by decide), hc 1 (by decide), hc 2 (by decide), by simp [hj']⟩
theorem BitsetDoes_any (n m : Int) (v : Value) (l : List OpT) (w : World) (he : EnvC w) (hl : OSl w v l) :
    Calls Tryd.prog 3 #[.int .i64 n, .int .i64 m, v] w fun e w' => e = .returned (.bool true) ∧ Below w.heap.size w w' := by
  cases hn : inR 1048577 n
  · exact BitsetDoes_out1 n m v hn w
  · cases hm : inR 1048577 m
    · exact BitsetDoes_out2 n m v hn hm w
    · by_cases h60 : l.length ≤ 60
      · obtain ⟨h1, h2⟩ : 0 ≤ n ∧ n ≤ 1048576 := by simp [inR] at hn; omega
        obtain ⟨h3, h4⟩ : 0 ≤ m ∧ m ≤ 1048576 := by simp [inR] at hm; omega
        obtain ⟨n', rfl⟩ : ∃ k : Nat, n = k := ⟨n.toNat, by omega⟩
        obtain ⟨m', rfl⟩ : ∃ k : Nat, m = k := ⟨m.toNat, by omega⟩
        exact BitsetDoes_main n' m' v l (by omega) (by omega) w he hl h60
      · obtain ⟨a, cap, rfl, -, -⟩ := hl
        exact BitsetDoes_out3 n m a _ cap (by omega) hn hm w he
theorem BitsetDoes_row {H : Type} {enc : TypeId × Value → H} (n m : Int) (w : World) (he : EnvC w) {a : Option Addr} {len cap : Nat} {d : DataW H} {p : List MemPlace}
    (h : DataW.Trod enc Tryd.prog w 0 (fun _ => true) true 22 (.slice a len cap) d p) :
    Calls Tryd.prog 3 #[.int .i64 n, .int .i64 m, .slice a len cap] w fun e w' => e = .returned (.bool true) ∧ Below w.heap.size w w' := by
  obtain ⟨l, hl⟩ := ops_open h
  exact BitsetDoes_any n m _ l w he hl
end Go.Proofs.YtgmeomhddpmpbaaDoor.BitsW
