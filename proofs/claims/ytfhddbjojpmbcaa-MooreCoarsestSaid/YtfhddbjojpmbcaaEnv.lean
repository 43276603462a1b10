/- What is handed in: machines; lists. -/
import Derived.Test.YtfhddbjojpmbcaaRows
import Derived.Test.YtfhddbjojpmbcaaMach
import Derived.Test.YtfhddbjojpmbcaaFits
import Derived.WalkKit
import Derived.ProofKit
import Derived.OpenShut
import Derived.Deep.Slices
import Derived.Laws.IdiomArrays
namespace Go.Proofs.Ytfhddbjojpmbcaa.DfaW
set_option linter.unusedVariables false
open Go.RowKit Go.Proofs.Ytfhddbjojpmbcaa.PartM Go.Proofs.Ytfhddbjojpmbcaa.PartW
open Go.ChangeShapes Go.WideShapes Go.ChangeAt Go.Deep
section
variable {H : Type} {enc : TypeId × Value → H} {W : World}
theorem vs_of {a : Addr} {len cap : Nat} {V : Nat → Value} (hl : len ≤ cap) (hm : cap ≤ maxLen) (h : ∀ i, i < len → W.cell? (a.add i) = some (V i)) : VS W.heap.size W (.slice (some a) len cap) ((List.range len).map V) := by
  refine ⟨some a, cap, by simp, by simpa using hl, hm, fun i hi => ?_⟩
  have hi' : i < len := by simpa using hi
  have h1 := h i hi'
  have h0 := h 0 (by omega)
  obtain ⟨b, o, spot⟩ := a
  have hspot : spot = none := by simpa [Addr.add] using World.cell?_spot h0
  subst hspot
  have hplain : (⟨b, o, none⟩ : Addr).add i = ⟨b, o + i, none⟩ := by unfold Addr.add; split <;> simp_all
  rw [hplain] at h1
  refine ⟨b, o, rfl, World.block_lt_of_cell? _ _ h1, ?_⟩
  rw [h1]
  simp [hi']
theorem map_range {α β : Type} {n : Nat} {f : Nat → α} {g : Nat → β} {k : β → α} (h : ∀ i, i < n → f i = k (g i)) : (List.range n).map f = ((List.range n).map g).map k := by
  rw [List.map_map]
  exact List.map_congr_left fun i hi => h i (List.mem_range.1 hi)
/-- A list of numbers. -/
theorem ints_read {fuel : Nat} {cs : List Value} {x : DataW H × List MemPlace} (h : DataW.trod enc Try.prog W 0 (fun _ => true) true fuel 24 cs = some x) : ∃ v l, cs = [v] ∧ IS W.heap.size W v l := by
  rcases open_slice1 Try.underlying24 (by kernel_rfl) h with ⟨rfl, _⟩ | ⟨a, len, cap, m, n, V, D, Pl, rfl, _, hl, hm, hmm, _, hx⟩
  · exact ⟨_, [], rfl, VS.nil _ _ _⟩
  · simp only [if_true] at hmm
    subst hmm
    have hex : ∀ i, i < m → ∃ z : Int, V i = .int .i64 z := fun i hi => by
      obtain ⟨z, h1, _, _⟩ := DataW.trod_int Try.underlying3 (hx i hi).2
      exact ⟨z, by simpa using h1⟩
    obtain ⟨z, hz⟩ := choose_lt hex
    refine ⟨_, (List.range len).map z, rfl, ?_⟩
    have h1 := vs_of hl hm fun i hi => (hx i (by omega)).1
    rw [map_range (g := z) (k := Value.int .i64) fun i hi => hz i (by omega)] at h1
    exact h1
/-- A list of lists. -/
theorem rows_read {fuel : Nat} {cs : List Value} {x : DataW H × List MemPlace} (h : DataW.trod enc Try.prog W 0 (fun _ => true) true fuel 23 cs = some x) : ∃ v ll, cs = [v] ∧ RS W.heap.size W v ll := by
  rcases open_slice1 Try.underlying23 (by kernel_rfl) h with ⟨rfl, _⟩ | ⟨a, len, cap, m, n, V, D, Pl, rfl, _, hl, hm, hmm, _, hx⟩
  · exact ⟨_, [], rfl, [], VS.nil _ _ _, rfl, fun i hi => by simp at hi⟩
  · simp only [if_true] at hmm
    subst hmm
    have hex : ∀ i, i < m → ∃ z : List Int, IS W.heap.size W (V i) z := fun i hi => by
      obtain ⟨v, l, h1, h2⟩ := ints_read (hx i hi).2
      exact ⟨l, by rw [show V i = v by simpa using h1]; exact h2⟩
    obtain ⟨z, hz⟩ := choose_lt hex
    refine ⟨_, (List.range len).map z, rfl, (List.range len).map V, vs_of hl hm fun i hi => (hx i (by omega)).1, by simp, fun i hi => ⟨V i, ?_, ?_⟩⟩
    · simp at hi; simp [hi]
    · have hi' : i < len := by simpa using hi
      have : ((List.range len).map z).getD i [] = z i := by simp [List.getD, hi']
      rw [this]
      exact hz i (by omega)
/-- A list of texts. -/
theorem texts_read {fuel : Nat} {cs : List Value} {x : DataW H × List MemPlace} (h : DataW.trod enc Try.prog W 0 (fun _ => true) true fuel 25 cs = some x) : ∃ v l, cs = [v] ∧ TS W.heap.size W v l ∧ (∀ x ∈ l, x.size ≤ maxLen) ∧ ((x.1 = .nil ∧ l = []) ∨ ∃ el sp, x.1 = .slice el sp ∧ el.length = l.length) := by
  rcases open_slice1 Try.underlying25 (by kernel_rfl) h with ⟨rfl, e0⟩ | ⟨a, len, cap, m, n, V, D, Pl, rfl, _, hl, hm, hmm, e0, hx⟩
  · exact ⟨_, [], rfl, ⟨VS.nil _ _ _, fun i hi => by simp at hi⟩, fun x hx => (by cases hx), .inl ⟨by rw [e0], rfl⟩⟩
  · simp only [if_true] at hmm
    subst hmm
    have hex : ∀ i, i < m → ∃ s : ByteArray, V i = .string s ∧ s.size ≤ maxLen := fun i hi => by
      obtain ⟨s, h1, _, h2⟩ := DataW.trod_string Try.underlying9 (hx i hi).2
      exact ⟨s, by simpa using h1, h2⟩
    obtain ⟨z, hz⟩ := choose_lt hex
    refine ⟨_, (List.range len).map z, rfl, ⟨?_, fun i hi => ?_⟩, fun x hx => ?_, .inr ⟨_, _, by rw [e0], by simp⟩⟩
    · have h1 := vs_of hl hm fun i hi => (hx i (by omega)).1
      rw [map_range (g := z) (k := Value.string) fun i hi => (hz i (by omega)).1] at h1
      exact h1
    · have hi' : i < len := by simpa using hi
      have : ((List.range len).map z).getD i ByteArray.empty = z i := by simp [List.getD, hi']
      rw [this]
      have := (hz i (by omega)).2
      unfold maxLen at this
      omega
    · obtain ⟨i, hi, rfl⟩ := List.mem_map.1 hx
      exact (hz i (by have := List.mem_range.1 hi; omega)).2
/-- The classes. -/
theorem arr_read {fuel : Nat} {cs : List Value} {x : DataW H × List MemPlace} (h : DataW.trod enc Try.prog W 0 (fun _ => true) true fuel 22 cs = some x) : ∃ f : Nat → Nat, ∀ i, i < 256 → cs[i]? = some (.int .u8 (f i : Int)) ∧ f i < 256 := by
  obtain ⟨xs, m, _, _, hsz, hxl, hat⟩ := DataW.trod_array Try.underlying22 h
  rw [show Try.prog.cellsOf 22 = 256 by kernel_rfl] at hsz
  have h1 : Try.prog.cellsOf 5 = 1 := by kernel_rfl
  have hex : ∀ i, i < 256 → ∃ y : Nat, cs[i]? = some (.int .u8 (y : Int)) ∧ y < 256 := fun i hi => ?ex
  · exact choose_lt hex
  have hb := hat i hi
  rw [h1, Nat.mul_one, List.getElem?_eq_getElem (by omega)] at hb
  have hcl : i < cs.length := by omega
  have hd : ((cs.drop i).take 1) = [cs[i]] := by
    rw [List.take_one, List.head?_drop]
    simp [hcl]
  obtain ⟨y, e0, _, w0⟩ := DataW.trod_int Try.underlying5 hb
  have e1 := hd.symm.trans e0
  simp only [List.cons.injEq, and_true] at e1
  have h2 := Base.byte_of_wf' w0
  exact ⟨y.toNat, by rw [List.getElem?_eq_getElem hcl, e1, show ((y.toNat : Nat) : Int) = y by omega], by omega⟩
theorem one_at {l : List Value} {k : Nat} {v : Value} (h : (l.drop k).take 1 = [v]) : l[k]? = some v := by
  have := congrArg List.head? h
  rw [List.take_one] at this
  simpa [List.head?_drop] using this
set_option maxRecDepth 100000 in
/-- A machine that is handed in. -/
theorem dfa_open {base : Nat} {v : Value} {d : DataW H} {p : List MemPlace} (hval : Value.okWide Try.prog W .any base 27 v)
    (h : DataW.Trod enc Try.prog W 0 (fun _ => true) true 27 v d p) : ∃ C m, v = .agg C ∧ IsM W.heap.size W C m := by
  obtain ⟨cs, rfl, hsz, _⟩ : ∃ cs, v = .agg cs ∧ cs.size = Try.prog.cellsOf 27 ∧ Row.okWide Try.prog W .any base 27 cs := by
    simpa [Value.okWide, Try.underlying27] using hval
  rw [show Try.prog.cellsOf 27 = 260 by kernel_rfl] at hsz
  obtain ⟨fuel, hf⟩ := h
  obtain ⟨xs, n, _, _, _, hxl, hat⟩ := DataW.trod_struct Try.underlying27 hf
  obtain ⟨y0, y1, y2, y3, y4, rfl⟩ : ∃ a b c d e, xs = [a, b, c, d, e] := by
    match xs, hxl with
    | [a, b, c, d, e], _ => exact ⟨a, b, c, d, e, rfl⟩
  have f0 : DataW.trod enc Try.prog W 0 (fun _ => true) true n 22 ((cs.toList.drop 0).take (Try.prog.cellsOf 22)) = some y0 := hat 0 _ rfl
  have f1 : DataW.trod enc Try.prog W 0 (fun _ => true) true n 3 ((cs.toList.drop 256).take (Try.prog.cellsOf 3)) = some y1 := hat 1 _ rfl
  have f2 : DataW.trod enc Try.prog W 0 (fun _ => true) true n 23 ((cs.toList.drop 257).take (Try.prog.cellsOf 23)) = some y2 := hat 2 _ rfl
  have f3 : DataW.trod enc Try.prog W 0 (fun _ => true) true n 24 ((cs.toList.drop 258).take (Try.prog.cellsOf 24)) = some y3 := hat 3 _ rfl
  have f4 : DataW.trod enc Try.prog W 0 (fun _ => true) true n 25 ((cs.toList.drop 259).take (Try.prog.cellsOf 25)) = some y4 := hat 4 _ rfl
  rw [show Try.prog.cellsOf 22 = 256 by kernel_rfl] at f0
  rw [show Try.prog.cellsOf 3 = 1 by kernel_rfl] at f1
  rw [show Try.prog.cellsOf 23 = 1 by kernel_rfl] at f2
  rw [show Try.prog.cellsOf 24 = 1 by kernel_rfl] at f3
  rw [show Try.prog.cellsOf 25 = 1 by kernel_rfl] at f4
  obtain ⟨f, hof⟩ := arr_read f0
  obtain ⟨x, e1, _, _⟩ := DataW.trod_int Try.underlying3 f1
  obtain ⟨v2, ll, e2, h2⟩ := rows_read f2
  obtain ⟨v3, l, e3, h3⟩ := ints_read f3
  obtain ⟨v4, tl, e4, h4, _, _⟩ := texts_read f4
  have g : ∀ k u, cs.toList[k]? = some u → cs[k]? = some u := fun k u h => by rw [← Array.getElem?_toList]; exact h
  refine ⟨cs, ⟨f, x, ll, l, tl⟩, rfl, hsz, fun i hi => ?_, fun i hi => (hof i hi).2, g _ _ (one_at e1), ⟨v2, g _ _ (one_at e2), h2⟩, ⟨v3, g _ _ (one_at e3), h3⟩, ⟨v4, g _ _ (one_at e4), h4⟩⟩
  have := (hof i hi).1
  rw [List.drop_zero, List.getElem?_take, if_pos hi] at this
  exact g _ _ this
end
/-- The machine of nothing, for the witness; how it is read. -/
def zeroD : Value := .agg (Array.replicate 256 (.int .u8 0) ++ #[.int .i64 0, .slice none 0 0, .slice none 0 0, .slice none 0 0])
def zeroR {H : Type} : DataW H := .agg [.agg (List.replicate 256 (.lit (.int .u8 0))), .lit (.int .i64 0), .nil, .nil, .nil]
theorem is_of {W : World} {v : Value} {l : List Int} (h : Base.ISl .i64 W v l) : IS W.heap.size W v l := by
  rcases h with ⟨a, rfl, rfl⟩ | ⟨b, o, cap, rfl, h2, h3, h4, _⟩
  · exact VS.nil _ _ _
  · refine ⟨some ⟨b, o, none⟩, cap, by simp, by simpa using h2, h3, fun i hi => ?_⟩
    have hi' : i < l.length := by simpa using hi
    exact ⟨b, o, rfl, World.block_lt_of_cell? _ _ (h4 i hi'), by rw [h4 i hi']; simp [hi']⟩
theorem i64_of {W : World} {v : Value} {l : List Int} (h : Base.ISl .i64 W v l) : I64 l := by
  rcases h with ⟨a, rfl, rfl⟩ | ⟨b, o, cap, rfl, h2, h3, h4, h5⟩
  · exact fun x hx => by cases hx
  · exact h5
end Go.Proofs.Ytfhddbjojpmbcaa.DfaW
