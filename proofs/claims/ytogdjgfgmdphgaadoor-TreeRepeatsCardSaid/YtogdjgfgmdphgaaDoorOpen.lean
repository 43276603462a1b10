/- Trees that are handed in: what the reading says. -/
import Derived.Test.YtogdjgfgmdphgaaDoorRows
import Derived.Test.YtogdjgfgmdphgaaDoorLies
import Derived.Laws.IdiomArrays
import Derived.SizedLaws
namespace Go.Proofs.YtogdjgfgmdphgaaDoor.TreeW
set_option linter.unusedVariables false
open Go.RowKit Go.Proofs.YtogdjgfgmdphgaaDoor.TreeM
open Go.ChangeShapes Go.WideShapes Go.ChangeAt
theorem bulk_list {H : Type} : ∀ (l : List Tr) (es : List (DataW H)), l.length = es.length → (∀ i (h : i < l.length) (h' : i < es.length), size l[i] ≤ Rows.uptoBulk es[i]) → sizeL l ≤ Rows.uptoBulkAll es
  | [], _, _, _ => by rw [sizeL_nil]; omega
  | t :: l, [], h, _ => by simp at h
  | t :: l, e :: es, h, h2 => by
    have h0 := h2 0 (by simp) (by simp)
    have := bulk_list l es (by simpa using h) (fun i hi hi' => by have := h2 (i + 1) (by simpa using hi) (by simpa using hi'); simpa using this)
    simp at h0
    rw [sizeL_cons, Rows.uptoBulkAll]; omega
theorem bulk_mem {H : Type} {d : DataW H} : ∀ {l : List (DataW H)}, d ∈ l → Rows.uptoBulk d ≤ Rows.uptoBulkAll l
  | x :: l, h => by
    rw [Rows.uptoBulkAll]
    rcases List.mem_cons.1 h with rfl | h
    · omega
    · have := bulk_mem h; omega
theorem weightsAll_mem {H : Type} {P : Program} {e : TypeId} {d : DataW H} {m : Nat} (hm : m ∈ d.weights P e) : ∀ {l : List (DataW H)}, d ∈ l → m ∈ DataW.weightsAll P e l
  | x :: l, h => by
    rw [DataW.weightsAll]
    rcases List.mem_cons.1 h with rfl | h
    · exact List.mem_append_left _ hm
    · exact List.mem_append_right _ (weightsAll_mem hm h)
theorem array_eight {α : Type} {cs : List α} (h : cs.length = 8) : ∃ a b c d e f g i, cs = [a, b, c, d, e, f, g, i] := by
  match cs, h with
  | [a, b, c, d, e, f, g, i], _ => exact ⟨a, b, c, d, e, f, g, i, rfl⟩
theorem under {a b : Nat} {l r : List Nat} (h : ∀ m ∈ a :: (l ++ r), m ≤ b) {m : Nat} (hm : m ∈ l) : m ≤ b := h m (List.mem_cons_of_mem _ (List.mem_append_left _ hm))
theorem in_map {α β : Type} {l : List (α × β)} {i : Nat} {y : α × β} (h : l[i]? = some y) : y.1 ∈ l.map (·.1) := List.mem_map.2 ⟨y, List.mem_of_getElem? h, rfl⟩
theorem choice {α : Type} {p : Nat → α → Prop} (h : ∀ i, ∃ x, p i x) : ∃ f : Nat → α, ∀ i, p i (f i) := ⟨fun i => Classical.choose (h i), fun i => Classical.choose_spec (h i)⟩
/-- What is told of a tree and its datum. -/
def Fits {H : Type} (W : World) (l : List Tr) (a : Option Addr) (cap : Nat) (d : DataW H) (t : TypeId) : Prop :=
  Lies 0 W.heap.size W (.slice a l.length cap) l ∧ sizeL l + 1 ≤ Rows.uptoBulk d ∧ ∀ M, (∀ m ∈ d.weights Tryd.prog t, m ≤ M * 80) → l.length ≤ M ∧ mxL l ≤ M
def NodeSaid {H : Type} (enc : TypeId × Value → H) (W : World) (fuel : Nat) : Prop := ∀ cs x, DataW.trod enc Tryd.prog W 0 (fun _ => true) true fuel 28 cs = some x →
  ∃ (n : Nd) (l : List Tr) (a : Option Addr) (cap : Nat), cs = [.int .i64 n.K, .int .u64 n.a, .int .u64 n.b, .int .u64 n.c, .int .u64 n.d, .slice a l.length cap, .int .i64 n.L, .int .i64 n.H] ∧ Fits W l a cap x.1 28
def KidsSaid {H : Type} (enc : TypeId × Value → H) (W : World) (fuel : Nat) : Prop := ∀ cs x, DataW.trod enc Tryd.prog W 0 (fun _ => true) true fuel 26 cs = some x →
  ∃ (l : List Tr) (a : Option Addr) (cap : Nat), cs = [.slice a l.length cap] ∧ Fits W l a cap x.1 26
theorem node_of_kids {H : Type} {enc : TypeId × Value → H} {W : World} {fuel : Nat} (ih : KidsSaid enc W fuel) : NodeSaid enc W (fuel + 1) := by
  intro cs x h
  obtain ⟨xs, n, hn, hx, hcl, hxl, hf⟩ := DataW.trod_struct Tryd.underlying28 h
  obtain rfl : n = fuel := by omega
  rw [show Tryd.prog.cellsOf 28 = 8 by kernel_rfl] at hcl
  obtain ⟨c0, c1, c2, c3, c4, c5, c6, c7, rfl⟩ := array_eight hcl
  match xs, hxl with
  | [y0, y1, y2, y3, y4], _ =>
    have f0 : DataW.trod enc Tryd.prog W 0 (fun _ => true) true n 22 [c0] = some y0 := by
      have h := hf 0 _ rfl
      simpa [show Tryd.prog.cellsOf 22 = 1 by kernel_rfl] using h
    have f1 : DataW.trod enc Tryd.prog W 0 (fun _ => true) true n 25 [c1, c2, c3, c4] = some y1 := by
      have h := hf 1 _ rfl
      simpa [show Tryd.prog.cellsOf 25 = 4 by kernel_rfl] using h
    have f2 : DataW.trod enc Tryd.prog W 0 (fun _ => true) true n 26 [c5] = some y2 := by
      have h := hf 2 _ rfl
      simpa [show Tryd.prog.cellsOf 26 = 1 by kernel_rfl] using h
    have f3 : DataW.trod enc Tryd.prog W 0 (fun _ => true) true n 3 [c6] = some y3 := by
      have h := hf 3 _ rfl
      simpa [show Tryd.prog.cellsOf 3 = 1 by kernel_rfl] using h
    have f4 : DataW.trod enc Tryd.prog W 0 (fun _ => true) true n 3 [c7] = some y4 := by
      have h := hf 4 _ rfl
      simpa [show Tryd.prog.cellsOf 3 = 1 by kernel_rfl] using h
    obtain ⟨K, e0, r0, _⟩ := DataW.trod_int Tryd.underlying22 f0
    obtain ⟨z0, z1, z2, z3, m, r1, hz0, hz1, hz2, hz3⟩ := trod_array4 Tryd.underlying25 (by kernel_rfl) f1
    obtain ⟨s0, g0, _, _⟩ := DataW.trod_int Tryd.underlying23 hz0
    obtain ⟨s1, g1, _, _⟩ := DataW.trod_int Tryd.underlying23 hz1
    obtain ⟨s2, g2, _, _⟩ := DataW.trod_int Tryd.underlying23 hz2
    obtain ⟨s3, g3, _, _⟩ := DataW.trod_int Tryd.underlying23 hz3
    obtain ⟨Lo, e3, r3, _⟩ := DataW.trod_int Tryd.underlying3 f3
    obtain ⟨Hi, e4, r4, _⟩ := DataW.trod_int Tryd.underlying3 f4
    obtain ⟨l, a, cap, e5, hl, hb, hm⟩ := ih _ _ f2
    simp only [List.cons.injEq, and_true] at e0 g0 g1 g2 g3 e3 e4 e5
    subst e0 g0 g1 g2 g3 e3 e4 e5
    refine ⟨⟨K, s0, s1, s2, s3, Lo, Hi⟩, l, a, cap, rfl, hl, ?_, fun M hM => hm M fun w hw => ?_⟩
    · rw [hx]
      have h2 : Rows.uptoBulk y2.1 ≤ Rows.uptoBulkAll ([y0, y1, y2, y3, y4].map (·.1)) := bulk_mem (by simp)
      show _ ≤ Rows.uptoBulk (DataW.agg _)
      rw [Rows.uptoBulk]
      omega
    · refine hM w ?_
      rw [hx]
      show w ∈ DataW.weights Tryd.prog _ (DataW.agg _)
      rw [DataW.weights, Tryd.underlying28]
      exact DataW.weights_mem_each (j := 2) rfl rfl w hw
theorem kids_of_node {H : Type} {enc : TypeId × Value → H} {W : World} {fuel : Nat} (ih : NodeSaid enc W fuel) : KidsSaid enc W (fuel + 1) := by
  intro cs x h
  rcases DataW.trod_slice Tryd.underlying26 h with ⟨rfl, rfl⟩ | ⟨a, len, cap, elems, rest, n, hn, rfl, rfl, _, hlc, hcm, hel, hat, _, _⟩
  · refine ⟨[], none, 0, rfl, .nil _ _ (fun _ => rfl), ?_, fun M _ => ⟨by simp, by rw [mxL_nil]; omega⟩⟩
    rw [sizeL_nil]; show 0 + 1 ≤ Rows.uptoBulk DataW.nil; rw [Rows.uptoBulk]; omega
  · obtain rfl : n = fuel := by omega
    have h8 : Tryd.prog.cellsOf 28 = 8 := by kernel_rfl
    rw [h8] at hat
    have hex : ∀ i, ∃ tv : Tr × Value, i < len → (∃ cs', W.cells? 0 (a.add (i * 8)) 8 = some cs' ∧ cs' = [.int .i64 tv.1.nd.K, .int .u64 tv.1.nd.a, .int .u64 tv.1.nd.b, .int .u64 tv.1.nd.c, .int .u64 tv.1.nd.d, tv.2, .int .i64 tv.1.nd.L, .int .i64 tv.1.nd.H]) ∧
        Lies 0 W.heap.size W tv.2 tv.1.kids ∧ ∃ y, elems[i]? = some y ∧ size tv.1 ≤ Rows.uptoBulk y.1 ∧ ∀ M, (∀ m ∈ y.1.weights Tryd.prog 28, m ≤ M * 80) → mx tv.1 ≤ M := fun i => by
      by_cases hi : i < len
      · have hy : elems[i]? = some (elems[i]'(by omega)) := List.getElem?_eq_getElem _
        have hb := hat i hi
        rw [hy] at hb
        obtain ⟨cs', h1, h2⟩ := Option.bind_eq_some_iff.1 hb
        obtain ⟨nd, l, ad, cp, rfl, hl, hbk, hm⟩ := ih _ _ h2
        refine ⟨(.mk nd l, .slice ad l.length cp), fun _ => ⟨⟨_, h1, rfl⟩, hl, _, hy, by rw [size_mk]; exact hbk, fun M hM => ?_⟩⟩
        have := hm M hM
        rw [mx]; omega
      · exact ⟨(.mk zero [], undef), fun h => absurd h hi⟩
    obtain ⟨f, hf⟩ := choice hex
    have hll : ((List.range len).map fun i => (f i).1).length = len := by simp
    have hla : ∀ i (h : i < ((List.range len).map fun i => (f i).1).length), ((List.range len).map fun i => (f i).1)[i] = (f i).1 := fun i h => by simp
    generalize ((List.range len).map fun i => (f i).1) = l at *
    subst hll
    obtain ⟨b, off, spot⟩ := a
    refine ⟨l, some ⟨b, off, spot⟩, cap, rfl, ?_, ?_, fun M hM => ?_⟩
    · by_cases h0 : 0 < l.length
      · have hcell : ∀ i, i < l.length → ∀ j, j < 8 → W.cell? (((⟨b, off, spot⟩ : Addr).add (i * 8)).add j) = [Value.int .i64 (f i).1.nd.K, .int .u64 (f i).1.nd.a, .int .u64 (f i).1.nd.b, .int .u64 (f i).1.nd.c, .int .u64 (f i).1.nd.d, (f i).2, .int .i64 (f i).1.nd.L, .int .i64 (f i).1.nd.H][j]? := fun i hi j hj => by
          obtain ⟨⟨cs', h1, rfl⟩, _⟩ := hf i hi
          exact (World.cells?_some h1).2.2 j hj
        have hspot : spot = none := by
          have h1 := hcell 0 h0 0 (by decide)
          simpa [Addr.add] using World.cell?_spot h1
        subst hspot
        have hadd : ∀ i j, ((⟨b, off, none⟩ : Addr).add (i * 8)).add j = ⟨b, off + i * 8 + j, none⟩ := fun i j => by
          unfold Addr.add; split <;> split <;> simp_all <;> omega
        have hnode : ∀ i, i < l.length → NodeAt W b (off + i * 8) (f i).1.nd (f i).2 := fun i hi => by
          have hc := hcell i hi
          simp only [hadd] at hc
          exact ⟨hc 0 (by decide), hc 1 (by decide), hc 2 (by decide), hc 3 (by decide), hc 4 (by decide), hc 5 (by decide), hc 6 (by decide), hc 7 (by decide)⟩
        exact .cons b off cap l (fun i => (f i).2) h0 hlc hcm (Nat.zero_le _) (hnode 0 h0).lt (fun i hi => by rw [hla i hi]; exact hnode i hi) (fun i hi => by rw [hla i hi]; exact (hf i hi).2.1)
      · obtain rfl : l = [] := List.length_eq_zero_iff.1 (by omega)
        exact .nil _ _ (fun h => by cases h)
    · show _ ≤ Rows.uptoBulk (DataW.slice _ _)
      rw [Rows.uptoBulk]
      have := bulk_list l (elems.map (·.1)) (by simp [hel]) (fun i hi hi' => by
        obtain ⟨_, _, y, hy, h2, _⟩ := hf i hi
        rw [hla i hi]
        have : elems[i]'(by omega) = y := by
          have := List.getElem?_eq_getElem (l := elems) (i := i) (by omega)
          rw [hy] at this; exact (Option.some.inj this).symm
        simp [this]; exact h2)
      omega
    · have hM' := hM
      have hw : DataW.weights Tryd.prog 26 (DataW.slice (elems.map (·.1)) (rest.map (·.1))) = ((elems.map (·.1)).length + (rest.map (·.1)).length) * Tryd.prog.bytesOf 28 :: (DataW.weightsAll Tryd.prog 28 (elems.map (·.1)) ++ DataW.weightsAll Tryd.prog 28 (rest.map (·.1))) := by
        rw [DataW.weights, Tryd.underlying26]
      dsimp only at hM'
      rw [hw, show Tryd.prog.bytesOf 28 = 80 by kernel_rfl] at hM'
      refine ⟨?_, mxL_of l fun i hi => ?_⟩
      · have := hM' _ (List.mem_cons_self ..)
        simp at this; omega
      · obtain ⟨_, _, y, hy, _, h3⟩ := hf i hi
        rw [hla i hi]
        exact h3 M fun m hm => under hM' (weightsAll_mem hm (in_map hy))
theorem both_said {H : Type} (enc : TypeId × Value → H) (W : World) : ∀ fuel, NodeSaid enc W fuel ∧ KidsSaid enc W fuel
  | 0 => ⟨fun cs x h => by simp [DataW.trod] at h, fun cs x h => by simp [DataW.trod] at h⟩
  | fuel + 1 => ⟨node_of_kids (both_said enc W fuel).2, kids_of_node (both_said enc W fuel).1⟩
end Go.Proofs.YtogdjgfgmdphgaaDoor.TreeW
