/- Small facts of machines in their boxes, of lists. -/
import Derived.Test.YtfhddbjojpmbcaaQuoMath
import Derived.Test.YtfhddbjojpmbcaaRegions
namespace Go.Proofs.Ytfhddbjojpmbcaa.DfaW
set_option linter.unusedVariables false
open Go.Proofs.Ytfhddbjojpmbcaa.RegionU (does Up)
open Go.RowKit Go.Maps Go.Proofs.Ytfhddbjojpmbcaa.PartM Go.Proofs.Ytfhddbjojpmbcaa.PartW
theorem takeI_snoc (l : List Int) {j : Nat} (hj : j < l.length) : l.take (j + 1) = l.take j ++ [l.getD j 0] := by
  rw [List.take_succ_eq_append_getElem hj, List.getD_eq_getElem?_getD, List.getElem?_eq_getElem hj]; rfl
/-- What lies in a machine's box, whichever the world. -/
theorem Bx.nxv {W : World} {b : Nat} {C : Array Value} {m : Mc} (h : Bx W b C m) {v : Value} (hv : C[257]? = some v) : W.cell? ⟨b, 257, none⟩ = some v ∧ RS W.heap.size W v m.nx := by
  obtain ⟨u, h1, h2⟩ := h.is.nx
  rw [hv] at h1; cases h1
  exact ⟨(Ar.at' h.ar 257).trans hv, h2⟩
theorem Bx.lbv {W : World} {b : Nat} {C : Array Value} {m : Mc} (h : Bx W b C m) {v : Value} (hv : C[258]? = some v) : W.cell? ⟨b, 258, none⟩ = some v ∧ IS W.heap.size W v m.lb := by
  obtain ⟨u, h1, h2⟩ := h.is.lb
  rw [hv] at h1; cases h1
  exact ⟨(Ar.at' h.ar 258).trans hv, h2⟩
theorem Bx.nmv {W : World} {b : Nat} {C : Array Value} {m : Mc} (h : Bx W b C m) {v : Value} (hv : C[259]? = some v) : W.cell? ⟨b, 259, none⟩ = some v ∧ TS W.heap.size W v m.nm := by
  obtain ⟨u, h1, h2⟩ := h.is.nm
  rw [hv] at h1; cases h1
  exact ⟨(Ar.at' h.ar 259).trans hv, h2⟩
theorem IsM.slices {B : Nat} {w : World} {C : Array Value} {m : Mc} (h : IsM B w C m) : ∃ (a1 a2 a3 : Option Addr) (c1 c2 c3 : Nat), C[257]? = some (.slice a1 m.nx.length c1) ∧ C[258]? = some (.slice a2 m.lb.length c2) ∧ C[259]? = some (.slice a3 m.nm.length c3) := by
  obtain ⟨v1, x1, h1⟩ := h.nx
  obtain ⟨v2, x2, h2⟩ := h.lb
  obtain ⟨v3, x3, h3⟩ := h.nm
  obtain ⟨a1, c1, rfl, _⟩ := h1.open
  obtain ⟨a2, c2, rfl, _⟩ := h2.open
  obtain ⟨a3, c3, rfl, _⟩ := h3.open
  exact ⟨a1, a2, a3, c1, c2, c3, x1, x2, x3⟩

theorem IS.cell {B : Nat} {w : World} {a : Option Addr} {n c : Nat} {l : List Int} (h : IS B w (.slice a n c) l) {i : Nat} (hi : i < l.length) : ∃ b o : Nat, a = some ⟨b, o, none⟩ ∧ b < B ∧ w.cell? ⟨b, o + i, none⟩ = some (.int .i64 (l.getD i 0)) := by
  obtain ⟨a', cap, he, _, _, g⟩ := h.open
  simp only [Value.slice.injEq] at he
  obtain ⟨rfl, _, _⟩ := he
  exact g i hi
theorem TS.cell {B : Nat} {w : World} {a : Option Addr} {n c : Nat} {l : List ByteArray} (h : TS B w (.slice a n c) l) {i : Nat} (hi : i < l.length) : ∃ b o : Nat, a = some ⟨b, o, none⟩ ∧ b < B ∧ w.cell? ⟨b, o + i, none⟩ = some (.string (l.getD i ByteArray.empty)) := by
  obtain ⟨a', cap, he, _, _, g⟩ := h.open
  simp only [Value.slice.injEq] at he
  obtain ⟨rfl, _, _⟩ := he
  exact g i hi

theorem takeR_snoc (l : List (List Int)) {j : Nat} (hj : j < l.length) : l.take (j + 1) = l.take j ++ [l.getD j []] := by
  rw [List.take_succ_eq_append_getElem hj, List.getD_eq_getElem?_getD, List.getElem?_eq_getElem hj]; rfl
theorem does_eq {P : Program} {W : World} {r : Result Next} {v : Value} (h : r = .ok (.value v) W) : does P W (fun u _ => u = v) r := by rw [h]; exact RegionU.does_value rfl
theorem does_in {P : Program} {W : World} {f : FuncId} {args : Array Value} {T : Value → World → Prop} (h : Calls P f args W (fun e W' => ∃ u, e = .returned u ∧ T u W' ∧ Below W.heap.size W W')) : does P W T (.ok (.enter f args) W) := ⟨rfl, h⟩
/-- What lay in W0 lies. -/
def KB (W0 : World) (W : World) : Prop := Below W0.heap.size W0 W
theorem KB.up (W0 : World) : Up (KB W0) := fun W W' h hr => Below.trans h (hr.mono h.size)
theorem rows_form {m : Mc} (hk : Ok m) {B : Nat} {w : World} {a : Option Addr} {n c : Nat} (h : RS B w (.slice a n c) m.nx) {s : Nat} (hs : s < m.lb.length) :
    ∃ (b o bs os cs : Nat), a = some ⟨b, o, none⟩ ∧ w.cell? ⟨b, o + s, none⟩ = some (.slice (some ⟨bs, os, none⟩) (m.nx.getD s []).length cs) ∧ ∀ k : Nat, (k : Int) < m.wd → w.cell? ⟨bs, os + k, none⟩ = some (.int .i64 (at2 m.nx s k : Nat)) := by
  have hs' : s < m.nx.length := by rw [hk.len]; exact hs
  obtain ⟨a', cap, he, _, _, h3⟩ := h.open
  simp only [Value.slice.injEq] at he
  obtain ⟨rfl, rfl, rfl⟩ := he
  obtain ⟨b, o, vi, rfl, _, hc, hi⟩ := h3 s hs'
  obtain ⟨ar, cr, rfl, _, _, hg⟩ := hi.open
  have hr := hk.row hs
  have hw : (0 : Int) < m.wd := by have := hk.cls' (b := 0) (by decide); omega
  obtain ⟨bs, os, rfl, _, _⟩ := hg 0 (by omega)
  refine ⟨b, o, bs, os, cr, rfl, hc, fun k hk' => ?_⟩
  obtain ⟨bs', os', e, _, hc'⟩ := hg k (by omega)
  simp only [Option.some.injEq, Addr.mk.injEq, and_true] at e
  obtain ⟨rfl, rfl⟩ := e
  rw [hc', (hk.cell hs hk').1]
end Go.Proofs.Ytfhddbjojpmbcaa.DfaW
