/- Walks of apart, columns: classes by which the same state is behind each state. -/
import Derived.Test.YthefhkgjadfhgaaDoorNumC
import Derived.Test.YthefhkgjadfhgaaDoorStabQ
import Derived.Test.YthefhkgjadfhgaaDoorBuilt
namespace Go.Proofs.YthefhkgjadfhgaaDoor.DfaW
set_option linter.unusedVariables false
set_option linter.unusedSimpArgs false
open Go.RowKit Go.Maps Go.Proofs.YthefhkgjadfhgaaDoor.PartM Go.Proofs.YthefhkgjadfhgaaDoor.PartW
/-- Classes that no row below k tells apart. -/
def rowsE (m : Mc) (k : Nat) : Nat → Nat → Bool := byKey fun c => (m.nx.take k).map fun r => r.getD c 0
theorem rowsE_eqv (m : Mc) (k : Nat) : Eqv (rowsE m k) := byKey_eqv _
theorem rowsE_iff {m : Mc} {k a b : Nat} : rowsE m k a b = true ↔ ((m.nx.take k).map fun r => r.getD a 0) = (m.nx.take k).map fun r => r.getD b 0 := by simp [rowsE, byKey]
theorem rowsE_succ {m : Mc} {k a b : Nat} (hk : k < m.nx.length) : rowsE m (k + 1) a b = true ↔ rowsE m k a b = true ∧ (m.nx.getD k []).getD a 0 = (m.nx.getD k []).getD b 0 := by
  rw [rowsE_iff, rowsE_iff, takeR_snoc _ hk, List.map_append, List.map_append]
  simp [List.append_inj']
theorem rowsE_zero (m : Mc) (a b : Nat) : rowsE m 0 a b = true := by rw [rowsE_iff]; rfl
theorem firstsI_congr {n : Nat} {E E' : Nat → Nat → Bool} (hE : Eqv E) (hE' : Eqv E') (h : ∀ a b, a < n → b < n → E a b = E' a b) : firstsI E n = firstsI E' n := by
  unfold firstsI reps
  congr 1
  refine List.filter_congr fun i hi => ?_
  have hi : i < n := List.mem_range.1 hi
  rw [Bool.eq_iff_iff, beq_iff_eq, beq_iff_eq, first_iff hE, first_iff hE']
  constructor
  · intro k a ha; rw [← h a i (by omega) hi]; exact k a ha
  · intro k a ha; rw [h a i (by omega) hi]; exact k a ha
/-- Where all are alike. -/
theorem one_fst {E : Nat → Nat → Bool} (h : ∀ a b, E a b = true) (i : Nat) : fst E i = i ↔ i = 0 := by
  rcases fst_spec E i with ⟨h1, h2⟩ | ⟨h1, _, _⟩
  · constructor
    · intro _
      rcases Nat.eq_zero_or_pos i with h0 | h0
      · exact h0
      · have := h2 0 h0; rw [h 0 i] at this; cases this
    · intro _; exact h1
  · constructor
    · intro e; omega
    · intro e; omega
theorem one_nm {E : Nat → Nat → Bool} (hE : Eqv E) (h : ∀ a b, E a b = true) (i : Nat) : nm E i = 0 := by rw [← nm_zero E]; exact nm_congr hE (h i 0)
theorem one_firsts {E : Nat → Nat → Bool} (h : ∀ a b, E a b = true) : ∀ n, 0 < n → firstsI E n = [0]
  | 0, h0 => absurd h0 (by decide)
  | 1, _ => by rw [firstsI_succ, if_pos ((one_fst h 0).2 rfl)]; rfl
  | n + 2, _ => by rw [firstsI_succ, if_neg (fun e => by have := (one_fst h (n + 1)).1 e; omega)]; exact one_firsts h (n + 1) (by omega)
/-- Is a class told from the first one of its number? -/
def ApartP (E : Nat → Nat → Bool) (r : List Int) (d : Nat) : Prop := ∃ c, c < d ∧ r.getD c 0 ≠ r.getD (fst E c) 0
theorem not_apart {m : Mc} {k d : Nat} (hk : k < m.nx.length) (h : ¬ ApartP (rowsE m k) (m.nx.getD k []) d) : ∀ a b, a < d → b < d → rowsE m k a b = rowsE m (k + 1) a b := fun a b ha hb => by
  have hc : ∀ c, c < d → (m.nx.getD k []).getD c 0 = (m.nx.getD k []).getD (fst (rowsE m k) c) 0 := fun c hc => by
    by_cases e : (m.nx.getD k []).getD c 0 = (m.nx.getD k []).getD (fst (rowsE m k) c) 0
    · exact e
    · exact absurd ⟨c, hc, e⟩ h
  rw [Bool.eq_iff_iff, rowsE_succ hk]
  refine ⟨fun x => ⟨x, ?_⟩, fun x => x.1⟩
  rw [hc a ha, hc b hb, fst_congr (rowsE_eqv m k) x]
set_option maxHeartbeats 1000000 in
theorem apart_any {va vb vc : Value} {r : List Int} {E : Nat → Nat → Bool} {d : Nat} (hE : Eqv E) (w : World) (ha : IS w.heap.size w va r) (hb : IS w.heap.size w vb (numsTo E d)) (hc : IS w.heap.size w vc (firstsI E d)) (hr : r.length = d) (hd : d ≤ 65536) :
    Calls Tryd.prog 40 #[va, vb, vc] w fun e w' => Says e (ApartP E r d) ∧ Below w.heap.size w w' := by
  obtain ⟨a1, c1, rfl, _, _, hc1⟩ := ha.open
  obtain ⟨a2, c2, rfl, _, _, hc2⟩ := hb.open
  obtain ⟨a3, c3, rfl, _, _, hc3⟩ := hc.open
  rw [hr] at hc1 ⊢
  rw [numsTo_len] at hc2 ⊢
  obtain ⟨R, hR⟩ : ∃ R, R = (firstsI E d).length := ⟨_, rfl⟩
  have hRd : R ≤ d := by rw [hR, firstsI_len]; exact rk_le _
  have HR := Lib.hid hR
  rw [← hR] at hc3 ⊢
  have hdi : (d : Int) ≤ 65536 := by omega
  have hRi : (R : Int) ≤ 65536 := by omega
  have HC1 := Lib.hid hc1; have HC2 := Lib.hid hc2; have HC3 := Lib.hid hc3; have HE := Lib.hid hE
  clear ha hb hc hr hd hc1 hc2 hc3 hR hE hRd
  go_enter Tryd.func40, Tryd.ntmps40
  go_wp2_with fail
  go_loopw [11] (fun i wr => ∃ k : Nat, k ≤ d ∧ i = .int .i64 k ∧ Hid (∀ c, c < k → r.getD c 0 = r.getD (fst E c) 0) ∧ Below w.heap.size w wr) (fun i _ => d - (intOf i).toNat)
  case atStart => exact ⟨0, Nat.zero_le _, rfl, Lib.hid fun c hc => absurd hc (Nat.not_lt_zero _), Below.refl _ _⟩
  case round =>
    obtain ⟨k, hk, rfl, HA, hb⟩ := hrel
    by_cases hlt : k < d
    · obtain ⟨b2, o2, rfl, hb2, d2⟩ := HC2.out k hlt
      rw [numsTo_at _ hlt] at d2
      have hf := firstsI_at HE.out hlt
      rw [← HR.out] at hf
      obtain ⟨j, hj⟩ : ∃ j, j = nm E k := ⟨_, rfl⟩
      rw [← hj] at d2 hf
      obtain ⟨b3, o3, rfl, hb3, d3⟩ := HC3.out j hf.1
      rw [hf.2] at d3
      have hfk := fst_le E k
      obtain ⟨f, hff⟩ : ∃ f, f = fst E k := ⟨_, rfl⟩
      rw [← hff] at d3 hfk
      have hfd : f < d := by omega
      obtain ⟨b1, o1, rfl, hb1, d1⟩ := HC1.out k hlt
      obtain ⟨b1', o1', e1, hb1', d1'⟩ := HC1.out f hfd
      simp only [Option.some.injEq, Addr.mk.injEq, and_true] at e1
      obtain ⟨rfl, rfl⟩ := e1
      have hjR := hf.1
      obtain ⟨x, hx⟩ : ∃ x, x = r.getD k 0 := ⟨_, rfl⟩
      obtain ⟨y, hy⟩ : ∃ x, x = r.getD f 0 := ⟨_, rfl⟩
      rw [← hx] at d1
      rw [← hy] at d1'
      have HXY := Lib.hid (show x = r.getD k 0 ∧ y = r.getD (fst E k) 0 from ⟨hx, by rw [hy, hff]⟩)
      have z2 := (hb.cell (p := ⟨b2, o2 + k, none⟩) hb2).trans d2
      have z1 : wr.drew.cell? ⟨b1, o1 + k, none⟩ = _ := (hb.cell (p := ⟨b1, o1 + k, none⟩) hb1).trans d1
      have z3 : wr.drew.cell? ⟨b3, o3 + j, none⟩ = _ := (hb.cell (p := ⟨b3, o3 + j, none⟩) hb3).trans d3
      have z4 : wr.drew.cell? ⟨b1, o1 + f, none⟩ = _ := (hb.cell (p := ⟨b1, o1 + f, none⟩) hb1').trans d1'
      have HB := Lib.hid hb; have HLT := Lib.hid hlt
      clear d1 d2 d3 d1' hf hj hx hy hb hff hfk hb1 hb2 hb3 hb1'
      by_cases hxy : x = y
      · have t0 : (x != y) = false := by simpa using hxy
        have HQ := Lib.hid hxy
        clear hxy
        go_wp2_with fail
        go_region
        go_wp2_with fail
        refine ⟨⟨k + 1, HLT.out, by go_num, Lib.hid (fun c hc => ?_), HB.out.drew⟩, by have := HLT.out; simp [intOf]; omega⟩
        by_cases e : c = k
        · subst e; rw [← HXY.out.1, ← HXY.out.2]; exact HQ.out
        · exact HA.out c (by omega)
      · have t0 : (x != y) = true := by simpa using hxy
        have HQ := Lib.hid hxy
        clear hxy
        go_wp2_with fail
        go_region
        go_wp2_with fail
        go_ret
        exact ⟨Says.yes ⟨k, HLT.out, by rw [← HXY.out.1, ← HXY.out.2]; exact HQ.out⟩, HB.out.drew⟩
    · have hkd : k = d := by omega
      have HB := Lib.hid hb
      have HN := Lib.hid (show ¬ ApartP E r d from fun ⟨c, hc, hne⟩ => hne (HA.out c (by omega)))
      clear hb
      go_wp2_with fail
      go_ret
      exact ⟨Says.no HN.out, HB.out⟩
end Go.Proofs.YthefhkgjadfhgaaDoor.DfaW
