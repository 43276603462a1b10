/- Walks of the document's alike, merged: which classes of a machine are not told apart. -/
import Derived.Test.YthefhkgjadfhgaaDoorMade2
import Derived.Test.YthefhkgjadfhgaaDoorRightF
import Derived.Test.YthefhkgjadfhgaaDoorSameL
namespace Go.Proofs.YthefhkgjadfhgaaDoor.DfaW
set_option linter.unusedVariables false
set_option linter.unusedSimpArgs false
open Go.RowKit Go.Maps Go.Proofs.YthefhkgjadfhgaaDoor.PartM Go.Proofs.YthefhkgjadfhgaaDoor.PartW
theorem Dr.cell {w W : World} (h : Dr w W) (p : Addr) : W.cell? p = w.cell? p := by obtain ⟨q, rfl⟩ := h; rfl
/-- Classes behind which the same state is, behind each state. -/
def ckE (m : Mc) : Nat → Nat → Bool := byKey fun c => m.nx.map fun r => r.getD c 0
theorem ckE_eqv (m : Mc) : Eqv (ckE m) := byKey_eqv _
theorem ckE_iff {m : Mc} (h : Ok m) {a b : Nat} (ha : (a : Int) < m.wd) (hb : (b : Int) < m.wd) : ckE m a b = true ↔ ∀ s, s < m.lb.length → at2 m.nx s a = at2 m.nx s b := by
  have e : ckE m a b = true ↔ (m.nx.map fun r => r.getD a 0) = m.nx.map fun r => r.getD b 0 := by simp [ckE, byKey]
  rw [e, List.map_inj_left]
  constructor
  · intro g s hs
    have h1 := (h.cell hs ha).1; have h2 := (h.cell hs hb).1
    have hs' : s < m.nx.length := by rw [h.len]; exact hs
    have := g (m.nx.getD s []) (by rw [List.getD_eq_getElem?_getD, List.getElem?_eq_getElem hs']; exact List.getElem_mem _)
    rw [h1, h2] at this
    omega
  · intro g r hr
    obtain ⟨s, hs, rfl⟩ := List.mem_iff_getElem.1 hr
    have hs' : s < m.lb.length := by rw [← h.len]; exact hs
    have h1 := (h.cell hs' ha).1; have h2 := (h.cell hs' hb).1
    rw [show m.nx.getD s [] = m.nx[s] by rw [List.getD_eq_getElem?_getD, List.getElem?_eq_getElem hs]; rfl] at h1 h2
    rw [h1, h2, g s hs']
set_option maxRecDepth 100000 in
set_option maxHeartbeats 4000000 in
theorem alike_any {C : Array Value} {m : Mc} (w : World) (h : IsM w.heap.size w C m) (hok : Ok m) {a b : Nat} (ha : (a : Int) < m.wd) (hb : (b : Int) < m.wd) :
    Calls Tryd.prog 46 #[.agg C, .int .i64 a, .int .i64 b] w fun e w' => Says e (ckE m a b = true) ∧ Below w.heap.size w w' := by
  have hx := Bx.new h
  obtain ⟨a1, a2, a3, c1, c2, c3, k1, k2, k3⟩ := h.slices
  obtain ⟨z1, hRS⟩ := hx.nxv k1
  have HB0 := Lib.hid (show Below w.heap.size w (w.alloc (.cells C 27)) from (Below.refl _ _).alloc (Nat.le_refl _) _)
  have HP := Lib.hid (ckE_iff hok ha hb)
  have HRS := Lib.hid hRS
  obtain ⟨n, hn⟩ : ∃ n, n = m.nx.length := ⟨_, rfl⟩
  have hn5 : (n : Int) ≤ 65536 := by have := hok.lbs.2.1; rw [hn, hok.len]; omega
  have HN := Lib.hid (show n = m.lb.length by rw [hn, hok.len])
  rw [← hn] at z1 HRS
  have HZ := Lib.hid z1
  have HOK := Lib.hid hok
  obtain ⟨d, hd⟩ : ∃ d : Nat, m.wd = (d : Int) := ⟨_, hok.wd⟩
  have hd6 : (d : Int) ≤ 256 := by have := rk_le (E := byKey m.of) 256; have := hok.wd; omega
  have HD := Lib.hid hd
  have HAB := Lib.hid (show a < d ∧ b < d by omega)
  clear h hx k1 k2 k3 z1 hRS hn hok hd ha hb
  go_enter Tryd.func46, Tryd.ntmps46
  go_wp2_with fail
  generalize w.alloc (.cells C 27) = w1 at *
  go_loopw [7] (fun i wr => ∃ k : Nat, k ≤ n ∧ i = .int .i64 k ∧ Hid (∀ s, s < k → at2 m.nx s a = at2 m.nx s b) ∧ Dr w1 wr) (fun i _ => n - (intOf i).toNat)
  case atStart => exact ⟨0, Nat.zero_le _, rfl, Lib.hid fun j hj => absurd hj (Nat.not_lt_zero _), Dr.refl _⟩
  case round =>
    obtain ⟨s, hs, rfl, HA, hdr⟩ := hrel
    have d0 := (hdr.cell ⟨w.heap.size, 257, none⟩).trans HZ.out
    have HDR := Lib.hid hdr
    by_cases hlt : s < n
    · have hsm : s < m.lb.length := by rw [← HN.out]; exact hlt
      have hab := HAB.out
      obtain ⟨b1, o1, bs, os, cs, rfl, hr1, hr2⟩ := rows_form HOK.out HRS.out hsm
      have hrl := HOK.out.row hsm
      rw [show (m.nx.getD s []).length = d by rw [HD.out] at hrl; omega] at hr1
      have g1 := hr2 a (by rw [HD.out]; omega)
      have g2 := hr2 b (by rw [HD.out]; omega)
      obtain ⟨p, hp⟩ : ∃ p, p = at2 m.nx s a := ⟨_, rfl⟩
      obtain ⟨q, hq⟩ : ∃ q, q = at2 m.nx s b := ⟨_, rfl⟩
      rw [← hp] at g1
      rw [← hq] at g2
      have HPQ := Lib.hid (show p = at2 m.nx s a ∧ q = at2 m.nx s b ∧ s < m.lb.length from ⟨hp, hq, hsm⟩)
      have hdd := hdr.drew
      have y0 := (hdd.cell ⟨w.heap.size, 257, none⟩).trans HZ.out
      have y1 := (hdd.cell ⟨b1, o1 + s, none⟩).trans hr1
      have y2 := (hdd.cell ⟨bs, os + a, none⟩).trans g1
      have y3 := (hdd.cell ⟨bs, os + b, none⟩).trans g2
      have HDD := Lib.hid hdd
      have HLT := Lib.hid hlt
      clear hr1 hr2 hrl g1 g2 hp hq hsm hdd hdr
      by_cases hpq : p = q
      case neg =>
        have t0 : ((p : Int) != (q : Int)) = true := by simp; omega
        have HE := Lib.hid (fun x : ckE m a b = true => hpq (by rw [HPQ.out.1, HPQ.out.2.1]; exact HP.out.1 x s HPQ.out.2.2))
        clear hpq
        go_wp2_with fail
        go_region
        clear y0 y1 y2 y3
        go_wp2_with fail
        go_ret
        exact ⟨Says.no HE.out, HB0.out.trans HDD.out.below⟩
      have t0 : ((p : Int) != (q : Int)) = false := by simp; omega
      have HE := Lib.hid (show at2 m.nx s a = at2 m.nx s b by rw [← HPQ.out.1, ← HPQ.out.2.1]; exact hpq)
      clear hpq
      go_wp2_with fail
      go_region
      clear y0 y1 y2 y3
      go_wp2_with fail
      refine ⟨⟨s + 1, HLT.out, by go_num, Lib.hid fun j hj => ?_, HDD.out⟩, by have := HLT.out; simp [intOf]; omega⟩
      by_cases e : j = s
      · subst e; exact HE.out
      · exact HA.out j (by omega)
    · have hsn : s = n := by omega
      have HE := Lib.hid (HP.out.2 fun j hj => HA.out j (by rw [hsn, HN.out]; exact hj))
      clear hsn hdr
      go_wp2_with fail
      go_ret
      exact ⟨Says.yes HE.out, HB0.out.trans HDR.out.below⟩
end Go.Proofs.YthefhkgjadfhgaaDoor.DfaW
