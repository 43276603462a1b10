/- Walks of slices.EqualFunc with the closure of stable. -/
import Derived.Test.YtfhddbjojpmbcaaNumJ
namespace Go.Proofs.Ytfhddbjojpmbcaa.DfaW
set_option linter.unusedVariables false
set_option linter.unusedSimpArgs false
open Go.RowKit Go.Maps Go.Proofs.Ytfhddbjojpmbcaa.PartM Go.Proofs.Ytfhddbjojpmbcaa.PartW
set_option maxHeartbeats 1000000 in
theorem together_any {pb B : Nat} {t : TypeId} {v : Value} {l : List Int} {k k' : Nat} (W : World) (hp : Ar W pb #[v] t) (hl : IS B W v l) (hk : k < l.length) (hk' : k' < l.length) :
    Calls Try.prog 46 #[.int .i64 k, .int .i64 k', .pointer (some ⟨pb, 0, none⟩)] W fun e w' => e = .returned (.bool (l.getD k 0 == l.getD k' 0)) ∧ Below W.heap.size W w' := by
  obtain ⟨a, c, rfl, _, hml, hc⟩ := hl.open
  obtain ⟨n, hn⟩ : ∃ n, n = l.length := ⟨_, rfl⟩
  have hc0 := hc
  obtain ⟨b, o, rfl, hb1, hc⟩ := hc k hk
  obtain ⟨b', o', he, hb2, hc'⟩ := hc0 k' hk'
  simp only [Option.some.injEq, Addr.mk.injEq, and_true] at he
  obtain ⟨rfl, rfl⟩ := he
  have d1 : W.drew.cell? ⟨pb, 0, none⟩ = some (.slice (some ⟨b, o, none⟩) l.length c) := Ar.at' hp 0
  have d3 : W.drew.cell? ⟨b, o + k, none⟩ = some (.int .i64 (l.getD k 0)) := hc
  have d4 : W.drew.cell? ⟨b, o + k', none⟩ = some (.int .i64 (l.getD k' 0)) := hc'
  rw [← hn] at d1 hk hk'
  have hki : (n : Int) ≤ 9223372036854775807 := by unfold maxLen at hml; omega
  clear hp hl hc hc' hc0 hn hml hb1 hb2
  obtain ⟨x, hx⟩ : ∃ x, x = l.getD k 0 := ⟨_, rfl⟩
  obtain ⟨y, hy⟩ : ∃ x, x = l.getD k' 0 := ⟨_, rfl⟩
  rw [← hx] at d3 ⊢
  rw [← hy] at d4 ⊢
  clear hx hy
  go_enter Try.func46, Try.ntmps46
  go_wp2_with fail
  go_region
  go_wp2_with fail
  refine bodyPost_ret (v := .bool (x == y)) (by simp [results, Try.results46, go_sem]) rfl ⟨rfl, (Below.refl _ W).drew⟩
set_option maxRecDepth 100000 in
set_option maxHeartbeats 1000000 in
theorem EqualF_any {pb : Nat} {t : TypeId} {va vb vl : Value} {l r r' : List Int} (w : World) (hp : Ar w pb #[vl] t) (hl : IS w.heap.size w vl l) (ha : IS w.heap.size w va r) (hb : IS w.heap.size w vb r') (hlen : r.length = r'.length)
    (hr : ∀ i, i < r.length → (∃ k : Nat, r.getD i 0 = k ∧ k < l.length) ∧ ∃ k : Nat, r'.getD i 0 = k ∧ k < l.length) :
    Calls Try.prog 47 #[va, vb, .func (.func 46) #[] #[.pointer (some ⟨pb, 0, none⟩)]] w fun e w' => Says e (∀ i, i < r.length → l.getD (r.getD i 0).toNat 0 = l.getD (r'.getD i 0).toNat 0) ∧ Below w.heap.size w w' := by
  obtain ⟨a1, c1, rfl, _, hm1, hc1⟩ := ha.open
  obtain ⟨a2, c2, rfl, _, hm2, hc2⟩ := hb.open
  rw [← hlen] at hc2 ⊢
  obtain ⟨n, hn⟩ : ∃ n, n = r.length := ⟨_, rfl⟩
  rw [← hn] at hr hc1 hc2 ⊢
  have hni : (n : Int) ≤ 9223372036854775807 := by unfold maxLen at hm1; omega
  have HP := Lib.hid hp; have HL := Lib.hid hl; have HC1 := Lib.hid hc1; have HC2 := Lib.hid hc2; have HRR := Lib.hid hr
  have t0 : ((n : Int) != (n : Int)) = false := by simp
  clear hp hl ha hb hlen hr hc1 hc2 hm1 hm2 hn
  go_enter Try.func47, Try.ntmps47
  go_wp2_with fail
  clear t0
  go_loopw [17] (fun i wr => ∃ k : Nat, k ≤ n ∧ i = .int .i64 k ∧ Hid (∀ i, i < k → l.getD (r.getD i 0).toNat 0 = l.getD (r'.getD i 0).toNat 0) ∧ Below w.heap.size w wr) (fun i _ => n - (intOf i).toNat)
  case atStart => exact ⟨0, Nat.zero_le _, rfl, Lib.hid fun i hi => absurd hi (Nat.not_lt_zero _), Below.refl _ _⟩
  case round =>
    obtain ⟨k, hk, rfl, HA, hb⟩ := hrel
    by_cases hlt : k < n
    · obtain ⟨⟨p, hp, hpl⟩, q, hq, hql⟩ := HRR.out k hlt
      obtain ⟨b1, o1, rfl, hb1, d1⟩ := HC1.out k hlt
      obtain ⟨b2, o2, rfl, hb2, d2⟩ := HC2.out k hlt
      rw [hp] at d1
      rw [hq] at d2
      have e1 := (hb.cell (p := ⟨b1, o1 + k, none⟩) hb1).trans d1
      have e2 := (hb.cell (p := ⟨b2, o2 + k, none⟩) hb2).trans d2
      have HC := Lib.hid (together_any wr (HP.out.below hb) (HL.out.below hb) hpl hql)
      have HPQ := Lib.hid (show (r.getD k 0).toNat = p ∧ (r'.getD k 0).toNat = q from ⟨by rw [hp]; rfl, by rw [hq]; rfl⟩)
      have HB := Lib.hid hb; have HLT := Lib.hid hlt
      clear d1 d2 hp hq hpl hql hb hb1 hb2
      go_wp2_with fail
      refine HC.out.mono ?_
      rintro e w1 ⟨rfl, hb1⟩
      have HB1 := Lib.hid (HB.out.trans (hb1.mono HB.out.size))
      clear hb1 HC e1 e2
      by_cases he : l.getD p 0 = l.getD q 0
      · have t0 : (l.getD p 0 == l.getD q 0) = true := by simpa using he
        rw [t0]
        have HE := Lib.hid (show l.getD (r.getD k 0).toNat 0 = l.getD (r'.getD k 0).toNat 0 by rw [HPQ.out.1, HPQ.out.2]; exact he)
        clear he t0
        go_wp2_with fail
        exact ⟨⟨k + 1, HLT.out, by go_num, Lib.hid (fun i hi => by
          by_cases e : i = k
          · subst e; exact HE.out
          · exact HA.out i (by omega)), HB1.out⟩, by have := HLT.out; simp [intOf]; omega⟩
      · have t0 : (l.getD p 0 == l.getD q 0) = false := by simpa using he
        rw [t0]
        have HE := Lib.hid (show ¬ l.getD (r.getD k 0).toNat 0 = l.getD (r'.getD k 0).toNat 0 by rw [HPQ.out.1, HPQ.out.2]; exact he)
        clear he t0
        go_wp2_with fail
        go_ret
        exact ⟨Says.no fun h => HE.out (h k HLT.out), HB1.out⟩
    · have hkn : k = n := by omega
      have HB := Lib.hid hb
      have HT := Lib.hid (show ∀ i, i < n → l.getD (r.getD i 0).toNat 0 = l.getD (r'.getD i 0).toNat 0 by rw [← hkn]; exact HA.out)
      clear hb
      go_wp2_with fail
      go_ret
      exact ⟨Says.yes HT.out, HB.out⟩
end Go.Proofs.Ytfhddbjojpmbcaa.DfaW
