/- Walk of round's function: what a class says of a state. -/
import Derived.Test.YtfhddbjojpmbcaaJoinM
import Derived.Test.YtfhddbjojpmbcaaStabQ
namespace Go.Proofs.Ytfhddbjojpmbcaa.DfaW
set_option linter.unusedVariables false
set_option linter.unusedSimpArgs false
open Go.RowKit Go.Maps Go.Proofs.Ytfhddbjojpmbcaa.PartM Go.Proofs.Ytfhddbjojpmbcaa.PartW
set_option maxHeartbeats 1000000 in
theorem says_any {p1 p2 p3 B s c : Nat} {t t3 : TypeId} {v : Value} {l : List Int} {C : Array Value} {m : Mc} (W : World) (h1 : Ar W p1 #[v] t) (hl : IS B W v l) (hx : Bx W p2 C m) (h3 : Ar W p3 #[.int .i64 c] t3)
    (hok : Ok m) (hs : s < m.lb.length) (hc : (c : Int) < m.wd) (hlen : l.length = m.lb.length) :
    Calls Try.prog 55 #[.int .i64 s, .pointer (some ⟨p1, 0, none⟩), .pointer (some ⟨p2, 0, none⟩), .pointer (some ⟨p3, 0, none⟩)] W fun e W' => e = .returned (.int .i64 (l.getD (at2 m.nx s c) 0)) ∧ W.drew = W' := by
  obtain ⟨a', cl, rfl, _, hml, hcl⟩ := hl.open
  obtain ⟨v1, k1, hr⟩ := hx.nx
  obtain ⟨a1, c1, rfl, _, _, _⟩ := hr.open
  rw [hok.len] at k1 hr
  obtain ⟨b, o, ar, cr, d, rfl, hd, hd2, hrd, y1, hri, hq⟩ := row_is hok hr hs
  have hcd : c < d := by omega
  obtain ⟨q, hq1, hq2, hq3⟩ := hq c hcd
  obtain ⟨ar', cr', he, _, _, hcr⟩ := hri.open
  rw [hrd] at he
  simp only [Value.slice.injEq, true_and] at he
  obtain ⟨rfl, rfl⟩ := he
  obtain ⟨b2, o2, rfl, _, y2⟩ := hcr c (by omega)
  obtain ⟨b3, o3, rfl, _, y3⟩ := hcl q (by omega)
  rw [hq1] at y2
  have y0 := Ar.at' h1 0
  have y4 := Ar.at' h3 0
  simp only [List.getElem?_toArray, List.getElem?_cons_zero] at y0 y4
  rw [hlen] at y0
  rw [← hq3]
  have hn5 := hok.lbs.2.1
  obtain ⟨n, hn⟩ : ∃ n, n = m.lb.length := ⟨_, rfl⟩
  obtain ⟨z, hz⟩ : ∃ z, z = l.getD q 0 := ⟨_, rfl⟩
  rw [← hn] at y0 k1 hs hq2 hn5
  rw [← hz] at y3 ⊢
  have x0 : W.drew.cell? ⟨p1, 0, none⟩ = some (.slice (some ⟨b3, o3, none⟩) n cl) := y0
  have x1 : W.drew.cell? ⟨p2, 257, none⟩ = some (.slice (some ⟨b, o, none⟩) n c1) := k1
  have x2 : W.drew.cell? ⟨b, o + s, none⟩ = some (.slice (some ⟨b2, o2, none⟩) d cr) := y1
  have x3 : W.drew.cell? ⟨b2, o2 + c, none⟩ = some (.int .i64 (q : Int)) := y2
  have x4 : W.drew.cell? ⟨p3, 0, none⟩ = some (.int .i64 (c : Int)) := y4
  have x5 : W.drew.cell? ⟨b3, o3 + q, none⟩ = some (.int .i64 z) := y3
  have hni : (n : Int) ≤ 65536 := by omega
  have hdi : (d : Int) ≤ 256 := by omega
  clear h1 hl hx h3 hok hc hlen hcl hr hri hq hcr hml hd hrd hq1 hq3 hn hz y0 y1 y2 y3 y4 k1 hn5
  go_enter Try.func55, Try.ntmps55
  go_wp2_with fail
  go_region
  go_wp2_with fail
  go_ret
  exact ⟨rfl, rfl⟩
end Go.Proofs.Ytfhddbjojpmbcaa.DfaW
