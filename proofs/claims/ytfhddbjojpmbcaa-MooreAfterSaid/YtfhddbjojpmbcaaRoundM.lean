/- Walk of round: what each class says of the states is joined to the blocks. -/
import Derived.Test.YtfhddbjojpmbcaaJoinR
namespace Go.Proofs.Ytfhddbjojpmbcaa.DfaW
set_option linter.unusedVariables false
set_option linter.unusedSimpArgs false
open Go.RowKit Go.Maps Go.Proofs.Ytfhddbjojpmbcaa.PartM Go.Proofs.Ytfhddbjojpmbcaa.PartW
theorem cloneI_any {B : Nat} {a : Option Addr} {n c : Nat} {l : List Int} (w : World) (h : IS B w (.slice a n c) l) (hl : l.length ≤ 65536) : Calls Try.prog 53 #[.slice a n c] w fun e w' => ∃ v', e = .returned v' ∧ OI w' w.heap.size v' l ∧ Below w.heap.size w w' := by
  obtain ⟨a', cap, he, h1, h2, h3⟩ := h.open
  simp only [Value.slice.injEq] at he
  obtain ⟨rfl, rfl, rfl⟩ := he
  rcases Nat.eq_zero_or_pos l.length with h0 | h0
  · obtain rfl := List.length_eq_zero_iff.1 h0
    cases a with
    | none => exact (Try.slices_Clone_int_nil 0 c w).mono fun e w' ⟨h, hw⟩ => ⟨_, h, OI.nil _ _, by rw [hw]; exact Below.refl _ _⟩
    | some ad => exact (Try.slices_Clone_int_zero ad c w).mono fun e w' ⟨v', h, ho, _, hb⟩ => ⟨v', h, ho, hb⟩
  · obtain ⟨b, o, rfl, hb, hc⟩ := IS.cells (cap := c) h3 h0
    refine (Try.slices_Clone_int b o l.length c l w (Nat.le_refl _) (by omega) (fun j hj => by rw [hc j hj])).mono fun e w' ⟨v', h, ho, _, hb⟩ => ⟨v', h, ?_, hb⟩
    rw [List.take_length] at ho
    exact ho
theorem OI.form {w : World} {B : Nat} {v : Value} {l : List Int} (h : OI w B v l) (h0 : 0 < l.length) : ∃ g c, v = .slice (some ⟨g, 0, none⟩) l.length c ∧ B ≤ g := by
  obtain ⟨_, h2⟩ := h
  rcases h2 with ⟨_, h3⟩ | ⟨g, cap, cur, h3, h4, _⟩
  · omega
  · exact ⟨g, cap, h3, h4⟩
set_option maxRecDepth 100000 in
set_option maxHeartbeats 4000000 in
theorem round_any {w : World} {C : Array Value} {m : Mc} {E : Nat → Nat → Bool} {v : Value} (hM : IsM w.heap.size w C m) (hok : Ok m) (hE : Eqv E) (hv : IS w.heap.size w v (numsTo E m.lb.length)) :
    Calls Try.prog 39 #[.agg C, v] w fun e w' => ∃ v', e = .returned v' ∧ OI w' w.heap.size v' (numsTo (rndE E (at2 m.nx) m.wd.toNat) m.lb.length) ∧ Below w.heap.size w w' := by
  have hx := (Bx.new hM).alloc (.cells #[v] 24)
  have hbA : Below w.heap.size w (w.alloc (.cells C 27)) := (Below.refl _ _).alloc (Nat.le_refl _) _
  have hb0 : Below w.heap.size w ((w.alloc (.cells C 27)).alloc (.cells #[v] 24)) := hbA.alloc hbA.size _
  have hq0 : Ar ((w.alloc (.cells C 27)).alloc (.cells #[v] 24)) (w.heap.size + 1) #[v] 24 := by
    have := Ar.new (w.alloc (.cells C 27)) #[v] 24
    rw [World.size_alloc] at this; exact this
  have hv0 := hv.below hb0
  obtain ⟨a, cap, rfl, g1, g2, _⟩ := hv.open
  have hn5 := hok.lbs.2.1
  have hn0 := hok.zero
  obtain ⟨d, hd⟩ : ∃ d : Nat, m.wd = (d : Int) := ⟨_, hok.wd⟩
  have hd2 : d ≤ 256 := by have := hok.wd; have := rk_le (E := byKey m.of) 256; omega
  have HV := Lib.hid hv0; have HX := Lib.hid hx; have HQ := Lib.hid hq0; have HB0 := Lib.hid hb0; have HOK := Lib.hid hok; have HE := Lib.hid hE
  have hfin : numsTo (rndE E (at2 m.nx) m.wd.toNat) m.lb.length = numsTo (rndE E (at2 m.nx) d) m.lb.length := by rw [hd]; rfl
  have HFIN := Lib.hid hfin
  obtain ⟨n, hn⟩ : ∃ n, n = m.lb.length := ⟨_, rfl⟩
  have HN := Lib.hid (show n = m.lb.length ∧ 0 < n ∧ n ≤ 65536 from ⟨hn, by omega, by omega⟩)
  have HD := Lib.hid hd
  simp only [numsTo_len] at HV HX HQ HB0 ⊢
  simp only [← hn] at HV HX HQ HB0 HFIN ⊢
  rw [HFIN.out]
  have y1 : ((w.alloc (.cells C 27)).alloc (.cells #[.slice a n cap] 24)).cell? ⟨w.heap.size + 1, 0, none⟩ = some (.slice a n cap) := Ar.at' HQ.out 0
  have hs2 : ((w.alloc (.cells C 27)).alloc (.cells #[.slice a n cap] 24)).heap.size = w.heap.size + 2 := by simp
  have HS2 := Lib.hid hs2
  clear hM hok hE hv hx hbA hb0 hq0 hv0 g1 g2 hn5 hn0 hd hfin hn hs2
  go_enter Try.func39, Try.ntmps39
  go_wp2_with fail
  have HV2 := Lib.hid (HV.out.up HB0.out.size)
  refine (cloneI_any _ HV2.out (by rw [numsTo_len]; exact HN.out.2.2)).mono ?_
  rintro e w3 ⟨v', rfl, ho, hb3⟩
  obtain ⟨g, c', rfl, hg⟩ := ho.form (by rw [numsTo_len]; exact HN.out.2.1)
  rw [numsTo_len] at ho ⊢
  have HX3 := Lib.hid (HX.out.below hb3)
  have z1 := HX3.out.wd
  rw [HD.out] at z1
  have HO3 := Lib.hid ho; have HB3 := Lib.hid hb3; have HG := Lib.hid hg
  clear ho hb3 hg y1
  generalize (w.alloc (.cells C 27)).alloc (.cells #[.slice a n cap] 24) = w2 at *
  go_wp2_with fail
  have hdi : (d : Int) ≤ 256 := by omega
  clear z1
  go_loopw [11] (fun i wr => ∃ k : Nat, k ≤ d ∧ i = .int .i64 k ∧ OI wr w2.heap.size (.slice (some ⟨g, 0, none⟩) n c') (numsTo (rndE E (at2 m.nx) k) n) ∧ Below w2.heap.size w2 wr) (fun i _ => d - (intOf i).toNat)
  case atStart => exact ⟨0, Nat.zero_le _, rfl, HO3.out, HB3.out⟩
  case round =>
    obtain ⟨k, hk, rfl, hO, hB⟩ := hrel
    by_cases hlt : k < d
    · have HLT := Lib.hid hlt
      have hO4 : OI (wr.alloc (.cells #[.int .i64 k] 3)) w2.heap.size (.slice (some ⟨g, 0, none⟩) n c') (numsTo (rndE E (at2 m.nx) k) n) := hO.below ((Below.refl _ _).alloc (Nat.le_refl _) _)
      have hB4 : Below w2.heap.size w2 (wr.alloc (.cells #[.int .i64 k] 3)) := hB.alloc hB.size _
      have hP3 := Ar.new wr #[.int .i64 k] 3
      have hgl := (hO.cellAt (j := 0) (by rw [numsTo_len]; exact HN.out.2.1)).2.2.1
      have HJ := Lib.hid (join_any (f := fun s => (nm E (at2 m.nx s k) : Nat)) ⟨w.heap.size + 1, 0, none⟩ ⟨w.heap.size, 0, none⟩ ⟨wr.heap.size, 0, none⟩ (rndE_eqv HE.out _ k) HN.out.2.1 (by have := HN.out.2.2; omega)
        (fun i hi => by
          have h1 := HOK.out.cell (s := i) (c := k) (by have := HN.out.1; omega) (by rw [HD.out]; omega)
          have h2 := nm_le (E := E) (at2 m.nx i k)
          have := HN.out
          exact wf_i64 (by omega) (by omega)) hO4
        (fun W hgr i hi => by
          have hbW : Below w2.heap.size w2 W := ⟨hgr.os.trans hB4.os, hgr.tape.trans hB4.tape, hgr.output.trans hB4.output, by have := hB4.size; have := hgr.size; omega, fun j hj => (hgr.block j (by have := hB4.size; omega) (by intro e; cases e; have := HG.out; omega)).trans (hB4.block j hj)⟩
          have h1 := HOK.out.cell (s := i) (c := k) (by have := HN.out.1; omega) (by rw [HD.out]; omega)
          have hc := says_any (s := i) (c := k) W (HQ.out.below hbW) (HV2.out.below hbW) (HX.out.below hbW) (ar_keep hP3 (hgr.block wr.heap.size (by simp) (by intro e; cases e; omega))) HOK.out (by have := HN.out.1; omega) (by rw [HD.out]; omega) (by rw [numsTo_len]; exact HN.out.1)
          rw [numsTo_at _ (by have := HN.out.1; omega)] at hc
          exact hc))
      have HB4 := Lib.hid hB4; have HGL := Lib.hid hgl
      clear hO hB hO4 hB4 hP3 hgl
      go_wp2_with fail
      refine HJ.out.mono ?_
      rintro e w5 ⟨⟨_, rfl⟩, hO5, hg5⟩
      have hB5 : Below w2.heap.size w2 w5 := ⟨hg5.os.trans HB4.out.os, hg5.tape.trans HB4.out.tape, hg5.output.trans HB4.out.output, by have := HB4.out.size; have := hg5.size; omega, fun j hj => (hg5.block j (by have := HB4.out.size; omega) (by intro e; cases e; have := HG.out; omega)).trans (HB4.out.block j hj)⟩
      have HO5 := Lib.hid hO5; have HB5 := Lib.hid hB5
      clear hO5 hg5 hB5
      go_wp2_with fail
      exact ⟨⟨k + 1, by have := HLT.out; omega, by go_num, HO5.out, HB5.out⟩, by have := HLT.out; simp [intOf]; omega⟩
    · obtain rfl : k = d := by omega
      have HO := Lib.hid hO; have HB := Lib.hid hB
      clear hO hB
      go_wp2_with fail
      go_ret
      exact ⟨_, rfl, owns_base HO.out HB0.out.size, HB0.out.trans (HB.out.mono HB0.out.size)⟩
end Go.Proofs.Ytfhddbjojpmbcaa.DfaW
