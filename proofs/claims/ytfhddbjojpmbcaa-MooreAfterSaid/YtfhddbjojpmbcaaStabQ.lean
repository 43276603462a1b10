/- Walks of stable, Stable. -/
import Derived.Test.YtfhddbjojpmbcaaEqF
import Derived.Test.YtfhddbjojpmbcaaNormI
namespace Go.Proofs.Ytfhddbjojpmbcaa.DfaW
set_option linter.unusedVariables false
set_option linter.unusedSimpArgs false
open Go.Proofs.Ytfhddbjojpmbcaa.RegionU (Up wpU_taken wpU_one wpU_done wp_region_U)
open Go.RowKit Go.Maps Go.Proofs.Ytfhddbjojpmbcaa.PartM Go.Proofs.Ytfhddbjojpmbcaa.PartW
def StabAt (m : Mc) (l : List Int) (s : Nat) : Prop := m.lb.getD s 0 = m.lb.getD (fst (blkE l) s) 0 ∧ ∀ k : Nat, (k : Int) < m.wd → l.getD (at2 m.nx s k) 0 = l.getD (at2 m.nx (fst (blkE l) s) k) 0
theorem stab_iff {m : Mc} {l : List Int} : StableP m l ↔ Ok m ∧ l.length = m.lb.length ∧ ∀ s, s < l.length → StabAt m l s := by
  constructor
  · rintro ⟨h1, h2, h3⟩
    exact ⟨h1, h2, fun s hs => h3 s _ hs (fst_lt _ hs) (fst_blk l s).symm⟩
  · rintro ⟨h1, h2, h3⟩
    refine ⟨h1, h2, fun s t hs ht h => ?_⟩
    have e := fst_congr (blkE_eqv l) (blkE_iff.2 h)
    have h4 := h3 s hs
    have h5 := h3 t ht
    unfold StabAt at h4
    rw [e] at h4
    exact ⟨h4.1.trans h5.1.symm, fun k hk => (h4.2 k hk).trans (h5.2 k hk).symm⟩
/-- A row of a machine that may be: where it lies, what it holds. -/
theorem row_is {m : Mc} (hk : Ok m) {B : Nat} {w : World} {a : Option Addr} {n c : Nat} (h : RS B w (.slice a n c) m.nx) {s : Nat} (hs : s < m.lb.length) :
    ∃ (b o : Nat) (ar : Option Addr) (cr d : Nat), a = some ⟨b, o, none⟩ ∧ m.wd = (d : Int) ∧ d ≤ 256 ∧ (m.nx.getD s []).length = d ∧ w.cell? ⟨b, o + s, none⟩ = some (.slice ar d cr) ∧ IS B w (.slice ar d cr) (m.nx.getD s []) ∧ ∀ i, i < d → ∃ k : Nat, (m.nx.getD s []).getD i 0 = k ∧ k < m.lb.length ∧ k = at2 m.nx s i := by
  have hs' : s < m.nx.length := by rw [hk.len]; exact hs
  obtain ⟨a', cap, he, _, _, h3⟩ := h.open
  simp only [Value.slice.injEq] at he
  obtain ⟨rfl, rfl, rfl⟩ := he
  obtain ⟨b, o, vi, rfl, _, hc, hi⟩ := h3 s hs'
  obtain ⟨ar, cr, rfl, _, _, hg⟩ := hi.open
  have hr := hk.row hs
  obtain ⟨d, hd⟩ : ∃ d : Nat, m.wd = (d : Int) := ⟨_, hk.wd⟩
  have hw := hk.wd
  have hrk := rk_le (E := byKey m.of) 256
  have hrd : (m.nx.getD s []).length = d := by omega
  rw [hrd] at hc hi
  refine ⟨b, o, ar, cr, d, rfl, hd, by omega, hrd, hc, hi, fun i hi' => ?_⟩
  have h4 := hk.cell hs (c := i) (by rw [hd]; omega)
  exact ⟨at2 m.nx s i, h4.1, h4.2, rfl⟩
set_option maxRecDepth 100000 in
set_option maxHeartbeats 8000000 in
theorem stable_any {C : Array Value} {m : Mc} {v : Value} {l : List Int} (w : World) (h : IsM w.heap.size w C m) (hok : Ok m) (hv : IS w.heap.size w v l) (h6 : I64 l) :
    Calls Try.prog 31 #[.agg C, v] w fun e w' => Says e (StableP m l) ∧ Below w.heap.size w w' := by
  have hx := (Bx.new h).alloc (.cells #[v] 24)
  have hbA : Below w.heap.size w (w.alloc (.cells C 27)) := (Below.refl _ _).alloc (Nat.le_refl _) _
  have hb0 : Below w.heap.size w ((w.alloc (.cells C 27)).alloc (.cells #[v] 24)) := hbA.alloc hbA.size _
  have hq0 : Ar ((w.alloc (.cells C 27)).alloc (.cells #[v] 24)) (w.heap.size + 1) #[v] 24 := by
    have := Ar.new (w.alloc (.cells C 27)) #[v] 24
    rw [World.size_alloc] at this; exact this
  have HV := Lib.hid hv
  obtain ⟨a, cap, rfl, g1, g2, _⟩ := hv.open
  obtain ⟨a1, a2, a3, c1, c2, c3, k1, k2, k3⟩ := h.slices
  rw [hok.len] at k1
  obtain ⟨L, hL⟩ : ∃ L, L = l.length := ⟨_, rfl⟩
  have hLi : (L : Int) ≤ 9223372036854775807 := by unfold maxLen at g2; omega
  obtain ⟨n, hn⟩ : ∃ n, n = m.lb.length := ⟨_, rfl⟩
  rw [← hL] at HV hx hb0 hq0 ⊢
  rw [← hn] at k1 k2
  have hn5 := hok.lbs.2.1
  have hni : (n : Int) ≤ 65536 := by omega
  have HK := Lib.hid (show C[257]? = some (.slice a1 n c1) ∧ C[258]? = some (.slice a2 n c2) from ⟨k1, k2⟩)
  have HN := Lib.hid (show L = l.length ∧ n = m.lb.length ∧ n ≤ 65536 from ⟨hL, hn, by omega⟩)
  have HX := Lib.hid hx; have HB0 := Lib.hid hb0; have HQ0 := Lib.hid hq0; have H6 := Lib.hid h6; have HOK := Lib.hid hok
  have HP := Lib.hid (show StableP m l ↔ Ok m ∧ L = n ∧ ∀ s, s < L → StabAt m l s by rw [hL, hn]; exact stab_iff)
  have y1 : ((w.alloc (.cells C 27)).alloc (.cells #[.slice a L cap] 24)).cell? ⟨w.heap.size + 1, 0, none⟩ = some (.slice a L cap) := Ar.at' hq0 0
  have y2 := (hx.lbv k2).1
  clear h hx hbA hb0 hv g1 g2 k1 k2 k3 hL hn hq0 h6 hok hn5
  go_enter Try.func31, Try.ntmps31
  by_cases hq : L = n
  case neg =>
    have t0 : ((L : Int) != (n : Int)) = true := by simp; omega
    have HE := Lib.hid (fun x => hq (HP.out.1 x).2.1)
    clear hq
    go_wp2_with fail
    go_ret
    exact ⟨Says.no HE.out, HB0.out⟩
  subst hq
  have t0 : ((L : Int) != (L : Int)) = false := by simp
  go_wp2_with fail
  clear t0 y1 y2
  refine (normal_any _ ((HV.out.below HB0.out).up HB0.out.size) H6.out (by rw [← HN.out.1]; have := HN.out.2.2; omega)).mono ?_
  rintro e w1 ⟨u, x, rfl, ho1, ho2, hb1⟩
  have HX1 := Lib.hid (HX.out.below hb1); have HQ1 := Lib.hid (HQ0.out.below hb1)
  have HB1 := Lib.hid (HB0.out.trans (hb1.mono HB0.out.size))
  have hi1 := ho1.is; have hi2 := ho2.is
  rw [show normV l = numsTo (blkE l) L by unfold normV; rw [HN.out.1]] at hi1
  rw [← HN.out.1] at hi2
  obtain ⟨au, cu, rfl, _, _, hcu⟩ := hi1.open
  obtain ⟨ax, cx, rfl, _, _, hcx⟩ := hi2.open
  rw [numsTo_len] at hcu ⊢
  have HCU := Lib.hid hcu; have HCX := Lib.hid hcx
  obtain ⟨r, hr⟩ : ∃ r, r = (firstsI (blkE l) L).length := ⟨_, rfl⟩
  have hrl : r ≤ L := by rw [hr, firstsI_len]; exact rk_le _
  have hri : (r : Int) ≤ 65536 := by omega
  have HR := Lib.hid hr
  rw [← hr]
  clear ho1 ho2 hb1 hi1 hi2 hcu hcx HX HQ0 HB0 hr hrl
  go_wp2_with fail
  go_loopw [25] (fun i wr => ∃ k : Nat, k ≤ L ∧ i = .int .i64 k ∧ Hid (∀ s, s < k → StabAt m l s) ∧ Below w1.heap.size w1 wr) (fun i _ => L - (intOf i).toNat)
  case atStart => exact ⟨0, Nat.zero_le _, rfl, Lib.hid fun j hj => absurd hj (Nat.not_lt_zero _), Below.refl _ _⟩
  case round =>
    obtain ⟨k, hk, rfl, HA, hb⟩ := hrel
    by_cases hlt : k < L
    · obtain ⟨bu, ou, rfl, hbu, du⟩ := HCU.out k hlt
      rw [numsTo_at _ hlt] at du
      have hfa := firstsI_at (blkE_eqv l) hlt
      rw [← HR.out] at hfa
      obtain ⟨j, hj⟩ : ∃ j, j = nm (blkE l) k := ⟨_, rfl⟩
      rw [← hj] at du hfa
      obtain ⟨bx, ox, rfl, hbx, dx⟩ := HCX.out j (by rw [← HR.out]; exact hfa.1)
      rw [hfa.2] at dx
      obtain ⟨f, hf⟩ : ∃ f, f = fst (blkE l) k := ⟨_, rfl⟩
      rw [← hf] at dx
      have hfk : f ≤ k := by rw [hf]; exact fst_le _ _
      have hfL : f < L := by omega
      have hjr := hfa.1
      have e1 := (hb.cell (p := ⟨bu, ou + k, none⟩) hbu).trans du
      have e2 := (hb.cell (p := ⟨bx, ox + j, none⟩) hbx).trans dx
      have HF := Lib.hid (show f = fst (blkE l) k from hf)
      have HLT := Lib.hid hlt; have HB := Lib.hid hb; have HFL := Lib.hid hfL
      have HXR := Lib.hid (HX1.out.below hb); have HQR := Lib.hid (HQ1.out.below hb)
      clear du dx hfa hbu hbx hf hfk hb hj
      go_wp2_with fail
      clear e1 e2 hjr
      obtain ⟨z1, hRS⟩ := HXR.out.nxv HK.out.1
      obtain ⟨z2, hIS⟩ := HXR.out.lbv HK.out.2
      have hkm : k < m.lb.length := by rw [← HN.out.2.1]; exact HLT.out
      have hfm : f < m.lb.length := by rw [← HN.out.2.1]; exact HFL.out
      obtain ⟨b2, o2, rfl, _, hl1⟩ := hIS.cell (i := k) hkm
      obtain ⟨_, _, e2, _, hl2⟩ := hIS.cell (i := f) hfm
      simp only [Option.some.injEq, Addr.mk.injEq, and_true] at e2
      obtain ⟨rfl, rfl⟩ := e2
      obtain ⟨b1, o1, ar, cr, d, rfl, hd, hd6, hrl, hr1, hr2, hr3⟩ := row_is HOK.out hRS hkm
      obtain ⟨_, _, af, cf, d', e3, hd', _, hrl', hs1, hs2, hs3⟩ := row_is HOK.out hRS hfm
      simp only [Option.some.injEq, Addr.mk.injEq, and_true] at e3
      obtain ⟨rfl, rfl⟩ := e3
      obtain rfl : d' = d := by omega
      obtain ⟨p, hp⟩ : ∃ p, p = m.lb.getD k 0 := ⟨_, rfl⟩
      obtain ⟨q, hq⟩ : ∃ q, q = m.lb.getD f 0 := ⟨_, rfl⟩
      rw [← hp] at hl1
      rw [← hq] at hl2
      have HPQ := Lib.hid (show p = m.lb.getD k 0 ∧ q = m.lb.getD f 0 from ⟨hp, hq⟩)
      have HZ := Lib.hid (show wr.cell? ⟨w.heap.size, 257, none⟩ = some (.slice (some ⟨b1, o1, none⟩) L c1) ∧ wr.cell? ⟨w.heap.size, 258, none⟩ = some (.slice (some ⟨b2, o2, none⟩) L c2) ∧ wr.cell? ⟨b2, o2 + k, none⟩ = some (.int .i64 p) ∧ wr.cell? ⟨b2, o2 + f, none⟩ = some (.int .i64 q) ∧ wr.cell? ⟨b1, o1 + k, none⟩ = some (.slice ar d' cr) ∧ wr.cell? ⟨b1, o1 + f, none⟩ = some (.slice af d' cf) from ⟨z1, z2, hl1, hl2, hr1, hs1⟩)
      have HEQ := Lib.hid (fun W (hW : Below wr.heap.size wr W) => EqualF_any W (HQR.out.below hW) ((HV.out.below ((HB1.out.trans (HB.out.mono HB1.out.size)).trans (hW.mono (HB1.out.trans (HB.out.mono HB1.out.size)).size))).up ((HB1.out.trans (HB.out.mono HB1.out.size)).trans (hW.mono (HB1.out.trans (HB.out.mono HB1.out.size)).size)).size) ((hr2.below hW).up hW.size) ((hs2.below hW).up hW.size) (by rw [hrl, hrl']) (fun i hi => by
        rw [hrl] at hi
        obtain ⟨x1, h1, h2, _⟩ := hr3 i hi
        obtain ⟨x2, h3, h4, _⟩ := hs3 i hi
        rw [← HN.out.1, HN.out.2.1]
        exact ⟨⟨x1, h1, h2⟩, ⟨x2, h3, h4⟩⟩))
      have HST := Lib.hid (show (∀ i, i < (m.nx.getD k []).length → l.getD ((m.nx.getD k []).getD i 0).toNat 0 = l.getD ((m.nx.getD f []).getD i 0).toNat 0) → p = q → StabAt m l k from fun h hpq => by
        refine ⟨by rw [← HF.out, ← hp, ← hq]; exact hpq, fun i hi => ?_⟩
        rw [← HF.out]
        rw [hrl] at h
        exact h i (by omega))
      have HNS := Lib.hid (show StabAt m l k → p = q ∧ ∀ i, i < (m.nx.getD k []).length → l.getD ((m.nx.getD k []).getD i 0).toNat 0 = l.getD ((m.nx.getD f []).getD i 0).toNat 0 from fun h => by
        have h1 := h.1
        have h2 := h.2
        rw [← HF.out] at h1 h2
        refine ⟨by rw [hp, hq]; exact h1, fun i hi => ?_⟩
        rw [hrl] at hi
        exact h2 i (by omega))
      have HDR := Lib.hid (show KB wr wr.drew from (Below.refl _ _).drew)
      clear z1 z2 hRS hIS hkm hfm hl1 hl2 hd hd' hd6 hrl hrl' hr1 hr2 hr3 hs1 hs2 hs3 hp hq
      have hfL := HFL.out
      by_cases hpq : p = q
      case neg =>
        have t0 : (p != q) = true := by simpa using hpq
        have HE := Lib.hid (fun x => hpq (HNS.out ((HP.out.1 x).2.2 k HLT.out)).1)
        clear hpq
        refine wp_region_U (by kernel_rfl) (KB.up wr) HDR.out ?_
        refine wpU_taken (i := 0) rfl (by kernel_rfl) (by kernel_rfl) (by kernel_rfl) (KB.up wr) ?_
        apply Exists.intro
        refine ⟨Or.inl ⟨rfl, fun W hW => ?hy⟩, ?_⟩
        case hy =>
          go_simp
          exact RegionU.does_value rfl
        simp only [Act.put, List.setIfInBounds_toArray, List.set]
        refine wpU_taken (i := 1) rfl (by kernel_rfl) (by kernel_rfl) (by kernel_rfl) (KB.up wr) ?_
        apply Exists.intro
        refine ⟨Or.inl ⟨rfl, fun W hW => ?hy⟩, ?_⟩
        case hy =>
          have d := (Below.cell (p := ⟨w.heap.size, 258, none⟩) hW (World.block_lt_of_cell? _ _ HZ.out.2.1)).trans HZ.out.2.1
          go_simp
          exact RegionU.does_value rfl
        simp only [Act.put, List.setIfInBounds_toArray, List.set]
        refine wpU_taken (i := 2) rfl (by kernel_rfl) (by kernel_rfl) (by kernel_rfl) (KB.up wr) ?_
        apply Exists.intro
        refine ⟨Or.inl ⟨rfl, fun W hW => ?hy⟩, ?_⟩
        case hy =>
          go_simp
          exact RegionU.does_value rfl
        simp only [Act.put, List.setIfInBounds_toArray, List.set]
        refine wpU_taken (i := 3) rfl (by kernel_rfl) (by kernel_rfl) (by kernel_rfl) (KB.up wr) ?_
        apply Exists.intro
        refine ⟨Or.inl ⟨rfl, fun W hW => ?hy⟩, ?_⟩
        case hy =>
          have hlt := HLT.out
          go_simp
          exact RegionU.does_value rfl
        simp only [Act.put, List.setIfInBounds_toArray, List.set]
        refine wpU_taken (i := 4) rfl (by kernel_rfl) (by kernel_rfl) (by kernel_rfl) (KB.up wr) ?_
        apply Exists.intro
        refine ⟨Or.inl ⟨rfl, fun W hW => ?hy⟩, ?_⟩
        case hy =>
          have d := (Below.cell (p := ⟨b2, o2 + k, none⟩) hW (World.block_lt_of_cell? _ _ HZ.out.2.2.1)).trans HZ.out.2.2.1
          go_simp
          exact RegionU.does_value rfl
        simp only [Act.put, List.setIfInBounds_toArray, List.set]
        refine wpU_taken (i := 5) rfl (by kernel_rfl) (by kernel_rfl) (by kernel_rfl) (KB.up wr) ?_
        apply Exists.intro
        refine ⟨Or.inl ⟨rfl, fun W hW => ?hy⟩, ?_⟩
        case hy =>
          go_simp
          exact RegionU.does_value rfl
        simp only [Act.put, List.setIfInBounds_toArray, List.set]
        refine wpU_taken (i := 6) rfl (by kernel_rfl) (by kernel_rfl) (by kernel_rfl) (KB.up wr) ?_
        apply Exists.intro
        refine ⟨Or.inl ⟨rfl, fun W hW => ?hy⟩, ?_⟩
        case hy =>
          have d := (Below.cell (p := ⟨w.heap.size, 258, none⟩) hW (World.block_lt_of_cell? _ _ HZ.out.2.1)).trans HZ.out.2.1
          go_simp
          exact RegionU.does_value rfl
        simp only [Act.put, List.setIfInBounds_toArray, List.set]
        refine wpU_taken (i := 7) rfl (by kernel_rfl) (by kernel_rfl) (by kernel_rfl) (KB.up wr) ?_
        apply Exists.intro
        refine ⟨Or.inl ⟨rfl, fun W hW => ?hy⟩, ?_⟩
        case hy =>
          go_simp
          exact RegionU.does_value rfl
        simp only [Act.put, List.setIfInBounds_toArray, List.set]
        refine wpU_taken (i := 8) rfl (by kernel_rfl) (by kernel_rfl) (by kernel_rfl) (KB.up wr) ?_
        apply Exists.intro
        refine ⟨Or.inl ⟨rfl, fun W hW => ?hy⟩, ?_⟩
        case hy =>
          go_simp
          exact RegionU.does_value rfl
        simp only [Act.put, List.setIfInBounds_toArray, List.set]
        refine wpU_taken (i := 9) rfl (by kernel_rfl) (by kernel_rfl) (by kernel_rfl) (KB.up wr) ?_
        apply Exists.intro
        refine ⟨Or.inl ⟨rfl, fun W hW => ?hy⟩, ?_⟩
        case hy =>
          have d := (Below.cell (p := ⟨b2, o2 + f, none⟩) hW (World.block_lt_of_cell? _ _ HZ.out.2.2.2.1)).trans HZ.out.2.2.2.1
          go_simp
          exact RegionU.does_value rfl
        simp only [Act.put, List.setIfInBounds_toArray, List.set]
        refine wpU_taken (i := 10) rfl (by kernel_rfl) (by kernel_rfl) (by kernel_rfl) (KB.up wr) ?_
        apply Exists.intro
        refine ⟨Or.inl ⟨rfl, fun W hW => ?hy⟩, ?_⟩
        case hy =>
          go_simp
          exact RegionU.does_value rfl
        simp only [Act.put, List.setIfInBounds_toArray, List.set]
        refine wpU_taken (i := 11) rfl (by kernel_rfl) (by kernel_rfl) (by kernel_rfl) (KB.up wr) ?_
        apply Exists.intro
        refine ⟨Or.inl ⟨rfl, fun W hW => ?hy⟩, ?_⟩
        case hy =>
          go_simp
          exact RegionU.does_value rfl
        simp only [Act.put, List.setIfInBounds_toArray, List.set]
        refine wpU_taken (i := 12) rfl (by kernel_rfl) (by kernel_rfl) (by kernel_rfl) (KB.up wr) ?_
        apply Exists.intro
        refine ⟨Or.inr ⟨rfl, rfl⟩, ?_⟩
        simp only [Act.put, List.setIfInBounds_toArray, List.set]
        refine wpU_taken (i := 13) rfl (by kernel_rfl) (by kernel_rfl) (by kernel_rfl) (KB.up wr) ?_
        apply Exists.intro
        refine ⟨Or.inr ⟨rfl, rfl⟩, ?_⟩
        simp only [Act.put, List.setIfInBounds_toArray, List.set]
        refine wpU_taken (i := 14) rfl (by kernel_rfl) (by kernel_rfl) (by kernel_rfl) (KB.up wr) ?_
        apply Exists.intro
        refine ⟨Or.inr ⟨rfl, rfl⟩, ?_⟩
        simp only [Act.put, List.setIfInBounds_toArray, List.set]
        refine wpU_taken (i := 15) rfl (by kernel_rfl) (by kernel_rfl) (by kernel_rfl) (KB.up wr) ?_
        apply Exists.intro
        refine ⟨Or.inr ⟨rfl, rfl⟩, ?_⟩
        simp only [Act.put, List.setIfInBounds_toArray, List.set]
        refine wpU_taken (i := 16) rfl (by kernel_rfl) (by kernel_rfl) (by kernel_rfl) (KB.up wr) ?_
        apply Exists.intro
        refine ⟨Or.inr ⟨rfl, rfl⟩, ?_⟩
        simp only [Act.put, List.setIfInBounds_toArray, List.set]
        refine wpU_taken (i := 17) rfl (by kernel_rfl) (by kernel_rfl) (by kernel_rfl) (KB.up wr) ?_
        apply Exists.intro
        refine ⟨Or.inr ⟨rfl, rfl⟩, ?_⟩
        simp only [Act.put, List.setIfInBounds_toArray, List.set]
        refine wpU_taken (i := 18) rfl (by kernel_rfl) (by kernel_rfl) (by kernel_rfl) (KB.up wr) ?_
        apply Exists.intro
        refine ⟨Or.inr ⟨rfl, rfl⟩, ?_⟩
        simp only [Act.put, List.setIfInBounds_toArray, List.set]
        refine wpU_taken (i := 19) rfl (by kernel_rfl) (by kernel_rfl) (by kernel_rfl) (KB.up wr) ?_
        apply Exists.intro
        refine ⟨Or.inr ⟨rfl, rfl⟩, ?_⟩
        simp only [Act.put, List.setIfInBounds_toArray, List.set]
        refine wpU_taken (i := 20) rfl (by kernel_rfl) (by kernel_rfl) (by kernel_rfl) (KB.up wr) ?_
        apply Exists.intro
        refine ⟨Or.inr ⟨rfl, rfl⟩, ?_⟩
        simp only [Act.put, List.setIfInBounds_toArray, List.set]
        refine wpU_taken (i := 21) rfl (by kernel_rfl) (by kernel_rfl) (by kernel_rfl) (KB.up wr) ?_
        apply Exists.intro
        refine ⟨Or.inr ⟨rfl, rfl⟩, ?_⟩
        simp only [Act.put, List.setIfInBounds_toArray, List.set]
        refine wpU_taken (i := 22) rfl (by kernel_rfl) (by kernel_rfl) (by kernel_rfl) (KB.up wr) ?_
        apply Exists.intro
        refine ⟨Or.inr ⟨rfl, rfl⟩, ?_⟩
        simp only [Act.put, List.setIfInBounds_toArray, List.set]
        refine wpU_taken (i := 23) rfl (by kernel_rfl) (by kernel_rfl) (by kernel_rfl) (KB.up wr) ?_
        apply Exists.intro
        refine ⟨Or.inr ⟨rfl, rfl⟩, ?_⟩
        simp only [Act.put, List.setIfInBounds_toArray, List.set]
        refine wpU_taken (i := 24) rfl (by kernel_rfl) (by kernel_rfl) (by kernel_rfl) (KB.up wr) ?_
        apply Exists.intro
        refine ⟨Or.inr ⟨rfl, rfl⟩, ?_⟩
        simp only [Act.put, List.setIfInBounds_toArray, List.set]
        refine wpU_taken (i := 25) rfl (by kernel_rfl) (by kernel_rfl) (by kernel_rfl) (KB.up wr) ?_
        apply Exists.intro
        refine ⟨Or.inl ⟨rfl, fun W hW => ?hy⟩, ?_⟩
        case hy =>
          go_simp
          exact RegionU.does_value rfl
        simp only [Act.put, List.setIfInBounds_toArray, List.set]
        refine wpU_done (by kernel_rfl) ?_
        intro W hW
        have HW := Lib.hid (show Below wr.heap.size wr W from hW)
        clear hW
        go_wp2_with fail
        go_ret
        exact ⟨Says.no HE.out, (HB1.out.trans (HB.out.mono HB1.out.size)).trans (HW.out.mono (HB1.out.trans (HB.out.mono HB1.out.size)).size)⟩
      have t0 : (p != q) = false := by simpa using hpq
      have HPE := Lib.hid hpq
      clear hpq
      obtain ⟨g, hg⟩ : ∃ g : Bool, g = true ↔ (∀ i, i < (m.nx.getD k []).length → l.getD ((m.nx.getD k []).getD i 0).toNat 0 = l.getD ((m.nx.getD f []).getD i 0).toNat 0) := by
        by_cases h : (∀ i, i < (m.nx.getD k []).length → l.getD ((m.nx.getD k []).getD i 0).toNat 0 = l.getD ((m.nx.getD f []).getD i 0).toNat 0)
        · exact ⟨true, iff_of_true rfl h⟩
        · exact ⟨false, iff_of_false (by decide) h⟩
      have HG := Lib.hid hg
      clear hg
      refine wp_region_U (by kernel_rfl) (KB.up wr) HDR.out ?_
      refine wpU_taken (i := 0) rfl (by kernel_rfl) (by kernel_rfl) (by kernel_rfl) (KB.up wr) ?_
      apply Exists.intro
      refine ⟨Or.inl ⟨rfl, fun W hW => ?hy⟩, ?_⟩
      case hy =>
        go_simp
        exact RegionU.does_value rfl
      simp only [Act.put, List.setIfInBounds_toArray, List.set]
      refine wpU_taken (i := 1) rfl (by kernel_rfl) (by kernel_rfl) (by kernel_rfl) (KB.up wr) ?_
      apply Exists.intro
      refine ⟨Or.inl ⟨rfl, fun W hW => ?hy⟩, ?_⟩
      case hy =>
        have d := (Below.cell (p := ⟨w.heap.size, 258, none⟩) hW (World.block_lt_of_cell? _ _ HZ.out.2.1)).trans HZ.out.2.1
        go_simp
        exact RegionU.does_value rfl
      simp only [Act.put, List.setIfInBounds_toArray, List.set]
      refine wpU_taken (i := 2) rfl (by kernel_rfl) (by kernel_rfl) (by kernel_rfl) (KB.up wr) ?_
      apply Exists.intro
      refine ⟨Or.inl ⟨rfl, fun W hW => ?hy⟩, ?_⟩
      case hy =>
        go_simp
        exact RegionU.does_value rfl
      simp only [Act.put, List.setIfInBounds_toArray, List.set]
      refine wpU_taken (i := 3) rfl (by kernel_rfl) (by kernel_rfl) (by kernel_rfl) (KB.up wr) ?_
      apply Exists.intro
      refine ⟨Or.inl ⟨rfl, fun W hW => ?hy⟩, ?_⟩
      case hy =>
        have hlt := HLT.out
        go_simp
        exact RegionU.does_value rfl
      simp only [Act.put, List.setIfInBounds_toArray, List.set]
      refine wpU_taken (i := 4) rfl (by kernel_rfl) (by kernel_rfl) (by kernel_rfl) (KB.up wr) ?_
      apply Exists.intro
      refine ⟨Or.inl ⟨rfl, fun W hW => ?hy⟩, ?_⟩
      case hy =>
        have d := (Below.cell (p := ⟨b2, o2 + k, none⟩) hW (World.block_lt_of_cell? _ _ HZ.out.2.2.1)).trans HZ.out.2.2.1
        go_simp
        exact RegionU.does_value rfl
      simp only [Act.put, List.setIfInBounds_toArray, List.set]
      refine wpU_taken (i := 5) rfl (by kernel_rfl) (by kernel_rfl) (by kernel_rfl) (KB.up wr) ?_
      apply Exists.intro
      refine ⟨Or.inl ⟨rfl, fun W hW => ?hy⟩, ?_⟩
      case hy =>
        go_simp
        exact RegionU.does_value rfl
      simp only [Act.put, List.setIfInBounds_toArray, List.set]
      refine wpU_taken (i := 6) rfl (by kernel_rfl) (by kernel_rfl) (by kernel_rfl) (KB.up wr) ?_
      apply Exists.intro
      refine ⟨Or.inl ⟨rfl, fun W hW => ?hy⟩, ?_⟩
      case hy =>
        have d := (Below.cell (p := ⟨w.heap.size, 258, none⟩) hW (World.block_lt_of_cell? _ _ HZ.out.2.1)).trans HZ.out.2.1
        go_simp
        exact RegionU.does_value rfl
      simp only [Act.put, List.setIfInBounds_toArray, List.set]
      refine wpU_taken (i := 7) rfl (by kernel_rfl) (by kernel_rfl) (by kernel_rfl) (KB.up wr) ?_
      apply Exists.intro
      refine ⟨Or.inl ⟨rfl, fun W hW => ?hy⟩, ?_⟩
      case hy =>
        go_simp
        exact RegionU.does_value rfl
      simp only [Act.put, List.setIfInBounds_toArray, List.set]
      refine wpU_taken (i := 8) rfl (by kernel_rfl) (by kernel_rfl) (by kernel_rfl) (KB.up wr) ?_
      apply Exists.intro
      refine ⟨Or.inl ⟨rfl, fun W hW => ?hy⟩, ?_⟩
      case hy =>
        go_simp
        exact RegionU.does_value rfl
      simp only [Act.put, List.setIfInBounds_toArray, List.set]
      refine wpU_taken (i := 9) rfl (by kernel_rfl) (by kernel_rfl) (by kernel_rfl) (KB.up wr) ?_
      apply Exists.intro
      refine ⟨Or.inl ⟨rfl, fun W hW => ?hy⟩, ?_⟩
      case hy =>
        have d := (Below.cell (p := ⟨b2, o2 + f, none⟩) hW (World.block_lt_of_cell? _ _ HZ.out.2.2.2.1)).trans HZ.out.2.2.2.1
        go_simp
        exact RegionU.does_value rfl
      simp only [Act.put, List.setIfInBounds_toArray, List.set]
      refine wpU_taken (i := 10) rfl (by kernel_rfl) (by kernel_rfl) (by kernel_rfl) (KB.up wr) ?_
      apply Exists.intro
      refine ⟨Or.inl ⟨rfl, fun W hW => ?hy⟩, ?_⟩
      case hy =>
        go_simp
        exact RegionU.does_value rfl
      simp only [Act.put, List.setIfInBounds_toArray, List.set]
      refine wpU_taken (i := 11) rfl (by kernel_rfl) (by kernel_rfl) (by kernel_rfl) (KB.up wr) ?_
      apply Exists.intro
      refine ⟨Or.inl ⟨rfl, fun W hW => ?hy⟩, ?_⟩
      case hy =>
        go_simp
        exact RegionU.does_value rfl
      simp only [Act.put, List.setIfInBounds_toArray, List.set]
      refine wpU_taken (i := 12) rfl (by kernel_rfl) (by kernel_rfl) (by kernel_rfl) (KB.up wr) ?_
      apply Exists.intro
      refine ⟨Or.inl ⟨rfl, fun W hW => ?hy⟩, ?_⟩
      case hy =>
        go_simp
        exact RegionU.does_value rfl
      simp only [Act.put, List.setIfInBounds_toArray, List.set]
      refine wpU_taken (i := 13) rfl (by kernel_rfl) (by kernel_rfl) (by kernel_rfl) (KB.up wr) ?_
      apply Exists.intro
      refine ⟨Or.inl ⟨rfl, fun W hW => ?hy⟩, ?_⟩
      case hy =>
        have d := (Below.cell (p := ⟨w.heap.size, 257, none⟩) hW (World.block_lt_of_cell? _ _ HZ.out.1)).trans HZ.out.1
        go_simp
        exact RegionU.does_value rfl
      simp only [Act.put, List.setIfInBounds_toArray, List.set]
      refine wpU_taken (i := 14) rfl (by kernel_rfl) (by kernel_rfl) (by kernel_rfl) (KB.up wr) ?_
      apply Exists.intro
      refine ⟨Or.inl ⟨rfl, fun W hW => ?hy⟩, ?_⟩
      case hy =>
        go_simp
        exact RegionU.does_value rfl
      simp only [Act.put, List.setIfInBounds_toArray, List.set]
      refine wpU_taken (i := 15) rfl (by kernel_rfl) (by kernel_rfl) (by kernel_rfl) (KB.up wr) ?_
      apply Exists.intro
      refine ⟨Or.inl ⟨rfl, fun W hW => ?hy⟩, ?_⟩
      case hy =>
        have hlt := HLT.out
        go_simp
        exact RegionU.does_value rfl
      simp only [Act.put, List.setIfInBounds_toArray, List.set]
      refine wpU_taken (i := 16) rfl (by kernel_rfl) (by kernel_rfl) (by kernel_rfl) (KB.up wr) ?_
      apply Exists.intro
      refine ⟨Or.inl ⟨rfl, fun W hW => ?hy⟩, ?_⟩
      case hy =>
        have d := (Below.cell (p := ⟨b1, o1 + k, none⟩) hW (World.block_lt_of_cell? _ _ HZ.out.2.2.2.2.1)).trans HZ.out.2.2.2.2.1
        go_simp
        exact RegionU.does_value rfl
      simp only [Act.put, List.setIfInBounds_toArray, List.set]
      refine wpU_taken (i := 17) rfl (by kernel_rfl) (by kernel_rfl) (by kernel_rfl) (KB.up wr) ?_
      apply Exists.intro
      refine ⟨Or.inl ⟨rfl, fun W hW => ?hy⟩, ?_⟩
      case hy =>
        go_simp
        exact RegionU.does_value rfl
      simp only [Act.put, List.setIfInBounds_toArray, List.set]
      refine wpU_taken (i := 18) rfl (by kernel_rfl) (by kernel_rfl) (by kernel_rfl) (KB.up wr) ?_
      apply Exists.intro
      refine ⟨Or.inl ⟨rfl, fun W hW => ?hy⟩, ?_⟩
      case hy =>
        have d := (Below.cell (p := ⟨w.heap.size, 257, none⟩) hW (World.block_lt_of_cell? _ _ HZ.out.1)).trans HZ.out.1
        go_simp
        exact RegionU.does_value rfl
      simp only [Act.put, List.setIfInBounds_toArray, List.set]
      refine wpU_taken (i := 19) rfl (by kernel_rfl) (by kernel_rfl) (by kernel_rfl) (KB.up wr) ?_
      apply Exists.intro
      refine ⟨Or.inl ⟨rfl, fun W hW => ?hy⟩, ?_⟩
      case hy =>
        go_simp
        exact RegionU.does_value rfl
      simp only [Act.put, List.setIfInBounds_toArray, List.set]
      refine wpU_taken (i := 20) rfl (by kernel_rfl) (by kernel_rfl) (by kernel_rfl) (KB.up wr) ?_
      apply Exists.intro
      refine ⟨Or.inl ⟨rfl, fun W hW => ?hy⟩, ?_⟩
      case hy =>
        go_simp
        exact RegionU.does_value rfl
      simp only [Act.put, List.setIfInBounds_toArray, List.set]
      refine wpU_taken (i := 21) rfl (by kernel_rfl) (by kernel_rfl) (by kernel_rfl) (KB.up wr) ?_
      apply Exists.intro
      refine ⟨Or.inl ⟨rfl, fun W hW => ?hy⟩, ?_⟩
      case hy =>
        have d := (Below.cell (p := ⟨b1, o1 + f, none⟩) hW (World.block_lt_of_cell? _ _ HZ.out.2.2.2.2.2)).trans HZ.out.2.2.2.2.2
        go_simp
        exact RegionU.does_value rfl
      simp only [Act.put, List.setIfInBounds_toArray, List.set]
      refine wpU_taken (i := 22) rfl (by kernel_rfl) (by kernel_rfl) (by kernel_rfl) (KB.up wr) ?_
      apply Exists.intro
      refine ⟨Or.inl ⟨rfl, fun W hW => ?hy⟩, ?_⟩
      case hy =>
        go_simp
        exact RegionU.does_value rfl
      simp only [Act.put, List.setIfInBounds_toArray, List.set]
      refine wpU_taken (i := 23) rfl (by kernel_rfl) (by kernel_rfl) (by kernel_rfl) (KB.up wr) ?_
      apply Exists.intro
      refine ⟨Or.inl ⟨rfl, fun W hW => ?hy⟩, ?_⟩
      case hy =>
        go_simp
        exact RegionU.does_call ((HEQ.out W hW).mono fun e w' ⟨h, hb⟩ => ⟨h.bool HG.out, hb⟩)
      simp only [Act.put, List.setIfInBounds_toArray, List.set]
      refine wpU_taken (i := 24) rfl (by kernel_rfl) (by kernel_rfl) (by kernel_rfl) (KB.up wr) ?_
      apply Exists.intro
      refine ⟨Or.inl ⟨rfl, fun W hW => ?hy⟩, ?_⟩
      case hy =>
        go_simp
        exact RegionU.does_value rfl
      simp only [Act.put, List.setIfInBounds_toArray, List.set]
      refine wpU_taken (i := 25) rfl (by kernel_rfl) (by kernel_rfl) (by kernel_rfl) (KB.up wr) ?_
      apply Exists.intro
      refine ⟨Or.inl ⟨rfl, fun W hW => ?hy⟩, ?_⟩
      case hy =>
        go_simp
        exact RegionU.does_value rfl
      simp only [Act.put, List.setIfInBounds_toArray, List.set]
      refine wpU_done (by kernel_rfl) ?_
      intro W hW
      have HW := Lib.hid (show Below wr.heap.size wr W from hW)
      clear hW
      cases g with
      | false =>
        have HE := Lib.hid (show ¬ StableP m l from fun x => by have := HG.out.2 (HNS.out ((HP.out.1 x).2.2 k HLT.out)).2; cases this)
        go_wp2_with fail
        go_ret
        exact ⟨Says.no HE.out, (HB1.out.trans (HB.out.mono HB1.out.size)).trans (HW.out.mono (HB1.out.trans (HB.out.mono HB1.out.size)).size)⟩
      | true =>
        have HE := Lib.hid (HST.out (HG.out.1 rfl) HPE.out)
        go_wp2_with fail
        refine ⟨⟨k + 1, HLT.out, by go_num, Lib.hid fun s hs => ?_, HB.out.trans (HW.out.mono HB.out.size)⟩, by have := HLT.out; simp [intOf]; omega⟩
        by_cases e : s = k
        · subst e; exact HE.out
        · exact HA.out s (by omega)
    · have hkn : k = L := by omega
      have HB := Lib.hid hb
      have HT := Lib.hid (HP.out.2 ⟨HOK.out, trivial, by rw [← hkn]; exact HA.out⟩)
      clear hb
      go_wp2_with fail
      go_ret
      exact ⟨Says.yes HT.out, HB1.out.trans (HB.out.mono HB1.out.size)⟩
set_option maxRecDepth 100000 in
set_option maxHeartbeats 2000000 in
theorem quoStable_any : StableC 18 := fun {C m v l} w h hv h6 => by
  have HX := Lib.hid (Bx.new h)
  have HB0 := Lib.hid (show Below w.heap.size w (w.alloc (.cells C 27)) from (Below.refl _ _).alloc (Nat.le_refl _) _)
  obtain ⟨a, cap, rfl, _, _, _⟩ := hv.open
  have HV := Lib.hid hv; have H6 := Lib.hid h6
  clear h hv h6
  go_enter Try.func18, Try.ntmps18
  go_wp2_with (refine wpList_load_dfa rfl (.tmp 2) rfl rfl HX.out ?_)
  refine (RightD_any _ HX.out.is).mono ?_
  rintro e w1 ⟨hs, hb1⟩
  have HX1 := Lib.hid (HX.out.below hb1)
  have HB1 := Lib.hid (HB0.out.trans (hb1.mono HB0.out.size))
  clear hb1 HX HB0
  rcases hs.elim with ⟨rfl, hk⟩ | ⟨rfl, hk⟩
  case inr =>
    have HE := Lib.hid (fun (x : StableP m l) => hk x.1)
    clear hs hk
    go_wp2_with fail
    go_ret
    exact ⟨Says.no HE.out, HB1.out⟩
  have HOK := Lib.hid hk
  clear hs hk
  go_wp2_with (refine wpList_load_dfa_g rfl (.tmp 2) rfl rfl HX1.out ?_)
  refine (stable_any _ HX1.out.is HOK.out ((HV.out.below HB1.out).up HB1.out.size) H6.out).mono ?_
  rintro e w2 ⟨hs, hb2⟩
  have HB2 := Lib.hid (HB1.out.trans (hb2.mono HB1.out.size))
  clear hb2
  obtain ⟨f, rfl, hf⟩ := hs
  have HS := Lib.hid hf
  clear hf
  go_wp2_with fail
  go_ret
  exact ⟨⟨f, rfl, HS.out⟩, HB2.out⟩
end Go.Proofs.Ytfhddbjojpmbcaa.DfaW
