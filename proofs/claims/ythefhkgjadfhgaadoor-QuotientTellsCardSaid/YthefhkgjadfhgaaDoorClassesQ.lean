/- Walks of columns, Classes. -/
import Derived.Test.YthefhkgjadfhgaaDoorColumns
import Derived.Test.YthefhkgjadfhgaaDoorQuoC
namespace Go.Proofs.YthefhkgjadfhgaaDoor.DfaW
set_option linter.unusedVariables false
set_option linter.unusedSimpArgs false
open Go.RowKit Go.Maps Go.Proofs.YthefhkgjadfhgaaDoor.PartM Go.Proofs.YthefhkgjadfhgaaDoor.PartW
/-- What the loop knows: the box of the numbers, the first ones. -/
def CoL (w W1 : World) (b3 : Nat) (m : Mc) (d n : Nat) (u i : Value) (wr : World) : Prop :=
  ∃ (k : Nat) (vn : Value), k ≤ n ∧ i = .int .i64 k ∧ Ar wr b3 #[vn] 24 ∧ OI wr w.heap.size vn (numsTo (rowsE m k) d) ∧ OI wr w.heap.size u (firstsI (rowsE m k) d) ∧ Below b3 W1 wr
theorem one_nums {E : Nat → Nat → Bool} (hE : Eqv E) (h : ∀ a b, E a b = true) (d : Nat) : (List.range d).map (fun i => (nm E i : Int)) = (List.range d).map fun _ => (0 : Int) := List.map_congr_left fun i _ => by rw [one_nm hE h i]; rfl
theorem oi_set {w : World} {b bk i : Nat} {v y D : Value} {l : List Int} (ho : OI w b v l) (hb : Ar w bk #[D] 24) : OI (w.setCell ⟨bk, i, none⟩ y) b v l :=
  own_keep ho fun g h => Below.heap_setCell _ ⟨bk, i, none⟩ _ g (own_apart ho hb (by decide) h)
set_option maxRecDepth 100000 in
set_option maxHeartbeats 4000000 in
theorem columns_any {C : Array Value} {m : Mc} {d : Nat} (w : World) (h : IsM w.heap.size w C m) (hok : Ok m) (hd : m.wd = (d : Int)) :
    Calls Tryd.prog 19 #[.agg C] w fun e w' => ∃ v', e = .returned v' ∧ OI w' w.heap.size v' (numsTo (rowsE m m.nx.length) d) ∧ Below w.heap.size w w' := by
  have hd6 : d ≤ 256 := by have := hok.wd; have := rk_le (E := byKey m.of) 256; omega
  have hd0 : 0 < d := by have := hok.cls' (b := 0) (by decide); omega
  have hdi : (d : Int) ≤ 256 := by omega
  obtain ⟨a1, a2, a3, c1, c2, c3, k1, k2, k3⟩ := h.slices
  obtain ⟨n, hn⟩ : ∃ n, n = m.nx.length := ⟨_, rfl⟩
  have hn6 : n ≤ 65536 := by rw [hn, hok.len]; exact by have := hok.lbs.2.1; omega
  have hni : (n : Int) ≤ 65536 := by omega
  rw [← hn] at k1 ⊢
  have hmk := fun w => makeI (show d ≤ 1048576 by omega) w
  have hxw := Bx.new h
  have hwd := hxw.wd
  have HWD := Lib.hid hd
  rw [hd] at hwd
  have HK := Lib.hid (show C[257]? = some (.slice a1 n c1) from k1)
  -- the world behind the head
  have hxA := hxw.alloc (.cells (madeCells #[.int .i64 0] d) 3)
  have hxB := hxA.alloc (.cells #[.int .i64 0] 3)
  have hx := hxB.alloc (.cells #[.slice (some ⟨w.heap.size + 1, 0, none⟩) d d] 24)
  have hb1 : Below w.heap.size w (w.alloc (.cells C 27)) := (Below.refl _ _).alloc (Nat.le_refl _) _
  have hb2 := hb1.alloc (by simp) (.cells (madeCells #[.int .i64 0] d) 3)
  have hb3 := hb2.alloc (by simp; omega) (.cells #[.int .i64 0] 3)
  have hb0 := hb3.alloc (by simp; omega) (.cells #[.slice (some ⟨w.heap.size + 1, 0, none⟩) d d] 24)
  have hA1 : Ar ((w.alloc (.cells C 27)).alloc (.cells (madeCells #[.int .i64 0] d) 3)) (w.heap.size + 1) (fillN (fun i => (nm (rowsE m 0) i : Nat)) d d).toArray 3 := by
    have := Ar.new (w.alloc (.cells C 27)) (madeCells #[.int .i64 0] d) 3
    rw [World.size_alloc] at this
    have e : fillN (fun i => (nm (rowsE m 0) i : Nat)) d d = fillN (fun _ => 0) 0 d := by
      unfold fillN
      refine List.map_congr_left fun i hi => ?_
      show Value.int .i64 (if i < d then ((nm (rowsE m 0) i : Nat) : Int) else 0) = _
      rw [one_nm (rowsE_eqv m 0) (rowsE_zero m) i]; simp
    rw [e, ← fillN_zero]; exact this
  have hO1 : OI ((((w.alloc (.cells C 27)).alloc (.cells (madeCells #[.int .i64 0] d) 3)).alloc (.cells #[.int .i64 0] 3)).alloc (.cells #[.slice (some ⟨w.heap.size + 1, 0, none⟩) d d] 24)) w.heap.size (.slice (some ⟨w.heap.size + 1, 0, none⟩) d d) (numsTo (rowsE m 0) d) :=
    OI.of_fill ((hA1.alloc _).alloc _) (by omega) (by unfold maxLen; omega)
  have hO2 : OI ((((w.alloc (.cells C 27)).alloc (.cells (madeCells #[.int .i64 0] d) 3)).alloc (.cells #[.int .i64 0] 3)).alloc (.cells #[.slice (some ⟨w.heap.size + 1, 0, none⟩) d d] 24)) w.heap.size (.slice (some ⟨w.heap.size + 1 + 1, 0, none⟩) 1 1) (firstsI (rowsE m 0) d) := by
    rw [one_firsts (rowsE_zero m) d hd0]
    have h1 := Ar.new ((w.alloc (.cells C 27)).alloc (.cells (madeCells #[.int .i64 0] d) 3)) #[.int .i64 0] 3
    simp only [World.size_alloc] at h1
    exact ⟨rfl, .inr ⟨w.heap.size + 1 + 1, 1, #[.int .i64 0], rfl, by omega, h1.alloc _, Nat.le_refl _, by unfold maxLen; omega, rfl, rfl⟩⟩
  have hB3 : Ar ((((w.alloc (.cells C 27)).alloc (.cells (madeCells #[.int .i64 0] d) 3)).alloc (.cells #[.int .i64 0] 3)).alloc (.cells #[.slice (some ⟨w.heap.size + 1, 0, none⟩) d d] 24)) (w.heap.size + 1 + 1 + 1) #[.slice (some ⟨w.heap.size + 1, 0, none⟩) d d] 24 := by
    have h1 := Ar.new (((w.alloc (.cells C 27)).alloc (.cells (madeCells #[.int .i64 0] d) 3)).alloc (.cells #[.int .i64 0] 3)) #[.slice (some ⟨w.heap.size + 1, 0, none⟩) d d] 24
    simp only [World.size_alloc] at h1; exact h1
  have z1 := (hx.nxv k1).1
  have HI := Lib.hid h
  have HX := Lib.hid hx.ar; have HB0 := Lib.hid hb0; have HO1 := Lib.hid hO1; have HO2 := Lib.hid hO2; have HB3 := Lib.hid hB3
  have HOK := Lib.hid hok; have HN := Lib.hid (show n = m.nx.length ∧ n ≤ 65536 from ⟨hn, hn6⟩); have HD6 := Lib.hid (show d ≤ 256 from hd6)
  clear h hok hxw hxA hxB hx hb1 hb2 hb3 hb0 hA1 hO1 hO2 hB3 k1 k2 k3 hn hn6 hd6 hd0 hd
  go_enter Tryd.func19, Tryd.ntmps19
  go_wp2_with fail
  clear z1 hwd hmk
  obtain ⟨b3, hb3⟩ : ∃ b, b = w.heap.size + 1 + 1 + 1 := ⟨_, rfl⟩
  have HB3E := Lib.hid hb3
  rw [← hb3] at HB3 ⊢
  generalize ((((w.alloc (.cells C 27)).alloc (.cells (madeCells #[.int .i64 0] d) 3)).alloc (.cells #[.int .i64 0] 3)).alloc (.cells #[.slice (some ⟨w.heap.size + 1, 0, none⟩) d d] 24)) = W1 at *
  clear hb3
  go_loopw [4, 14] (fun u i wr => CoL w W1 b3 m d n u i wr) (fun _ i _ => n - (intOf i).toNat)
  case atStart => exact ⟨0, _, Nat.zero_le _, rfl, HB3.out, HO1.out, HO2.out, Below.refl _ _⟩
  case round =>
    obtain ⟨k, vn, hk, rfl, hA3, ho1, ho2, hb⟩ := hrel
    have hbw : Below w.heap.size w wr := HB0.out.trans (hb.mono (by have := HB3E.out; omega))
    obtain ⟨au, cu, rfl, _, _⟩ := ho2.len
    obtain ⟨an, cn, rfl, _, _⟩ := ho1.len
    rw [numsTo_len] at hA3 ho1
    by_cases hlt : k < n
    · have hbx : Bx wr w.heap.size C m := ⟨(hb.block _ (by have := HB3E.out; omega)).trans HX.out, HI.out.next hbw⟩
      obtain ⟨_, hRS⟩ := hbx.nxv HK.out
      have hsm : k < m.lb.length := by rw [← HOK.out.len, ← HN.out.1]; exact hlt
      obtain ⟨b1, o1, ar, cr, d', rfl, hd', _, hrl, hr1, hr2, hr3⟩ := row_is HOK.out hRS hsm
      obtain rfl : d' = d := by have := HWD.out; omega
      have hcs : ∀ c, c < d' → (Lit.int .i64 ((m.nx.getD k []).getD c 0)).wf = true := fun c hc => by
        obtain ⟨q, h1, h2, _⟩ := hr3 c hc
        rw [h1]
        exact wf_i64 (by omega) (by have := HOK.out.lbs.2.1; omega)
      have hal := al_b wr (.cells #[.slice ar d' cr] 24)
      have HA3 := Lib.hid (hA3.below hal)
      have HO1 := Lib.hid (ho1.below hal); have HO2 := Lib.hid (ho2.below hal); have HRW := Lib.hid ((hr2.below hal).up hal.size)
      have HA6 := Lib.hid (Ar.new wr #[.slice ar d' cr] 24)
      have HBW := Lib.hid (hb.trans (hal.mono (Nat.le_of_lt hA3.lt)))
      have HCS := Lib.hid hcs; have HRL := Lib.hid hrl; have HLT := Lib.hid hlt
      have HKN := Lib.hid (show k < m.nx.length by rw [← HN.out.1]; exact hlt)
      have z3 : (wr.alloc (.cells #[.slice ar d' cr] 24)).cell? ⟨b3, 0, none⟩ = some (.slice an d' cn) := Ar.at' HA3.out 0
      have HWDC := Lib.hid (hbx.below hal).wd
      clear hA3 ho1 ho2 hbw hbx hRS hsm hd' hrl hr2 hr3 hcs hal hb
      go_wp2_with fail
      refine (apart_any (E := rowsE m k) (rowsE_eqv m k) _ HRW.out HO1.out.is HO2.out.is HRL.out (by have := HD6.out; omega)).mono ?_
      generalize (wr.alloc (.cells #[.slice ar d' cr] 24)) = W2 at *
      rintro e w2 ⟨hs, hb2⟩
      have HA3b := Lib.hid (HA3.out.below hb2); have HO1b := Lib.hid (HO1.out.below hb2); have HO2b := Lib.hid (HO2.out.below hb2)
      have HRWb := Lib.hid ((HRW.out.below hb2).up hb2.size); have HA6b := Lib.hid (HA6.out.below hb2)
      have HBb := Lib.hid (HBW.out.trans (hb2.mono (Nat.le_of_lt HA3.out.lt)))
      have hwdc := (hb2.cell (p := ⟨w.heap.size, 256, none⟩) (World.block_lt_of_cell? _ _ HWDC.out)).trans HWDC.out
      rw [HWD.out] at hwdc
      clear hb2 z3
      rcases hs.elim with ⟨rfl, hap⟩ | ⟨rfl, hap⟩
      · clear hs hap
        go_wp2_with fail
        refine (numberedC (w := w2) (n := d') (f := fun c => (numsTo (rowsE m k) d').getD c 0) (g := fun c => (m.nx.getD k []).getD c 0) (E := rowsE m (k + 1)) ⟨b3, 0, none⟩ ⟨wr.heap.size, 0, none⟩ (by have := HD6.out; omega) (rowsE_eqv m (k + 1))
          (keysP (fun c hc => by rw [numsTo_at _ hc]; have := nm_le (E := rowsE m k) c; exact wf_i64 (by omega) (by have := HD6.out; omega)) HCS.out (fun a b ha hb => by
            rw [rowsE_succ HKN.out, numsTo_at _ ha, numsTo_at _ hb, nm_iff (rowsE_eqv m k), beq_iff_eq]
            constructor
            · rintro ⟨h1, h2⟩; exact ⟨by rw [h1], h2⟩
            · rintro ⟨h1, h2⟩; exact ⟨by omega, h2⟩))
          fun W hb c hc => colF_any (B := w2.heap.size) W (HA3b.out.below hb) (HA6b.out.below hb) (HO1b.out.is.below hb) (HRWb.out.below hb) (by rw [numsTo_len]; exact hc) (by rw [HRL.out]; exact hc)).mono ?_
        rintro e w3 ⟨u, x, rfl, k1, k2, hb3⟩
        obtain ⟨ak, ck, rfl, _, _⟩ := k1.len
        obtain ⟨ax, cx, rfl, _, _⟩ := k2.len
        have hA3c := HA3b.out.below hb3
        have hfz := hA3c.frozen 0
        obtain ⟨q, hck⟩ : ∃ q, w3.cell? ⟨b3, 0, none⟩ = some q := ⟨_, Ar.at' hA3c 0⟩
        have HA3c := Lib.hid hA3c
        have HK1 := Lib.hid (owns_base k1 (show w.heap.size ≤ w2.heap.size by have := HA3b.out.lt; have := HB3E.out; omega)); have HK2 := Lib.hid (owns_base k2 (show w.heap.size ≤ w2.heap.size by have := HA3b.out.lt; have := HB3E.out; omega))
        have HBc := Lib.hid (HBb.out.trans (hb3.mono (Nat.le_of_lt HA3b.out.lt)))
        clear k1 k2 hb3 hA3c hwdc
        go_wp2_with fail
        refine ⟨⟨k + 1, _, HLT.out, by go_num, ?_, oi_set HK1.out HA3c.out, oi_set HK2.out HA3c.out, below_set HBc.out (Nat.le_refl _)⟩, by have := HLT.out; simp [intOf]; omega⟩
        exact HA3c.out.set 0 _
      · have hcg := not_apart HKN.out hap
        have HN1 := Lib.hid (numsTo_congr hcg); have HF1 := Lib.hid (firstsI_congr (rowsE_eqv m k) (rowsE_eqv m (k + 1)) hcg)
        clear hs hap hcg hwdc
        go_wp2_with fail
        exact ⟨⟨k + 1, _, HLT.out, by go_num, HA3b.out, by rw [← HN1.out]; exact HO1b.out, by rw [← HF1.out]; exact HO2b.out, HBb.out⟩, by have := HLT.out; simp [intOf]; omega⟩
    · have hkn : k = n := by omega
      have z3 : wr.cell? ⟨b3, 0, none⟩ = some (.slice an d cn) := Ar.at' hA3 0
      have HO := Lib.hid ho1; have HB := Lib.hid hbw
      clear hA3 ho1 ho2 hb hbw
      go_wp2_with fail
      go_ret
      exact ⟨_, rfl, by rw [← hkn]; exact HO.out, HB.out⟩
end Go.Proofs.YthefhkgjadfhgaaDoor.DfaW
