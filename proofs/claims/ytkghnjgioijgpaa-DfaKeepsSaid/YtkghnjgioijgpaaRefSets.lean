/- Walk of layer 19's document: Sets. -/
import Derived.Test.YtkghnjgioijgpaaRefNum
namespace Go.Proofs.Ytkghnjgioijgpaa.PartW
set_option linter.unusedVariables false
open Go.RowKit Go.Maps Go.Proofs.Ytkghnjgioijgpaa.PartM Go.Proofs.Ytkghnjgioijgpaa.SetM Go.Proofs.Ytkghnjgioijgpaa.SetW

/-- Whether a number has come up below c. -/
def metF (f : Nat → Nat) (c v : Nat) : Bool := (List.range c).any fun a => f a == v
theorem metF_zero (f : Nat → Nat) (v : Nat) : metF f 0 v = false := rfl
theorem metF_succ (f : Nat → Nat) (c v : Nat) : metF f (c + 1) v = (metF f c v || f c == v) := by simp [metF, List.range_succ]
theorem metF_iff (f : Nat → Nat) (c : Nat) : metF f c (f c) = decide (fst (byKey f) c ≠ c) := by
  rw [Bool.eq_iff_iff, decide_eq_true_iff]
  unfold metF
  rw [List.any_eq_true]
  constructor
  · rintro ⟨a, ha, h⟩ e
    have := (first_iff (byKey_eqv f) c).1 e a (List.mem_range.1 ha)
    simp [byKey] at this h
    exact this h
  · intro h
    have h1 : fst (byKey f) c < c := by have := fst_le (byKey f) c; omega
    have h2 := fst_alike (byKey_eqv f) c
    exact ⟨_, List.mem_range.2 h1, by simp [byKey] at h2; simpa using h2⟩
/-- The bytes from c on, ahead of d, whose number is c's. -/
def runF (f : Nat → Nat) (c d : Nat) : Nat → Bool := fun x => decide (c ≤ x) && decide (x < d) && (f x == f c)
theorem runF_none (f : Nat → Nat) (c : Nat) : runF f c c = emptyF := by funext x; unfold runF emptyF; rw [Bool.and_eq_false_iff, Bool.and_eq_false_iff]; left; simp; omega
theorem runF_yes {f : Nat → Nat} {c d : Nat} (hcd : c ≤ d) (h : f d = f c) : withF (runF f c d) d = runF f c (d + 1) := by
  funext x
  unfold withF runF
  rw [Bool.eq_iff_iff]
  simp
  constructor
  · rintro (⟨⟨h1, h2⟩, h3⟩ | rfl)
    · exact ⟨⟨h1, by omega⟩, h3⟩
    · exact ⟨⟨hcd, by omega⟩, h⟩
  · rintro ⟨⟨h1, h2⟩, h3⟩
    by_cases e : x = d
    · exact .inr e
    · exact .inl ⟨⟨h1, by omega⟩, h3⟩
theorem runF_no {f : Nat → Nat} {c d : Nat} (h : f d ≠ f c) : runF f c d = runF f c (d + 1) := by
  funext x
  unfold runF
  rw [Bool.eq_iff_iff]
  simp
  intro h1 h2
  by_cases e : x = d
  · subst e; exact absurd h1 h
  · omega
/-- C's cells are 256 truths of g. -/
structure IsB (C : Array Value) (g : Nat → Bool) : Prop where
  size : C.size = 256
  at' : ∀ i, i < 256 → C[i]? = some (.bool (g i))
theorem IsB.one {C : Array Value} {g : Nat → Bool} (h : IsB C g) : C.all (·.oneCell') = true := by
  rw [Array.all_eq_true]
  intro i hi
  have := h.at' i (by rw [← h.size]; exact hi)
  rw [Array.getElem?_eq_getElem hi] at this
  injection this with this
  rw [this]; rfl
theorem IsB.congr {C : Array Value} {f g : Nat → Bool} (h : IsB C f) (e : ∀ i, i < 256 → f i = g i) : IsB C g := ⟨h.size, fun i hi => by rw [h.at' i hi, e i hi]⟩
theorem IsB.set {C : Array Value} {g : Nat → Bool} (h : IsB C g) (k : Nat) (v : Bool) : IsB (C.setIfInBounds k (.bool v)) (fun i => if i = k then v else g i) := by
  refine ⟨by rw [Array.size_setIfInBounds]; exact h.size, fun i hi => ?_⟩
  rw [Array.getElem?_setIfInBounds]
  by_cases e : k = i
  · subst e; simp [h.size, hi]
  · have e' : ¬ i = k := fun x => e x.symm
    simp [e, e', h.at' i hi]
theorem Ar.cellB {w : World} {B : Nat} {C : Array Value} {t : TypeId} {g : Nat → Bool} (h : Ar w B C t) (hC : IsB C g) {i : Nat} (hi : i < 256) : w.cell? ⟨B, i, none⟩ = some (.bool (g i)) := by
  rw [cell_of_row w B i C t (0, 0) h]; exact hC.at' i hi
theorem metF_set {D : Array Value} {f : Nat → Nat} {c : Nat} (h : IsB D (metF f c)) : IsB (D.setIfInBounds (f c) (.bool true)) (metF f (c + 1)) := by
  refine (h.set (f c) true).congr fun i hi => ?_
  rw [metF_succ]
  by_cases e : i = f c
  · subst e; simp
  · have e' : (f c == i) = false := by simp; exact fun x => e x.symm
    simp [e, e']
theorem metF_old {f : Nat → Nat} {c : Nat} (h : fst (byKey f) c ≠ c) (v : Nat) : metF f (c + 1) v = metF f c v := by
  rw [metF_succ]
  by_cases e : f c = v
  · subst e
    rw [metF_iff f c]; simp [h]
  · have : (f c == v) = false := by simpa using e
    simp [this]
theorem runF_all {f : Nat → Nat} {c : Nat} (hc : fst (byKey f) c = c) : runF f c 256 = cls (byKey f) 256 (rk (byKey f) c) := by
  funext x
  have hx := nm_iff (byKey_eqv f) c x
  have h1 := (first_iff (byKey_eqv f) c).1 hc
  unfold runF cls
  rw [← nm_first hc]
  rw [Bool.eq_iff_iff]
  simp
  have h2 : nm (byKey f) x = nm (byKey f) c ↔ f x = f c := by
    constructor
    · intro e
      have := nm_inj (byKey_eqv f) e
      simpa [byKey] using this
    · intro e
      exact nm_congr (byKey_eqv f) (by simp [byKey, e])
  rw [h2]
  constructor
  · rintro ⟨⟨h3, h4⟩, h5⟩; exact ⟨h4, h5⟩
  · rintro ⟨h4, h5⟩
    refine ⟨⟨?_, h4⟩, h5⟩
    rcases Nat.lt_or_ge x c with h6 | h6
    · have := h1 x h6; simp [byKey] at this; exact absurd h5 this
    · exact h6
theorem infoBools : (Try.prog.info? 106).map (·.size) = some 256 := by kernel_rfl
theorem zeroB_info : (Try.prog.info? 106).map (fun i => (i.zero, i.size)) = some (some (.agg (Array.replicate 256 (.bool false))), 256) := by kernel_rfl
theorem zeroBools : ∃ Z, IsB Z (fun _ => false) ∧ ∀ w, (zeroValue 106).run Try.prog w = .ok (.agg Z) w :=
  ⟨_, ⟨by simp, fun i hi => by rw [Array.getElem?_replicate]; simp [hi]⟩, (zero_of_info zeroB_info).1⟩
theorem build_bools {Z : Array Value} (hz : ∀ w, (zeroValue 106).run Try.prog w = .ok (.agg Z) w) (w : World) : (Instr.build 106 #[]).run Try.prog w = .ok (.agg Z) w := by
  simp [Instr.build, hz, run_underlying Try.underlying106, Try.sizeOf4, Instr.fill, Result.andThen, Value.cells]

set_option maxRecDepth 100000 in
set_option maxHeartbeats 2000000 in
theorem refSets_any {C : Array Value} {f : Nat → Nat} (hC : IsA C f) (hf : ∀ b, b < 256 → f b < 256) (w : World) :
    Calls Try.prog 71 #[.agg C] w fun e w' => ∃ v', e = .returned v' ∧ w'.ownsRow w.heap.size 105 4 v' (rk (byKey f) 256) (setCells (clsL (byKey f) 256 (rk (byKey f) 256))) ∧ Below w.heap.size w w' := by
  obtain ⟨i0, hi, hz0, hz1, hz2⟩ := info_parts infoSet
  obtain ⟨Z, hZ, hz⟩ := zeroBools
  have hbz := build_bools hz
  have HZ := Lib.hid hZ; have HC := Lib.hid hC; have HF := Lib.hid hf; have HE := Lib.hid (byKey_eqv f)
  have hs := hC.size
  obtain ⟨E, hE⟩ : ∃ E, E = byKey f := ⟨_, rfl⟩
  have HEE := Lib.hid hE
  rw [← hE]
  rw [← hE] at HE
  clear hZ hC hf hE
  have hn0 : Ar ((((w.alloc (.cells C 22)).alloc (.cells #[] 105))).alloc (.cells Z 106)) (w.heap.size + 1 + 1) Z 106 := by
    have := Ar.new ((w.alloc (.cells C 22)).alloc (.cells #[] 105)) Z 106
    simp only [World.size_alloc] at this; exact this
  have HN0 := Lib.hid hn0; clear hn0
  go_enter Try.func71, Try.ntmps71
  go_wp2_with (refine wpList_store_gen rfl 106 (.tmp 4) (.tmp 9) rfl rfl rfl HN0.out HZ.out.size HZ.out.size HZ.out.one infoBools ?_)
  obtain ⟨B, hB⟩ : ∃ B, B = w.heap.size := ⟨_, rfl⟩
  obtain ⟨A, hA⟩ : ∃ A, A = w.heap.size + 1 + 1 := ⟨_, rfl⟩
  have HAB := Lib.hid (show A ≠ B ∧ w.heap.size ≤ B ∧ w.heap.size ≤ A by omega)
  have ha1 := HN0.out.row Z
  have hr1 : Ar ((((w.alloc (.cells C 22)).alloc (.cells #[] 105)).alloc (.cells Z 106)).setRow (w.heap.size + 1 + 1) Z) w.heap.size C 22 := (heap_row _ _ _ (by omega)).trans (((Ar.new w C _).alloc _).alloc _)
  have hb1 : Below w.heap.size w ((((w.alloc (.cells C 22)).alloc (.cells #[] 105)).alloc (.cells Z 106)).setRow (w.heap.size + 1 + 1) Z) := below_row ((((Below.refl _ w).alloc (Nat.le_refl _) _).alloc (by simp) _).alloc (by simp; omega) _) (by omega) Z
  have ho1 : ((((w.alloc (.cells C 22)).alloc (.cells #[] 105)).alloc (.cells Z 106)).setRow (w.heap.size + 1 + 1) Z).ownsRow w.heap.size 105 4 (.slice (some ⟨w.heap.size + 1, 0, none⟩) 0 0) 0 [] :=
    ⟨by simp, .inr ⟨w.heap.size + 1, 0, #[], rfl, by omega, (heap_row _ _ _ (by omega)).trans (by
      have := Ar.alloc (Ar.new (w.alloc (.cells C 22)) #[] 105) (.cells Z 106)
      rw [World.size_alloc] at this; exact this), Nat.zero_le _, by decide, rfl, rfl⟩⟩
  clear HN0 hbz hz
  rw [← hA] at ha1 hr1 hb1 ho1 ⊢
  rw [show w.heap.size + 1 = B + 1 by rw [hB]] at ho1
  rw [← hB] at hr1 ⊢
  generalize ((((w.alloc (.cells C 22)).alloc (.cells #[] 105)).alloc (.cells Z 106)).setRow A Z) = w0 at *
  have HA1 := Lib.hid ha1; have HR1 := Lib.hid hr1; have HB1 := Lib.hid hb1; have HO1 := Lib.hid ho1
  clear hB hA ha1 hr1 hb1 ho1
  go_loopw [3, 5] (fun s i wr => ∃ c : Nat, c ≤ 256 ∧ i = .int .i64 c ∧ ∃ a cap D, s = .slice a (rk E c) cap ∧ wr.ownsRow w.heap.size 105 4 (.slice a (rk E c) cap) (rk E c) (setCells (clsL E 256 (rk E c))) ∧ Ar wr B C 22 ∧ Ar wr A D 106 ∧ Hid (IsB D (metF f c)) ∧ Below w.heap.size w wr) (fun _ i _ => 256 - (intOf i).toNat)
  case atStart => exact ⟨0, by omega, rfl, _, _, Z, rfl, HO1.out, HR1.out, HA1.out, HZ, HB1.out⟩
  case round =>
    obtain ⟨c, hc, rfl, a, cap, D, rfl, hO, hR, hA, HD, hb⟩ := hrel
    clear HA1 HR1 HB1 HO1
    by_cases hlt : c < 256
    · obtain ⟨n, hn⟩ : ∃ n, n = rk E c := ⟨_, rfl⟩
      rw [← hn] at hO ⊢
      have HN := Lib.hid (show n = rk E c ∧ n ≤ c from ⟨hn, by rw [hn]; exact rk_le c⟩)
      have t0 : decide ((c : Int) < 256) = true := by simp; omega
      have t1 : ¬ (256 : Int) ≤ (c : Int) := by omega
      have hwc := wrap_succ (k := c) (by omega)
      have hfc := HF.out c hlt
      have t2 : ¬ (256 : Int) ≤ (f c : Int) := by omega
      have k1 := hR.cell HC.out hlt
      have k2 := hA.cellB HD.out hfc
      have hmet := metF_iff f c
      rw [← HEE.out] at hmet
      have HO := Lib.hid hO; have HR := Lib.hid hR; have HA := Lib.hid hA; have HB := Lib.hid hb; have HLT := Lib.hid hlt; have HFC := Lib.hid hfc
      by_cases hq : fst E c = c
      · have hfz := hA.frozen (f c)
        rw [hmet, decide_eq_false (by simpa using hq)] at k2
        have HQ := Lib.hid hq
        clear hq hmet hO hR hA hb hlt hc hn hfc
        go_wp2_with fail
        have hA2 := HA.out.set (f c) (.bool true)
        have hR2 := HR.out.other (A := ⟨A, f c, none⟩) (fun e => HAB.out.1 e) (.bool true)
        have hO2 : (wr.setCell ⟨A, f c, none⟩ (.bool true)).ownsRow w.heap.size 105 4 (.slice a n cap) n (setCells (clsL E 256 n)) := by
          exact owns_heap HO.out fun k hk => Below.heap_setCell _ ⟨A, f c, none⟩ _ k (owns_ne HO.out HA.out (by decide) hk)
        have hb2 := HB.out.setCell (p := ⟨A, f c, none⟩) HAB.out.2.2 (.bool true)
        have hmt := metF_set HD.out
        have hsz : (wr.setCell ⟨A, f c, none⟩ (.bool true)).heap.size = wr.heap.size := by simp [World.setCell]
        generalize wr.setCell ⟨A, f c, none⟩ (.bool true) = W1 at *
        have HA2 := Lib.hid hA2; have HR2 := Lib.hid hR2; have HO2 := Lib.hid hO2; have HB2 := Lib.hid hb2; have HMT := Lib.hid hmt
        clear hA2 hR2 hO2 hb2 hmt HO HR HA HB k1 k2 hfz
        obtain ⟨S, hS⟩ : ∃ S, S = wr.heap.size := ⟨_, rfl⟩
        rw [← hS] at hsz ⊢
        have hz0' := HoldsS.zero W1 105
        rw [hsz] at hz0'
        have hw0 : Below S W1 (W1.alloc (.cells #[.int .u64 0, .int .u64 0, .int .u64 0, .int .u64 0] 105)) := (Below.refl _ _).alloc (by rw [hsz]; exact Nat.le_refl _) _
        have HZ0 := Lib.hid hz0'; have HW0 := Lib.hid hw0; have HSZ := Lib.hid hsz
        clear hz0' hw0 hsz hS
        generalize W1.alloc (.cells #[.int .u64 0, .int .u64 0, .int .u64 0, .int .u64 0] 105) = W2 at *
        go_loopw [7] (fun i wr => ∃ d : Nat, c ≤ d ∧ d ≤ 256 ∧ i = .int .i64 d ∧ HoldsS wr S (runF f c d) ∧ Below S W1 wr) (fun i _ => 256 - (intOf i).toNat)
        case atStart => exact ⟨c, Nat.le_refl _, by have := HLT.out; omega, rfl, by rw [runF_none]; exact HZ0.out, HW0.out⟩
        case round =>
          obtain ⟨d, hcd, hd, rfl, hH, hb⟩ := hrel
          clear HZ0 HW0
          rw [← HSZ.out] at hb
          have hR3 := HR2.out.below hb
          by_cases hlt : d < 256
          · have u0 : decide ((d : Int) < 256) = true := by simp; omega
            have u1 : ¬ (256 : Int) ≤ (d : Int) := by omega
            have u2 : (0 : Int) ≤ (d : Int) := by omega
            have u3 : (d : Int) < 256 := by omega
            have u4 : (0 : Int) ≤ (c : Int) := by omega
            have u5 : (c : Int) < 256 := by have := HLT.out; omega
            have hwd := wrap_succ (k := d) (by omega)
            have q1 : wr.drew.cell? ⟨B, d, none⟩ = some (.int .u8 (f d : Int)) := Ar.cell (show Ar wr.drew B C 22 from hR3) HC.out hlt
            have q2 : wr.drew.cell? ⟨B, c, none⟩ = some (.int .u8 (f c : Int)) := Ar.cell (show Ar wr.drew B C 22 from hR3) HC.out HLT.out
            have hHd : HoldsS wr.drew S (runF f c d) := hH.drew
            have c0 := hHd.c0; have c1 := hHd.c1; have c2 := hHd.c2; have c3 := hHd.c3
            have HLD := Lib.hid (show c ≤ d ∧ d < 256 from ⟨hcd, hlt⟩)
            have HH := Lib.hid hHd; have HB := Lib.hid hb.drew
            by_cases hq : f d = f c
            · have v0 : ((f d : Int) == (f c : Int)) = true := by rw [hq]; simp
              have HR := Lib.hid (runF_yes hcd hq)
              clear hq hlt hcd hd hH hb hR3 hHd
              go_wp2_with fail
              go_region
              go_wp2_with fail
              refine (With_any _ _ HLD.out.2 _).mono ?_
              rintro e w1 ⟨rfl, hb1⟩
              have hH1 := HH.out.below hb1
              have hb2 := HB.out.trans (hb1.mono HB.out.size)
              clear c0 c1 c2 c3 hb1
              have c0 := hH1.c0; have c1 := hH1.c1; have c2 := hH1.c2; have c3 := hH1.c3; have z0 := hH1.z0; have z1 := hH1.z1; have z2 := hH1.z2; have z3 := hH1.z3
              have HH1 := Lib.hid hH1; have HB2 := Lib.hid hb2
              clear hH1 hb2
              go_wp2_with fail
              try rw [hwd]
              have hst := HH1.out.store (withF (runF f c d) d)
              rw [HR.out] at hst
              rw [HR.out]
              refine ⟨⟨d + 1, by have := HLD.out; omega, by have := HLD.out; omega, rfl, hst, ?_⟩, by have := HLD.out; simp [intOf]; omega⟩
              have := HB2.out
              rw [HSZ.out] at this
              exact below_put4 this (Nat.le_refl _) _
            · have v0 : ((f d : Int) == (f c : Int)) = false := by simp; omega
              have HR := Lib.hid (runF_no hq)
              clear hq hlt hcd hd hH hb hR3 hHd
              go_wp2_with fail
              go_region
              go_wp2_with fail
              try rw [hwd]
              exact ⟨⟨d + 1, by have := HLD.out; omega, by have := HLD.out; omega, rfl, by rw [← HR.out]; exact HH.out, by rw [← HSZ.out]; exact HB.out⟩, by have := HLD.out; simp [intOf]; omega⟩
          · obtain rfl : d = 256 := by omega
            have hrk : rk E (c + 1) = n + 1 := by rw [rk_new HQ.out, ← HN.out.1]
            have hlst : clsL E 256 (n + 1) = clsL E 256 n ++ [runF f c 256] := by
              unfold clsL
              rw [List.range_succ, List.map_append, List.map_cons, List.map_nil, runF_all (by rw [← HEE.out]; exact HQ.out), ← HEE.out, ← HN.out.1]
            obtain ⟨g, hg⟩ : ∃ g, g = runF f c 256 := ⟨_, rfl⟩
            rw [← hg] at hH hlst
            have c0 := hH.c0; have c1 := hH.c1; have c2 := hH.c2; have c3 := hH.c3
            have HO3 := Lib.hid (owns_below HO2.out hb)
            have HR3 := Lib.hid hR3
            have HA3 := Lib.hid (HA2.out.below hb)
            have HB3 := Lib.hid (HB2.out.trans (hb.mono HB2.out.size))
            have HRK := Lib.hid hrk; have HLS := Lib.hid hlst
            have HMX := Lib.hid (show n + 1 ≤ maxLen ∧ (n + 1) * 32 ≤ 140737488355328 from ⟨by unfold maxLen; have := HN.out.2; have := HLT.out; omega, by have := HN.out.2; have := HLT.out; omega⟩)
            clear hlt hcd hd hH hb hR3 hrk hlst hg
            go_wp2_with (at_builtin; refine wpList_append_own_at _ rfl (.tmp 39) (.tmp 41) 83 rfl w.heap.size 105 i0 _ 4 32 Try.underlying83 hi hz0 hz1 hz2 rfl (by decide) (.slice a n cap) n _ rfl (HO3.out.alloc _) ⟨wr.heap.size, 0, none⟩ 1 1 [.int .u64 (wd g 0), .int .u64 (wd g 1), .int .u64 (wd g 2), .int .u64 (wd g 3)] rfl rfl (set_one _ _ _) (by simp [Value.oneCell']) HMX.out.1 HMX.out.2 (by have := HB3.out.size; simp; omega) ?_; intro v' w4 hown' hgrow _ _; have HOW := Lib.hid hown'; have HGR := Lib.hid hgrow; clear hown' hgrow)
            try rw [hwc]
            have hown := HOW.out
            rw [← setCells_snoc, ← HLS.out] at hown
            obtain ⟨b', cap', hv'⟩ := owns_succ hown
            rw [hv'] at hown ⊢
            have hal := HB3.out.alloc HB3.out.size (.cells #[.int .u64 (wd g 0), .int .u64 (wd g 1), .int .u64 (wd g 2), .int .u64 (wd g 3)] 105)
            have hb4 : Below w.heap.size w w4 := hal.grown HGR.out hal.size (fun k e => (World.ownsRow.lt HO3.out k e).1)
            have hR4 : Ar w4 B C 22 := (HGR.out.block B (HR3.out.alloc _).lt (fun e => owns_ne HO3.out HR3.out (by decide) e.symm rfl)).trans (HR3.out.alloc _)
            have hA4 : Ar w4 A (D.setIfInBounds (f c) (.bool true)) 106 := (HGR.out.block A (HA3.out.alloc _).lt (fun e => owns_ne HO3.out HA3.out (by decide) e.symm rfl)).trans (HA3.out.alloc _)
            exact ⟨⟨c + 1, HLT.out, rfl, _, cap', _, by rw [HRK.out], by rw [HRK.out]; exact hown, hR4, hA4, HMT, hb4⟩, by have := HLT.out; simp [intOf]; omega⟩
      · have HQ := Lib.hid hq
        rw [hmet, decide_eq_true hq] at k2
        clear hq hmet hO hR hA hb hlt hc hn hfc
        go_wp2_with fail
        try rw [hwc]
        have hrk : rk E (c + 1) = n := by rw [rk_old HQ.out, ← HN.out.1]
        exact ⟨⟨c + 1, HLT.out, rfl, a, cap, D, by rw [hrk], by rw [hrk]; exact HO.out, HR.out, HA.out, Lib.hid (HD.out.congr fun i _ => (metF_old (by rw [← HEE.out]; exact HQ.out) i).symm), HB.out⟩, by have := HLT.out; simp [intOf]; omega⟩
    · obtain rfl : c = 256 := by omega
      have HO := Lib.hid hO; have HB := Lib.hid hb
      clear hlt hc hO hb hR hA
      go_wp2_with fail
      go_ret
      exact ⟨_, rfl, HO.out, HB.out⟩
end Go.Proofs.Ytkghnjgioijgpaa.PartW
