/- Walk of the document's Leasts. -/
import Derived.Test.YthefhkgjadfhgaaDoorQuoMath
import Derived.Test.YthefhkgjadfhgaaDoorRef1
namespace Go.Proofs.YthefhkgjadfhgaaDoor.PartW
set_option linter.unusedVariables false
set_option linter.unusedSimpArgs false
open Go.RowKit Go.Maps Go.Proofs.YthefhkgjadfhgaaDoor.PartM Go.Proofs.YthefhkgjadfhgaaDoor.SetM Go.Proofs.YthefhkgjadfhgaaDoor.SetW

set_option maxRecDepth 100000 in
theorem refLeast_at (f : Nat → Bool) (d : Nat) (hd : d < 256) (h0 : ∀ i, i < d → f i = false) (h1 : f d = true) (w : World) :
    Calls Tryd.prog 51 #[SV f] w fun e w' => e = .returned (.int .i64 d) ∧ Below w.heap.size w w' := by
  obtain ⟨B, hB⟩ : ∃ B, B = w.heap.size := ⟨_, rfl⟩
  have HB := Lib.hid hB; clear hB
  have H0 := Lib.hid h0; have H1 := Lib.hid h1; have HD := Lib.hid hd
  clear h0 h1 hd
  go_enter Tryd.func51, Tryd.ntmps51
  go_wp2_with fail
  rw [← HB.out]
  go_loopw [3] (fun i wr => ∃ k : Nat, k ≤ d ∧ i = .int .i64 k ∧ HoldsS wr B f ∧ Below w.heap.size w wr) (fun i _ => 256 - (intOf i).toNat)
  case atStart =>
    refine ⟨0, Nat.zero_le _, rfl, ?_, (Below.refl _ _).alloc (Nat.le_refl _) _⟩
    rw [HB.out]; exact HoldsS.new _ _ _
  case round =>
    obtain ⟨k, hk, rfl, hF, hb⟩ := hrel
    have HK := Lib.hid hk
    have HKD := Lib.hid (show k < 256 by have := HD.out; omega)
    have t0 : decide ((k : Int) < 256) = true := by have := HKD.out; simp; omega
    have c0 := hF.c0; have c1 := hF.c1; have c2 := hF.c2; have c3 := hF.c3
    have HF := Lib.hid hF; have HBB := Lib.hid hb
    clear hk hF hb
    go_wp2_with fail
    refine (refHas_any _ _ HKD.out _).mono ?_
    rintro e w1 ⟨rfl, hb1⟩
    have hF1 := HF.out.below hb1
    have hb2 := HBB.out.trans (hb1.mono HBB.out.size)
    clear hb1 c0 c1 c2 c3
    have HF1 := Lib.hid hF1; have HB2 := Lib.hid hb2
    clear hF1 hb2
    by_cases e : k = d
    · subst e
      rw [H1.out]
      go_wp2_with fail
      go_ret
      exact ⟨rfl, HB2.out⟩
    · have HE := Lib.hid e
      have hw := wrap_succ (k := k) (by have := HKD.out; omega)
      rw [H0.out k (by have := HK.out; omega)]
      clear e
      go_wp2_with fail
      rw [hw]
      refine ⟨⟨k + 1, by have := HK.out; have := HE.out; omega, rfl, HF1.out, HB2.out⟩, by have := HKD.out; simp [intOf]; omega⟩

def lowN (E : Nat → Nat → Bool) (i : Nat) : Nat := (DfaW.reps E 256).getD i 0
theorem low_spec {E : Nat → Nat → Bool} (hE : Eqv E) {i : Nat} (hi : i < rk E 256) : lowN E i < 256 ∧ (∀ x, x < lowN E i → cls E 256 i x = false) ∧ cls E 256 i (lowN E i) = true := by
  obtain ⟨d, h1, h2, h3⟩ := nth 256 i hi
  have e : lowN E i = d := by
    have := DfaW.reps_at E h2 h1
    rw [h3] at this
    unfold lowN
    rw [List.getD_eq_getElem?_getD, this]; rfl
  have hd : nm E d = i := by rw [nm_first h2, h3]
  rw [e]
  refine ⟨h1, fun x hx => ?_, by simp [cls, h1, hd]⟩
  unfold cls
  rw [Bool.and_eq_false_iff]
  right
  rw [beq_eq_false_iff_ne]
  have hx1 : nm E x < rk E d := nm_lt hE hx
  omega
def lowL (E : Nat → Nat → Bool) (k : Nat) : List Value := (List.range k).map fun i => .int .u8 (lowN E i : Nat)
theorem lowL_length (E : Nat → Nat → Bool) (k : Nat) : (lowL E k).length = k := by simp [lowL]
theorem lowL_succ (E : Nat → Nat → Bool) (k : Nat) : lowL E (k + 1) = lowL E k ++ [.int .u8 (lowN E k : Nat)] := by simp [lowL, List.range_succ]
theorem rk_pos {E : Nat → Nat → Bool} (hE : Eqv E) : 0 < rk E 256 := by have := nm_lt hE (b := 0) (n := 256) (by decide); omega
theorem infoByte : (Tryd.prog.info? 5).map (fun i => (i.zero, i.size, i.bytes)) = some (some (.int .u8 0), 1, 1) := by kernel_rfl
theorem owns_apart {w : World} {b b' : Nat} {e e' : TypeId} {s s' : Nat} {v v' : Value} {n n' : Nat} {xs xs' : List Value} (h : w.ownsRow b e s v n xs) (h' : w.ownsRow b' e' s' v' n' xs') (he : e ≠ e') {k : Nat} (hk : v.ownBlock = some k) : v'.ownBlock ≠ some k := by
  intro hk'
  rcases h.2 with ⟨rfl, _⟩ | ⟨g, cap, cur, rfl, hb, hg, _⟩
  · simp [Value.ownBlock] at hk
  · simp [Value.ownBlock] at hk
    subst hk
    rcases h'.2 with ⟨rfl, _⟩ | ⟨g', cap', cur', rfl, hb', hg', _⟩
    · simp [Value.ownBlock] at hk'
    · simp [Value.ownBlock] at hk'
      subst hk'
      have hx := hg.symm.trans hg'
      injection hx with hx
      injection hx with _ h2
      exact he h2
theorem cell_byte (w : World) (v : Value) (t : TypeId) : ∀ j u, [v][j]? = some u → (w.alloc (.cells #[v] t)).cell? ((⟨w.heap.size, 0, none⟩ : Addr).add j) = some u := by
  intro j u hj
  rcases j with _ | j
  · simp at hj; subst hj; simp [Addr.add]
  · simp at hj

set_option maxRecDepth 100000 in
set_option maxHeartbeats 2000000 in
theorem refLeasts_any {C : Array Value} {f : Nat → Nat} (hC : IsA C f) (hf : ∀ b, b < 256 → f b < 256) (w : World) :
    Calls Tryd.prog 28 #[.agg C] w fun e w' => ∃ v', e = .returned v' ∧ w'.ownsRow w.heap.size 5 1 v' (rk (byKey f) 256) (lowL (byKey f) (rk (byKey f) 256)) ∧ Below w.heap.size w w' := by
  obtain ⟨i0, hi, hz0, hz1, hz2⟩ := info_parts infoByte
  have HC := Lib.hid hC
  have hn0 : Ar ((w.alloc (.cells C 22)).alloc (.cells #[] 5)) w.heap.size C 22 := (Ar.new w C _).alloc _
  have HR0 := Lib.hid hn0
  have HS := Lib.hid (refSets_any hC hf ((w.alloc (.cells C 22)).alloc (.cells #[] 5)))
  have hb0 : Below w.heap.size w ((w.alloc (.cells C 22)).alloc (.cells #[] 5)) := ((Below.refl _ w).alloc (Nat.le_refl _) _).alloc (by simp) _
  have HB0 := Lib.hid hb0
  have ho0 : ((w.alloc (.cells C 22)).alloc (.cells #[] 5)).ownsRow w.heap.size 5 1 (.slice (some ⟨w.heap.size + 1, 0, none⟩) 0 0) 0 [] :=
    ⟨by simp, .inr ⟨w.heap.size + 1, 0, #[], rfl, by omega, (by
      have := Ar.new (w.alloc (.cells C 22)) #[] 5
      rw [World.size_alloc] at this; exact this), Nat.zero_le _, by decide, rfl, rfl⟩⟩
  have HO0 := Lib.hid ho0
  obtain ⟨E, hE⟩ : ∃ E, E = byKey f := ⟨_, rfl⟩
  have HEV := Lib.hid (byKey_eqv f)
  rw [← hE] at HS HEV ⊢
  obtain ⟨n, hn⟩ : ∃ n, n = rk E 256 := ⟨_, rfl⟩
  have HLO := Lib.hid (fun i (hi : i < n) => low_spec HEV.out (i := i) (by rw [← hn]; exact hi))
  have HN := Lib.hid (show n ≤ 256 ∧ 0 < n by rw [hn]; exact ⟨rk_le 256, rk_pos HEV.out⟩)
  rw [← hn] at HS ⊢
  clear hn0 hC hf hb0 ho0 hE hn
  go_enter Tryd.func28, Tryd.ntmps28
  go_wp2_with (refine wpList_load_arr rfl 22 (.tmp 1) rfl rfl HR0.out HC.out.size Tryd.underlying22 infoA ?_)
  refine HS.out.mono ?_
  rintro e w1 ⟨v', rfl, hown, hb1⟩
  obtain ⟨G, cap, rfl, hG, hc1, hc2⟩ := owns_shape hown HN.out.2
  have hG' : w.heap.size ≤ G := Nat.le_trans HB0.out.size hG
  have hown' : w1.ownsRow w.heap.size 69 4 (.slice (some ⟨G, 0, none⟩) n cap) n (setCells (clsL E 256 n)) := by
    obtain ⟨h1, h2⟩ := hown
    refine ⟨h1, ?_⟩
    rcases h2 with h2 | ⟨g, cap, cur, h3, hg, hgh, hr⟩
    · exact .inl h2
    · exact .inr ⟨g, cap, cur, h3, by cases h3; exact hG', hgh, hr⟩
  have HOS := Lib.hid hown'
  have HO1 := Lib.hid (owns_below HO0.out hb1)
  have HB1 := Lib.hid (HB0.out.trans (hb1.mono HB0.out.size))
  have HCP := Lib.hid (show n ≤ cap ∧ cap ≤ maxLen from ⟨hc1, hc2⟩)
  clear hown hown' hG hG' hc1 hc2 hb1
  go_wp2_with fail
  go_loopw [3, 5] (fun s i wr => ∃ k : Nat, k ≤ n ∧ i = .int .i64 k ∧ wr.ownsRow w.heap.size 5 1 s k (lowL E k) ∧ wr.ownsRow w.heap.size 69 4 (.slice (some ⟨G, 0, none⟩) n cap) n (setCells (clsL E 256 n)) ∧ Below w.heap.size w wr) (fun _ i _ => n - (intOf i).toNat)
  case atStart => exact ⟨0, by omega, rfl, HO1.out, HOS.out, HB1.out⟩
  case round =>
    obtain ⟨k, hk, rfl, hO, hS, hb⟩ := hrel
    clear HO1 HOS HB1 HO0 HB0 HR0 HS
    by_cases hlt : k < n
    · have t0 : decide ((k : Int) < n) = true := by simp; omega
      have t1 : ¬ (n : Int) ≤ (k : Int) := by omega
      have hws := wrap_succ (k := k) (by have := HN.out; omega)
      obtain ⟨l2, l3, l4⟩ := HLO.out k hlt
      obtain ⟨c0, c1, c2, c3⟩ := owns_at hS (k := k) (by rw [clsL_length]; exact hlt)
      rw [clsL_at] at c0 c1 c2 c3
      have HLS := Lib.hid (lowL_succ E k)
      obtain ⟨d, hd⟩ : ∃ d, d = lowN E k := ⟨_, rfl⟩
      rw [← hd] at l2 l3 l4 HLS
      obtain ⟨g, hg⟩ : ∃ g, g = cls E 256 k := ⟨_, rfl⟩
      rw [← hg] at l3 l4 c0 c1 c2 c3
      have hwr : IntKind.u8.wrap (d : Int) = (d : Int) := wrap_u8 l2
      have HL := Lib.hid (fun W => refLeast_at g d l2 l3 l4 W)
      have HO := Lib.hid hO; have HSS := Lib.hid hS; have HB := Lib.hid hb; have HLT := Lib.hid hlt
      clear hO hS hb hlt hk hd hg l2 l3 l4
      go_wp2_with fail
      refine (HL.out wr).mono ?_
      rintro e w2 ⟨rfl, hb2⟩
      have HO2 := Lib.hid (owns_below HO.out hb2); have HS2 := Lib.hid (owns_below HSS.out hb2)
      have HB2 := Lib.hid (HB.out.trans (hb2.mono HB.out.size))
      have HMX := Lib.hid (show k + 1 ≤ maxLen ∧ (k + 1) * 1 ≤ 140737488355328 from ⟨by unfold maxLen; have := HN.out; have := HLT.out; omega, by have := HN.out; have := HLT.out; omega⟩)
      clear c0 c1 c2 c3 hb2
      go_wp2_with (at_builtin; refine wpList_append_own _ rfl (.tmp 15) (.tmp 22) 36 rfl w.heap.size 5 i0 (.int .u8 0) 1 1 Tryd.underlying36 hi hz0 hz1 hz2 rfl (by decide) _ _ _ rfl (HO2.out.alloc _) ⟨w2.heap.size, 0, none⟩ 1 1 [.int .u8 d] rfl rfl (cell_byte _ _ _) (by intro u hu; rw [List.mem_singleton] at hu; subst hu; rfl) HMX.out.1 HMX.out.2 (Nat.le_trans HB2.out.size (by simp)) ?_; intro v' w4 hown4 hgrow4 _; have HW4 := Lib.hid hown4; have HG4 := Lib.hid hgrow4; clear hown4 hgrow4)
      try rw [hws]
      have hal := HB2.out.alloc HB2.out.size (.cells #[.int .u8 d] 5)
      refine ⟨⟨k + 1, HLT.out, rfl, by rw [HLS.out]; exact HW4.out, ?_, hal.grown HG4.out hal.size (fun k e => (World.ownsRow.lt HO2.out k e).1)⟩, by have := HLT.out; simp [intOf]; omega⟩
      refine owns_heap (HS2.out.alloc (.cells #[.int .u8 d] 5)) fun j hj => HG4.out.block j (World.ownsRow.lt (HS2.out.alloc (.cells #[.int .u8 d] 5)) j hj).2 (fun e => owns_apart HS2.out HO2.out (by decide) hj (Eq.symm e))
    · obtain rfl : k = n := by omega
      have HO := Lib.hid hO; have HB := Lib.hid hb
      clear hlt hk hO hS hb
      go_wp2_with fail
      go_ret
      exact ⟨_, rfl, HO.out, HB.out⟩

end Go.Proofs.YthefhkgjadfhgaaDoor.PartW
