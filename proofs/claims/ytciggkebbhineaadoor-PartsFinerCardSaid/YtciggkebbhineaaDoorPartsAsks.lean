/- Walk of PartsAsks. -/
import Derived.Test.YtciggkebbhineaaDoorSame
import Derived.Test.YtciggkebbhineaaDoorRefNorm
import Derived.Test.YtciggkebbhineaaDoorPKnows
namespace Go.Proofs.YtciggkebbhineaaDoor.PartW
set_option linter.unusedVariables false
set_option linter.unusedSimpArgs false
open Go.Proofs.YtciggkebbhineaaDoor.RegionU (Up wpU_taken wpU_one wpU_mono wpU_done wp_region_U does)
open Go.RowKit Go.Maps Go.Proofs.YtciggkebbhineaaDoor.PartM Go.Proofs.YtciggkebbhineaaDoor.SetM Go.Proofs.YtciggkebbhineaaDoor.SetW

abbrev cb (c : UInt8) : Value := .int .u8 (c.toNat : Int)
theorem conv_owned {W : World} {b n : Nat} {v : Value} {l : List UInt8} (hn : l.length = n) (h : W.ownsRow b 5 1 v n (l.map cb)) : (convert 29 9 v).run Tryd.prog W = .ok (.string ⟨l.toArray⟩) W := by
  subst hn
  rcases h.2 with ⟨rfl, h0⟩ | ⟨g, cap, cur, rfl, hg, hh, hnc, hcm, hcs, htake⟩
  · obtain rfl : l = [] := List.length_eq_zero_iff.1 h0
    exact run_convert_bytes_nil (P := Tryd.prog) W 29 5 Tryd.underlying29 Tryd.underlying5 0 0 9 Tryd.underlying9
  · have h' := h
    have := run_convert_bytes_arg (P := Tryd.prog) W 29 5 Tryd.underlying29 Tryd.underlying5 g 0 l.length cap (l.map fun c => (c.toNat : Int)) (by simp) (fun i hi => by
      rw [Nat.zero_add, World.ownsRow.cellAt h' i (by omega)]
      simp [hi]) 9 Tryd.underlying9
    rw [this]
    congr 2
    refine Base.ba_ext ?_
    rw [strOfNums_data, List.map_map]
    have : (fun n => UInt8.ofNat n.toNat) ∘ (fun c : UInt8 => (c.toNat : Int)) = id := by
      funext c
      show UInt8.ofNat ((c.toNat : Int)).toNat = c
      rw [Int.toNat_natCast]; exact UInt8.ofNat_toNat
    rw [this]; simp
/-- A slice of the least bytes, as a text. -/
def lowS (E : Nat → Nat → Bool) (n : Nat) : List UInt8 := (List.range n).map fun i => UInt8.ofNat (lowN E i)
theorem lowL_eq {E : Nat → Nat → Bool} (hE : Eqv E) : lowL E (rk E 256) = (lowS E (rk E 256)).map cb := by
  unfold lowL lowS
  rw [List.map_map]
  apply List.map_congr_left
  intro i hi
  rw [List.mem_range] at hi
  have := (low_spec hE hi).2.1
  show Value.int .u8 _ = Value.int .u8 _
  congr 1
  rw [UInt8.toNat_ofNat']; omega
def LowV (s : ByteArray) (v : Value) (W : World) : Prop := ∃ b n l, s = ⟨List.toArray l⟩ ∧ l.length = n ∧ W.ownsRow b 5 1 v n (l.map cb)
theorem lowV_up (s : ByteArray) (v : Value) : Up (LowV s v) := fun W W' ⟨b, n, l, h0, h1, h2⟩ hr => ⟨b, n, l, h0, h1, owns_below h2 hr⟩
theorem LowV.conv {s : ByteArray} {v : Value} {W : World} (h : LowV s v W) : (convert 29 9 v).run Tryd.prog W = .ok (.string s) W := by
  obtain ⟨b, n, l, rfl, h1, h2⟩ := h
  exact conv_owned h1 h2
theorem LowV.of {E : Nat → Nat → Bool} (hE : Eqv E) {b : Nat} {v : Value} {W : World} (h : W.ownsRow b 5 1 v (rk E 256) (lowL E (rk E 256))) : LowV ⟨(lowS E (rk E 256)).toArray⟩ v W := by
  rw [lowL_eq hE] at h
  exact ⟨b, _, _, rfl, by simp [lowS], h⟩
theorem row4_up (fs : List (Nat → Bool)) (v : Value) : Up (Row4 fs v) := fun W W' h hr => row4_below h hr
theorem does_eq {P : Program} {W : World} {r : Result Next} {v : Value} (h : r = .ok (.value v) W) : does P W (fun u _ => u = v) r := by rw [h]; exact RegionU.does_value rfl
theorem does_in {P : Program} {W : World} {f : FuncId} {args : Array Value} {T : Value → World → Prop} (h : Calls P f args W (fun e W' => ∃ u, e = .returned u ∧ T u W' ∧ Below W.heap.size W W')) : does P W T (.ok (.enter f args) W) := ⟨rfl, h⟩
/-- What PartsAsks' region knows of memory: three boxed arrays, the table, what lay below. -/
def KA (w : World) (B2 B5 B7 : Nat) (C X : Array Value) (W : World) : Prop := (Ar W B2 C 22 ∧ Ar W B5 X 22 ∧ Ar W B7 X 22) ∧ Env W ∧ Below w.heap.size w W
theorem KA.up (w : World) (B2 B5 B7 : Nat) (C X : Array Value) : Up (KA w B2 B5 B7 C X) := fun W W' ⟨⟨h1, h2, h3⟩, h4, h5⟩ hr => ⟨⟨h1.below hr, h2.below hr, h3.below hr⟩, h4.below hr, h5.trans (hr.mono h5.size)⟩

set_option maxRecDepth 100000 in
set_option maxHeartbeats 4000000 in
theorem PartsAsks_any {C : Array Value} {f : Nat → Nat} (hC : IsA C f) (hf : ∀ b, b < 256 → f b < 256) (m : Int) (w : World) (he : Env w) :
    Calls Tryd.prog 3 #[.agg C, .int .i64 m] w fun e w' => e = .returned (.bool true) ∧ Below w.heap.size w w' := by
  obtain ⟨Z, hZ, hz⟩ := zeroA
  have HZ := Lib.hid hZ; have HC := Lib.hid hC; have HENV := Lib.hid he
  have HKN := Lib.hid (fun W => knows_any W)
  have hj1 := fun W => Norm_any hC hf W
  have hj2 := fun W => refNorm_any hC hf W
  have hr1 := fun W => Right_any hC hf m W
  have hr2 := fun W => refRight_any hC hf m W
  have hs1 := fun W => PSets_any hC hf W
  have hs2 := fun W => refSets_any hC hf W
  have hl1 := fun W he => PLeasts_any hC hf W he
  have hl2 := fun W => refLeasts_any hC hf W
  obtain ⟨E, hE⟩ : ∃ E, E = byKey f := ⟨_, rfl⟩
  have hEV := byKey_eqv f
  rw [← hE] at hj1 hj2 hr1 hr2 hs1 hs2 hl1 hl2 hEV
  obtain ⟨n, hn⟩ : ∃ n, n = rk E 256 := ⟨_, rfl⟩
  have HN := Lib.hid (show n ≤ 256 ∧ 0 < n by rw [hn]; exact ⟨rk_le 256, rk_pos hEV⟩)
  have HRN := Lib.hid (fun (D : Array Value) (hD : IsA D (nm E)) (W : World) => Right_nm hEV hD n (by rw [hn]) W)
  obtain ⟨s, hs⟩ : ∃ s : ByteArray, s = ⟨(lowS E (rk E 256)).toArray⟩ := ⟨_, rfl⟩
  have HLV := Lib.hid (fun b v W (h : World.ownsRow W b 5 1 v n (lowL E n)) => show LowV s v W by rw [hs]; rw [hn] at h; exact LowV.of hEV h)
  rw [← hn] at hj1 hj2 hr1 hr2 hs1 hs2 hl1 hl2
  obtain ⟨b, hb⟩ : ∃ b, b = (sameA f (nm E) && (m == (n : Nat))) := ⟨_, rfl⟩
  rw [← hb] at hr1 hr2
  obtain ⟨F, hF⟩ : ∃ F, F = nm E := ⟨_, rfl⟩
  rw [← hF] at hj1 hj2 HRN
  have HJ1 := Lib.hid hj1; have HJ2 := Lib.hid hj2; have HR1 := Lib.hid hr1; have HR2 := Lib.hid hr2; have HS1 := Lib.hid hs1; have HS2 := Lib.hid hs2; have HL1 := Lib.hid hl1; have HL2 := Lib.hid hl2
  have hb0 : Below w.heap.size w (w.alloc (.cells C 22)) := (Below.refl _ w).alloc (Nat.le_refl _) _
  have HB0 := Lib.hid hb0; have HA0 := Lib.hid (Ar.new w C 22)
  clear hZ hC hf hj1 hj2 hr1 hr2 hs1 hs2 hl1 hl2 hn hE hEV hs hb hF hb0 he
  go_enter Tryd.func3, Tryd.ntmps3
  go_wp2_with (first | (refine wpList_load_arr rfl 22 (.tmp 2) rfl rfl HA0.out HC.out.size Tryd.underlying22 infoA ?_))
  refine (HJ1.out _).mono ?_
  rintro e w1 ⟨X, rfl, hX, hb1⟩
  have HX := Lib.hid hX
  have hc1 := HB0.out.trans (hb1.mono HB0.out.size)
  have HA1 := Lib.hid ((HA0.out.below hb1).alloc (.cells X 22))
  have P5_1 := Lib.hid (Ar.new w1 X 22)
  have HB1 := Lib.hid (hc1.alloc hc1.size (.cells X 22))
  clear hX hb1 hc1
  go_wp2_with (first | (refine wpList_store_arr rfl 22 (.tmp 5) (.tmp 12) rfl rfl rfl (Ar.new w1 Z 22) HZ.out.size HX.out infoA ?_; rw [World.setRow_alloc_new]) | (refine wpList_load_arr rfl 22 (.tmp 2) rfl rfl HA1.out HC.out.size Tryd.underlying22 infoA ?_))
  refine (HJ2.out _).mono ?_
  rintro e w2 ⟨Y, rfl, hY, hb2⟩
  obtain rfl : X = Y := HX.out.ext hY (fun _ _ => rfl)
  have hc2 := HB1.out.trans (hb2.mono HB1.out.size)
  have ha2 := ((HA1.out.below hb2).alloc (.cells X 22))
  have p5 := ((P5_1.out.below hb2).alloc (.cells X 22))
  have p7 := (Ar.new w2 X 22)
  have hb3 := (hc2.alloc hc2.size (.cells X 22))
  have HK := Lib.hid (show KA w w.heap.size w1.heap.size w2.heap.size C X (w2.alloc (.cells X 22)).drew from ⟨⟨ha2, p5, p7⟩, HENV.out.below hb3.drew, hb3.drew⟩)
  clear hY hb2 hc2 ha2 p5 p7 hb3
  have heq := eqArr HX.out HX.out
  rw [sameA_refl] at heq
  go_wp2_with (first | (refine wpList_store_arr rfl 22 (.tmp 7) (.tmp 17) rfl rfl rfl (Ar.new w2 Z 22) HZ.out.size HX.out infoA ?_; rw [World.setRow_alloc_new]))
  refine wp_region_U (by kernel_rfl) (KA.up w w.heap.size w1.heap.size w2.heap.size C X) HK.out ?_
  refine wpU_taken (i := 0) rfl (by kernel_rfl) (by kernel_rfl) (by kernel_rfl) (KA.up w w.heap.size w1.heap.size w2.heap.size C X) ?_
  apply Exists.intro
  refine ⟨Or.inl ⟨rfl, fun W hW => ?hy⟩, ?_⟩
  case hy =>
    obtain ⟨⟨h2, h5, h7⟩, hE, hB⟩ := hW
    exact does_eq (run_load_arr 22 (.tmp 5) rfl rfl h5 HX.out.size Tryd.underlying22 infoA)
  simp only [Act.put, List.setIfInBounds_toArray, List.set]
  refine wpU_taken (i := 1) rfl (by kernel_rfl) (by kernel_rfl) (by kernel_rfl) (KA.up w w.heap.size w1.heap.size w2.heap.size C X) ?_
  apply Exists.intro
  refine ⟨Or.inl ⟨rfl, fun W hW => ?hy⟩, ?_⟩
  case hy =>
    obtain ⟨⟨h2, h5, h7⟩, hE, hB⟩ := hW
    exact does_eq (run_load_arr 22 (.tmp 7) rfl rfl h7 HX.out.size Tryd.underlying22 infoA)
  simp only [Act.put, List.setIfInBounds_toArray, List.set]
  refine wpU_taken (i := 2) rfl (by kernel_rfl) (by kernel_rfl) (by kernel_rfl) (KA.up w w.heap.size w1.heap.size w2.heap.size C X) ?_
  apply Exists.intro
  refine ⟨Or.inl ⟨rfl, fun W hW => ?hy⟩, ?_⟩
  case hy =>
    obtain ⟨⟨h2, h5, h7⟩, hE, hB⟩ := hW
    go_simp
    try simp only [beq_self_eq_true, bne_self_eq_false, Bool.not_true, Bool.not_false, decide_true]
    exact RegionU.does_value rfl
  simp only [Act.put, List.setIfInBounds_toArray, List.set]
  refine wpU_taken (i := 3) rfl (by kernel_rfl) (by kernel_rfl) (by kernel_rfl) (KA.up w w.heap.size w1.heap.size w2.heap.size C X) ?_
  apply Exists.intro
  refine ⟨Or.inl ⟨rfl, fun W hW => ?hy⟩, ?_⟩
  case hy =>
    obtain ⟨⟨h2, h5, h7⟩, hE, hB⟩ := hW
    go_simp
    exact RegionU.does_value rfl
  simp only [Act.put, List.setIfInBounds_toArray, List.set]
  refine wpU_taken (i := 4) rfl (by kernel_rfl) (by kernel_rfl) (by kernel_rfl) (KA.up w w.heap.size w1.heap.size w2.heap.size C X) ?_
  apply Exists.intro
  refine ⟨Or.inl ⟨rfl, fun W hW => ?hy⟩, ?_⟩
  case hy =>
    obtain ⟨⟨h2, h5, h7⟩, hE, hB⟩ := hW
    go_simp
    exact RegionU.does_value rfl
  simp only [Act.put, List.setIfInBounds_toArray, List.set]
  refine wpU_taken (i := 5) rfl (by kernel_rfl) (by kernel_rfl) (by kernel_rfl) (KA.up w w.heap.size w1.heap.size w2.heap.size C X) ?_
  apply Exists.intro
  refine ⟨Or.inl ⟨rfl, fun W hW => ?hy⟩, ?_⟩
  case hy =>
    obtain ⟨⟨h2, h5, h7⟩, hE, hB⟩ := hW
    go_simp
    exact RegionU.does_value rfl
  simp only [Act.put, List.setIfInBounds_toArray, List.set]
  refine wpU_taken (i := 6) rfl (by kernel_rfl) (by kernel_rfl) (by kernel_rfl) (KA.up w w.heap.size w1.heap.size w2.heap.size C X) ?_
  apply Exists.intro
  refine ⟨Or.inl ⟨rfl, fun W hW => ?hy⟩, ?_⟩
  case hy =>
    obtain ⟨⟨h2, h5, h7⟩, hE, hB⟩ := hW
    go_simp
    try simp only [beq_self_eq_true, bne_self_eq_false, Bool.not_true, Bool.not_false, decide_true]
    exact RegionU.does_value rfl
  simp only [Act.put, List.setIfInBounds_toArray, List.set]
  refine wpU_taken (i := 7) rfl (by kernel_rfl) (by kernel_rfl) (by kernel_rfl) (KA.up w w.heap.size w1.heap.size w2.heap.size C X) ?_
  apply Exists.intro
  refine ⟨Or.inl ⟨rfl, fun W hW => ?hy⟩, ?_⟩
  case hy =>
    obtain ⟨⟨h2, h5, h7⟩, hE, hB⟩ := hW
    go_simp
    exact RegionU.does_value rfl
  simp only [Act.put, List.setIfInBounds_toArray, List.set]
  refine wpU_taken (i := 8) rfl (by kernel_rfl) (by kernel_rfl) (by kernel_rfl) (KA.up w w.heap.size w1.heap.size w2.heap.size C X) ?_
  apply Exists.intro
  refine ⟨Or.inl ⟨rfl, fun W hW => ?hy⟩, ?_⟩
  case hy =>
    obtain ⟨⟨h2, h5, h7⟩, hE, hB⟩ := hW
    go_simp
    exact RegionU.does_value rfl
  simp only [Act.put, List.setIfInBounds_toArray, List.set]
  refine wpU_taken (i := 9) rfl (by kernel_rfl) (by kernel_rfl) (by kernel_rfl) (KA.up w w.heap.size w1.heap.size w2.heap.size C X) ?_
  apply Exists.intro
  refine ⟨Or.inl ⟨rfl, fun W hW => ?hy⟩, ?_⟩
  case hy =>
    obtain ⟨⟨h2, h5, h7⟩, hE, hB⟩ := hW
    exact does_eq (run_load_arr 22 (.tmp 2) rfl rfl h2 HC.out.size Tryd.underlying22 infoA)
  simp only [Act.put, List.setIfInBounds_toArray, List.set]
  refine wpU_taken (i := 10) rfl (by kernel_rfl) (by kernel_rfl) (by kernel_rfl) (KA.up w w.heap.size w1.heap.size w2.heap.size C X) ?_
  apply Exists.intro
  refine ⟨Or.inl ⟨rfl, fun W hW => ?hy⟩, ?_⟩
  case hy =>
    obtain ⟨⟨h2, h5, h7⟩, hE, hB⟩ := hW
    go_simp
    exact RegionU.does_value rfl
  simp only [Act.put, List.setIfInBounds_toArray, List.set]
  refine wpU_taken (i := 12) rfl (by kernel_rfl) (by kernel_rfl) (by kernel_rfl) (KA.up w w.heap.size w1.heap.size w2.heap.size C X) ?_
  apply Exists.intro
  refine ⟨Or.inl ⟨rfl, fun W hW => ?hy⟩, ?_⟩
  case hy =>
    obtain ⟨⟨h2, h5, h7⟩, hE, hB⟩ := hW
    exact does_eq (run_load_arr 22 (.tmp 2) rfl rfl h2 HC.out.size Tryd.underlying22 infoA)
  simp only [Act.put, List.setIfInBounds_toArray, List.set]
  refine wpU_taken (i := 13) rfl (by kernel_rfl) (by kernel_rfl) (by kernel_rfl) (KA.up w w.heap.size w1.heap.size w2.heap.size C X) ?_
  apply Exists.intro
  refine ⟨Or.inl ⟨rfl, fun W hW => ?hy⟩, ?_⟩
  case hy =>
    obtain ⟨⟨h2, h5, h7⟩, hE, hB⟩ := hW
    go_simp
    exact RegionU.does_value rfl
  simp only [Act.put, List.setIfInBounds_toArray, List.set]
  refine wpU_taken (i := 11) rfl (by kernel_rfl) (by kernel_rfl) (by kernel_rfl) (KA.up w w.heap.size w1.heap.size w2.heap.size C X) ?_
  apply Exists.intro
  refine ⟨Or.inl ⟨rfl, fun W hW => ?hy⟩, ?_⟩
  case hy =>
    obtain ⟨⟨h2, h5, h7⟩, hE, hB⟩ := hW
    go_simp
    exact RegionU.does_call (HR1.out W)
  simp only [Act.put, List.setIfInBounds_toArray, List.set]
  refine wpU_taken (i := 14) rfl (by kernel_rfl) (by kernel_rfl) (by kernel_rfl) (KA.up w w.heap.size w1.heap.size w2.heap.size C X) ?_
  apply Exists.intro
  refine ⟨Or.inl ⟨rfl, fun W hW => ?hy⟩, ?_⟩
  case hy =>
    obtain ⟨⟨h2, h5, h7⟩, hE, hB⟩ := hW
    go_simp
    exact RegionU.does_call (HR2.out W)
  simp only [Act.put, List.setIfInBounds_toArray, List.set]
  refine wpU_taken (i := 15) rfl (by kernel_rfl) (by kernel_rfl) (by kernel_rfl) (KA.up w w.heap.size w1.heap.size w2.heap.size C X) ?_
  apply Exists.intro
  refine ⟨Or.inl ⟨rfl, fun W hW => ?hy⟩, ?_⟩
  case hy =>
    obtain ⟨⟨h2, h5, h7⟩, hE, hB⟩ := hW
    go_simp
    try simp only [beq_self_eq_true, bne_self_eq_false, Bool.not_true, Bool.not_false, decide_true]
    exact RegionU.does_value rfl
  simp only [Act.put, List.setIfInBounds_toArray, List.set]
  refine wpU_taken (i := 16) rfl (by kernel_rfl) (by kernel_rfl) (by kernel_rfl) (KA.up w w.heap.size w1.heap.size w2.heap.size C X) ?_
  apply Exists.intro
  refine ⟨Or.inl ⟨rfl, fun W hW => ?hy⟩, ?_⟩
  case hy =>
    obtain ⟨⟨h2, h5, h7⟩, hE, hB⟩ := hW
    go_simp
    exact RegionU.does_value rfl
  simp only [Act.put, List.setIfInBounds_toArray, List.set]
  refine wpU_taken (i := 17) rfl (by kernel_rfl) (by kernel_rfl) (by kernel_rfl) (KA.up w w.heap.size w1.heap.size w2.heap.size C X) ?_
  apply Exists.intro
  refine ⟨Or.inl ⟨rfl, fun W hW => ?hy⟩, ?_⟩
  case hy =>
    obtain ⟨⟨h2, h5, h7⟩, hE, hB⟩ := hW
    go_simp
    exact RegionU.does_value rfl
  simp only [Act.put, List.setIfInBounds_toArray, List.set]
  refine wpU_taken (i := 18) rfl (by kernel_rfl) (by kernel_rfl) (by kernel_rfl) (KA.up w w.heap.size w1.heap.size w2.heap.size C X) ?_
  apply Exists.intro
  refine ⟨Or.inl ⟨rfl, fun W hW => ?hy⟩, ?_⟩
  case hy =>
    obtain ⟨⟨h2, h5, h7⟩, hE, hB⟩ := hW
    exact does_eq (run_load_arr 22 (.tmp 2) rfl rfl h2 HC.out.size Tryd.underlying22 infoA)
  simp only [Act.put, List.setIfInBounds_toArray, List.set]
  refine wpU_taken (i := 20) rfl (by kernel_rfl) (by kernel_rfl) (by kernel_rfl) (KA.up w w.heap.size w1.heap.size w2.heap.size C X) ?_
  apply Exists.intro
  refine ⟨Or.inl ⟨rfl, fun W hW => ?hy⟩, ?_⟩
  case hy =>
    obtain ⟨⟨h2, h5, h7⟩, hE, hB⟩ := hW
    exact does_eq (run_load_arr 22 (.tmp 2) rfl rfl h2 HC.out.size Tryd.underlying22 infoA)
  simp only [Act.put, List.setIfInBounds_toArray, List.set]
  refine wpU_one (i := 19) (by kernel_rfl) rfl rfl (Row4 (clsL E 256 n)) (row4_up _) (fun W hW => ?hy) ?_
  case hy =>
    obtain ⟨⟨h2, h5, h7⟩, hE, hB⟩ := hW
    go_simp
    exact does_in ((HS1.out W).mono fun e w' ⟨v, h, ho, hb⟩ => ⟨v, h, Row4.of ho HN.out.2 HN.out.1, hb⟩)
  intro u
  simp only [Act.put, List.setIfInBounds_toArray, List.set]
  refine wpU_one (i := 21) (by kernel_rfl) rfl rfl (Row4 (clsL E 256 n)) (row4_up _) (fun W hW => ?hy) ?_
  case hy =>
    obtain ⟨⟨⟨h2, h5, h7⟩, hE, hB⟩, hu⟩ := hW
    go_simp
    exact does_in ((HS2.out W).mono fun e w' ⟨v, h, ho, hb⟩ => ⟨v, h, Row4.of ho HN.out.2 HN.out.1, hb⟩)
  intro u
  simp only [Act.put, List.setIfInBounds_toArray, List.set]
  refine wpU_taken (i := 22) rfl (by kernel_rfl) (by kernel_rfl) (by kernel_rfl) (((KA.up w w.heap.size w1.heap.size w2.heap.size C X).and (row4_up _ _)).and (row4_up _ _)) ?_
  apply Exists.intro
  refine ⟨Or.inl ⟨rfl, fun W hW => ?hy⟩, ?_⟩
  case hy =>
    obtain ⟨⟨⟨⟨h2, h5, h7⟩, hE, hB⟩, hu⟩, hu2⟩ := hW
    go_simp
    exact RegionU.does_call (same_any hu hu2)
  simp only [Act.put, List.setIfInBounds_toArray, List.set]
  refine wpU_mono _ _ _ _ _ (fun W h => h.1.1) ?_
  refine wpU_taken (i := 23) rfl (by kernel_rfl) (by kernel_rfl) (by kernel_rfl) (KA.up w w.heap.size w1.heap.size w2.heap.size C X) ?_
  apply Exists.intro
  refine ⟨Or.inl ⟨rfl, fun W hW => ?hy⟩, ?_⟩
  case hy =>
    obtain ⟨⟨h2, h5, h7⟩, hE, hB⟩ := hW
    go_simp
    exact RegionU.does_value rfl
  simp only [Act.put, List.setIfInBounds_toArray, List.set]
  refine wpU_taken (i := 24) rfl (by kernel_rfl) (by kernel_rfl) (by kernel_rfl) (KA.up w w.heap.size w1.heap.size w2.heap.size C X) ?_
  apply Exists.intro
  refine ⟨Or.inl ⟨rfl, fun W hW => ?hy⟩, ?_⟩
  case hy =>
    obtain ⟨⟨h2, h5, h7⟩, hE, hB⟩ := hW
    go_simp
    exact RegionU.does_value rfl
  simp only [Act.put, List.setIfInBounds_toArray, List.set]
  refine wpU_taken (i := 25) rfl (by kernel_rfl) (by kernel_rfl) (by kernel_rfl) (KA.up w w.heap.size w1.heap.size w2.heap.size C X) ?_
  apply Exists.intro
  refine ⟨Or.inl ⟨rfl, fun W hW => ?hy⟩, ?_⟩
  case hy =>
    obtain ⟨⟨h2, h5, h7⟩, hE, hB⟩ := hW
    exact does_eq (run_load_arr 22 (.tmp 2) rfl rfl h2 HC.out.size Tryd.underlying22 infoA)
  simp only [Act.put, List.setIfInBounds_toArray, List.set]
  refine wpU_taken (i := 28) rfl (by kernel_rfl) (by kernel_rfl) (by kernel_rfl) (KA.up w w.heap.size w1.heap.size w2.heap.size C X) ?_
  apply Exists.intro
  refine ⟨Or.inl ⟨rfl, fun W hW => ?hy⟩, ?_⟩
  case hy =>
    obtain ⟨⟨h2, h5, h7⟩, hE, hB⟩ := hW
    exact does_eq (run_load_arr 22 (.tmp 2) rfl rfl h2 HC.out.size Tryd.underlying22 infoA)
  simp only [Act.put, List.setIfInBounds_toArray, List.set]
  refine wpU_one (i := 26) (by kernel_rfl) rfl rfl (LowV s) (lowV_up _) (fun W hW => ?hy) ?_
  case hy =>
    obtain ⟨⟨h2, h5, h7⟩, hE, hB⟩ := hW
    go_simp
    exact does_in ((HL1.out W hE).mono fun e w' ⟨v, h, ho, hb⟩ => ⟨v, h, HLV.out _ _ _ ho, hb⟩)
  intro u
  simp only [Act.put, List.setIfInBounds_toArray, List.set]
  refine wpU_taken (i := 27) rfl (by kernel_rfl) (by kernel_rfl) (by kernel_rfl) ((KA.up w w.heap.size w1.heap.size w2.heap.size C X).and (lowV_up _ _)) ?_
  apply Exists.intro
  refine ⟨Or.inl ⟨rfl, fun W hW => ?hy⟩, ?_⟩
  case hy =>
    obtain ⟨⟨⟨h2, h5, h7⟩, hE, hB⟩, hu⟩ := hW
    have hc := hu.conv
    go_simp
    exact RegionU.does_value rfl
  simp only [Act.put, List.setIfInBounds_toArray, List.set]
  refine wpU_mono _ _ _ _ _ (fun W h => h.1) ?_
  refine wpU_one (i := 29) (by kernel_rfl) rfl rfl (LowV s) (lowV_up _) (fun W hW => ?hy) ?_
  case hy =>
    obtain ⟨⟨h2, h5, h7⟩, hE, hB⟩ := hW
    go_simp
    exact does_in ((HL2.out W).mono fun e w' ⟨v, h, ho, hb⟩ => ⟨v, h, HLV.out _ _ _ ho, hb⟩)
  intro u
  simp only [Act.put, List.setIfInBounds_toArray, List.set]
  refine wpU_taken (i := 30) rfl (by kernel_rfl) (by kernel_rfl) (by kernel_rfl) ((KA.up w w.heap.size w1.heap.size w2.heap.size C X).and (lowV_up _ _)) ?_
  apply Exists.intro
  refine ⟨Or.inl ⟨rfl, fun W hW => ?hy⟩, ?_⟩
  case hy =>
    obtain ⟨⟨⟨h2, h5, h7⟩, hE, hB⟩, hu⟩ := hW
    have hc := hu.conv
    go_simp
    exact RegionU.does_value rfl
  simp only [Act.put, List.setIfInBounds_toArray, List.set]
  refine wpU_mono _ _ _ _ _ (fun W h => h.1) ?_
  refine wpU_taken (i := 31) rfl (by kernel_rfl) (by kernel_rfl) (by kernel_rfl) (KA.up w w.heap.size w1.heap.size w2.heap.size C X) ?_
  apply Exists.intro
  refine ⟨Or.inl ⟨rfl, fun W hW => ?hy⟩, ?_⟩
  case hy =>
    obtain ⟨⟨h2, h5, h7⟩, hE, hB⟩ := hW
    go_simp
    try simp only [beq_self_eq_true, bne_self_eq_false, Bool.not_true, Bool.not_false, decide_true]
    exact RegionU.does_value rfl
  simp only [Act.put, List.setIfInBounds_toArray, List.set]
  refine wpU_taken (i := 32) rfl (by kernel_rfl) (by kernel_rfl) (by kernel_rfl) (KA.up w w.heap.size w1.heap.size w2.heap.size C X) ?_
  apply Exists.intro
  refine ⟨Or.inl ⟨rfl, fun W hW => ?hy⟩, ?_⟩
  case hy =>
    obtain ⟨⟨h2, h5, h7⟩, hE, hB⟩ := hW
    go_simp
    exact RegionU.does_value rfl
  simp only [Act.put, List.setIfInBounds_toArray, List.set]
  refine wpU_taken (i := 33) rfl (by kernel_rfl) (by kernel_rfl) (by kernel_rfl) (KA.up w w.heap.size w1.heap.size w2.heap.size C X) ?_
  apply Exists.intro
  refine ⟨Or.inl ⟨rfl, fun W hW => ?hy⟩, ?_⟩
  case hy =>
    obtain ⟨⟨h2, h5, h7⟩, hE, hB⟩ := hW
    go_simp
    exact RegionU.does_value rfl
  simp only [Act.put, List.setIfInBounds_toArray, List.set]
  refine wpU_taken (i := 34) rfl (by kernel_rfl) (by kernel_rfl) (by kernel_rfl) (KA.up w w.heap.size w1.heap.size w2.heap.size C X) ?_
  apply Exists.intro
  refine ⟨Or.inl ⟨rfl, fun W hW => ?hy⟩, ?_⟩
  case hy =>
    obtain ⟨⟨h2, h5, h7⟩, hE, hB⟩ := hW
    exact does_eq (run_load_arr 22 (.tmp 5) rfl rfl h5 HX.out.size Tryd.underlying22 infoA)
  simp only [Act.put, List.setIfInBounds_toArray, List.set]
  refine wpU_taken (i := 35) rfl (by kernel_rfl) (by kernel_rfl) (by kernel_rfl) (KA.up w w.heap.size w1.heap.size w2.heap.size C X) ?_
  apply Exists.intro
  refine ⟨Or.inl ⟨rfl, fun W hW => ?hy⟩, ?_⟩
  case hy =>
    obtain ⟨⟨h2, h5, h7⟩, hE, hB⟩ := hW
    go_simp
    exact RegionU.does_value rfl
  simp only [Act.put, List.setIfInBounds_toArray, List.set]
  refine wpU_taken (i := 36) rfl (by kernel_rfl) (by kernel_rfl) (by kernel_rfl) (KA.up w w.heap.size w1.heap.size w2.heap.size C X) ?_
  apply Exists.intro
  refine ⟨Or.inl ⟨rfl, fun W hW => ?hy⟩, ?_⟩
  case hy =>
    obtain ⟨⟨h2, h5, h7⟩, hE, hB⟩ := hW
    go_simp
    exact RegionU.does_call (HRN.out _ HX.out W)
  simp only [Act.put, List.setIfInBounds_toArray, List.set]
  refine wpU_taken (i := 37) rfl (by kernel_rfl) (by kernel_rfl) (by kernel_rfl) (KA.up w w.heap.size w1.heap.size w2.heap.size C X) ?_
  apply Exists.intro
  refine ⟨Or.inl ⟨rfl, fun W hW => ?hy⟩, ?_⟩
  case hy =>
    obtain ⟨⟨h2, h5, h7⟩, hE, hB⟩ := hW
    go_simp
    exact RegionU.does_value rfl
  simp only [Act.put, List.setIfInBounds_toArray, List.set]
  refine wpU_taken (i := 38) rfl (by kernel_rfl) (by kernel_rfl) (by kernel_rfl) (KA.up w w.heap.size w1.heap.size w2.heap.size C X) ?_
  apply Exists.intro
  refine ⟨Or.inl ⟨rfl, fun W hW => ?hy⟩, ?_⟩
  case hy =>
    obtain ⟨⟨h2, h5, h7⟩, hE, hB⟩ := hW
    go_simp
    exact RegionU.does_value rfl
  simp only [Act.put, List.setIfInBounds_toArray, List.set]
  refine wpU_taken (i := 39) rfl (by kernel_rfl) (by kernel_rfl) (by kernel_rfl) (KA.up w w.heap.size w1.heap.size w2.heap.size C X) ?_
  apply Exists.intro
  refine ⟨Or.inl ⟨rfl, fun W hW => ?hy⟩, ?_⟩
  case hy =>
    obtain ⟨⟨h2, h5, h7⟩, hE, hB⟩ := hW
    go_simp
    exact RegionU.does_call (HKN.out W)
  simp only [Act.put, List.setIfInBounds_toArray, List.set]
  refine wpU_taken (i := 40) rfl (by kernel_rfl) (by kernel_rfl) (by kernel_rfl) (KA.up w w.heap.size w1.heap.size w2.heap.size C X) ?_
  apply Exists.intro
  refine ⟨Or.inl ⟨rfl, fun W hW => ?hy⟩, ?_⟩
  case hy =>
    obtain ⟨⟨h2, h5, h7⟩, hE, hB⟩ := hW
    go_simp
    exact RegionU.does_value rfl
  simp only [Act.put, List.setIfInBounds_toArray, List.set]
  refine wpU_taken (i := 41) rfl (by kernel_rfl) (by kernel_rfl) (by kernel_rfl) (KA.up w w.heap.size w1.heap.size w2.heap.size C X) ?_
  apply Exists.intro
  refine ⟨Or.inl ⟨rfl, fun W hW => ?hy⟩, ?_⟩
  case hy =>
    obtain ⟨⟨h2, h5, h7⟩, hE, hB⟩ := hW
    go_simp
    exact RegionU.does_value rfl
  simp only [Act.put, List.setIfInBounds_toArray, List.set]
  refine wpU_done (by kernel_rfl) ?_
  rintro W ⟨-, -, hB⟩
  go_wp2_with fail
  go_ret
  exact ⟨rfl, hB⟩
end Go.Proofs.YtciggkebbhineaaDoor.PartW
