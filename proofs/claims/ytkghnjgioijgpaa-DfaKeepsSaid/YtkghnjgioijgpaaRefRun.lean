/- Walks of the document's To, Run, Tell, NameOf. -/
import Derived.Test.YtkghnjgioijgpaaTell
import Derived.Test.YtkghnjgioijgpaaRegionU
namespace Go.Proofs.Ytkghnjgioijgpaa.DfaW
set_option linter.unusedVariables false
set_option linter.unusedSimpArgs false
open Go.Proofs.Ytkghnjgioijgpaa.RegionU (Up wpU_taken wpU_one wpU_mono wpU_done wp_region_U does)
open Go.RowKit Go.Maps Go.Proofs.Ytkghnjgioijgpaa.PartM Go.Proofs.Ytkghnjgioijgpaa.PartW

theorem does_eq {P : Program} {W : World} {r : Result Next} {v : Value} (h : r = .ok (.value v) W) : does P W (fun u _ => u = v) r := by rw [h]; exact RegionU.does_value rfl
theorem does_in {P : Program} {W : World} {f : FuncId} {args : Array Value} {T : Value → World → Prop} (h : Calls P f args W (fun e W' => ∃ u, e = .returned u ∧ T u W' ∧ Below W.heap.size W W')) : does P W T (.ok (.enter f args) W) := ⟨rfl, h⟩
/-- What is known in a region over one machine: its box, and all that lay in W0. -/
def KD (W0 : World) (b : Nat) (C : Array Value) (m : Mc) (W : World) : Prop := Bx W b C m ∧ Below W0.heap.size W0 W
theorem KD.up (W0 : World) (b : Nat) (C : Array Value) (m : Mc) : Up (KD W0 b C m) := fun W W' ⟨h1, h2⟩ hr => ⟨h1.below hr, h2.trans (hr.mono h2.size)⟩
theorem KD.of {W0 W : World} {b : Nat} {C : Array Value} {m : Mc} (h : Bx W0 b C m) (hb : Below W0.heap.size W0 W) : KD W0 b C m W := ⟨h.below hb, hb⟩

set_option maxRecDepth 100000 in
set_option maxHeartbeats 2000000 in
theorem refTo_any {C : Array Value} {m : Mc} (w : World) (h : IsM w.heap.size w C m) (hk : Ok m) (s : Int) (c : Nat) (hc : c < 256) :
    Calls Try.prog 18 #[.agg C, .int .i64 s, .int .u8 c] w fun e w' => e = .returned (.int .i64 (toV m s c)) ∧ Below w.heap.size w w' := by
  have hx := Bx.new h
  have hb0 : Below w.heap.size w (w.alloc (.cells C 27)) := (Below.refl _ _).alloc (Nat.le_refl _) _
  obtain ⟨v1, x1, hv1⟩ := hx.lb
  obtain ⟨a1, c1, rfl, _, _, _⟩ := hv1.open
  have HX := Lib.hid hx; have HB0 := Lib.hid hb0; have HK := Lib.hid hk
  obtain ⟨n, hn⟩ : ∃ n, n = m.lb.length := ⟨_, rfl⟩
  have HN := Lib.hid hn
  rw [← hn] at x1
  have hn2 : (n : Int) ≤ 65536 := by have := hk.lbs.2.1; omega
  clear h hx hb0 hk hv1
  by_cases h1 : 0 ≤ s
  case neg =>
    have t1 : decide (s < 0) = true := by simp; omega
    have HI := Lib.hid (toV_out (m := m) (c := c) (show ¬ (0 ≤ s ∧ s < (m.lb.length : Int)) from fun h => h1 h.1))
    clear h1 hn
    go_enter Try.func18, Try.ntmps18
    go_wp2_with fail
    go_ret
    exact ⟨Base.ret_int HI.out.symm, HB0.out⟩
  have t1 : decide (s < 0) = false := by simp; omega
  by_cases h2 : s < (n : Int)
  case neg =>
    have t2 : decide ((n : Int) ≤ s) = true := by simp; omega
    have HI := Lib.hid (toV_out (m := m) (c := c) (show ¬ (0 ≤ s ∧ s < (m.lb.length : Int)) from fun h => h2 (by rw [hn]; exact h.2)))
    clear h1 h2 hn
    go_enter Try.func18, Try.ntmps18
    go_wp2_with fail
    go_ret
    exact ⟨Base.ret_int HI.out.symm, HB0.out⟩
  obtain ⟨k, rfl⟩ : ∃ k : Nat, s = k := ⟨s.toNat, by omega⟩
  have hkn : k < n := by omega
  have t3 : decide ((n : Int) ≤ (k : Int)) = false := by simp; omega
  have HI := Lib.hid (toV_yes (c := c) HK.out (show k < m.lb.length by rw [← hn]; exact hkn))
  clear h1 h2 hn
  go_enter Try.func18, Try.ntmps18
  go_wp2_with fail
  clear x1
  obtain ⟨b1, o1, c1, b2, o2, c2, r, y1, y2, y3, y3', y4, y5⟩ := read_step HX.out HK.out (Below.refl _ _).drew (show k < m.lb.length by rw [← HN.out]; exact hkn) hc
  rw [← HN.out] at y1
  obtain ⟨t, ht⟩ : ∃ t, t = step m k c := ⟨_, rfl⟩
  obtain ⟨f, hf⟩ : ∃ f, f = m.of c := ⟨_, rfl⟩
  rw [← ht] at y5 HI
  rw [← hf] at y3 y4 y5
  have hc2 : ¬ (256 : Int) ≤ (c : Int) := by omega
  clear ht hf
  go_region
  go_wp2_with fail
  go_ret
  exact ⟨Base.ret_int HI.out.symm, HB0.out.drew⟩

set_option maxRecDepth 100000 in
set_option maxHeartbeats 2000000 in
theorem refRun_any {C : Array Value} {m : Mc} {v : Value} {l : List Nat} (w : World) (h : IsM w.heap.size w C m) (hk : Ok m) (hv : BS w.heap.size w v l) :
    Calls Try.prog 17 #[.agg C, v] w fun e w' => e = .returned (.int .i64 (run m l : Nat)) ∧ Below w.heap.size w w' := by
  have hx := Bx.new h
  have hb0 : Below w.heap.size w (w.alloc (.cells C 27)) := (Below.refl _ _).alloc (Nat.le_refl _) _
  have HLT := Lib.hid (fun i (hi : i < l.length) => hv.lt hi)
  have HL2 := Lib.hid hv.2
  have hv' := hv.next hb0
  obtain ⟨a, cap, rfl, g1, g2, g3⟩ := hv'.open
  have HG := Lib.hid g3
  obtain ⟨L, hL⟩ : ∃ L, L = l.length := ⟨_, rfl⟩
  have hmL : (L : Int) ≤ 9223372036854775807 := by unfold maxLen at g2; omega
  have HLL := Lib.hid hL
  rw [← hL] at HG HLT ⊢
  have HX := Lib.hid hx; have HB0 := Lib.hid hb0; have HK := Lib.hid hk
  clear h hx hb0 hv hv' g1 g2 g3 hL hk
  go_enter Try.func17, Try.ntmps17
  go_wp2_with fail
  obtain ⟨B, hB⟩ : ∃ B, B = w.heap.size := ⟨_, rfl⟩
  rw [← hB] at HX ⊢
  clear hB
  generalize (w.alloc (.cells C 27)) = W0 at *
  go_loopw [5, 6] (fun s i wr => ∃ j : Nat, j ≤ L ∧ i = .int .i64 j ∧ s = .int .i64 (run m (l.take j) : Nat) ∧ Below W0.heap.size W0 wr) (fun _ i _ => L - (intOf i).toNat)
  case atStart => exact ⟨0, Nat.zero_le _, rfl, rfl, Below.refl _ _⟩
  case round =>
    obtain ⟨j, hj, rfl, rfl, hb⟩ := hrel
    by_cases hlt : j < L
    · obtain ⟨b, o, rfl, hb1, hc1⟩ := HG.out j hlt
      have hrl : run m (l.take j) < m.lb.length := run_lt HK.out (fun b hb => HL2.out b (List.mem_of_mem_take hb)) 0 HK.out.zero
      have HS := Lib.hid (show run m (l.take (j + 1)) = step m (run m (l.take j)) (l.getD j 0) by rw [take_snoc l (by rw [← HLL.out]; exact hlt), run_snoc])
      obtain ⟨s, hs⟩ : ∃ s, s = run m (l.take j) := ⟨_, rfl⟩
      have hc := HLT.out j hlt
      obtain ⟨c, hcc⟩ : ∃ c, c = l.getD j 0 := ⟨_, rfl⟩
      rw [← hcc] at hc1 hc HS
      rw [← hs] at hrl HS ⊢
      have HT := Lib.hid (fun W (h : IsM W.heap.size W C m) => by have := refTo_any W h HK.out (s : Int) c hc; rw [toV_yes HK.out hrl] at this; exact this)
      obtain ⟨t, ht⟩ : ∃ t, t = step m s c := ⟨_, rfl⟩
      rw [← ht] at HT HS
      have HC1 := Lib.hid (fun W (h : Below W0.heap.size W0 W) => (h.cell (p := ⟨b, o + j, none⟩) hb1).trans hc1)
      have HD := Lib.hid (KD.of HX.out hb.drew)
      have HLJ := Lib.hid hlt
      clear hs hcc hb hb1 hc1 ht hrl hj
      go_wp2_with fail
      refine wp_region_U (by kernel_rfl) (KD.up W0 B C m) HD.out ?_
      refine wpU_taken (i := 0) rfl (by kernel_rfl) (by kernel_rfl) (by kernel_rfl) (KD.up W0 B C m) ?_
      apply Exists.intro
      refine ⟨Or.inl ⟨rfl, fun W hW => ?hy⟩, ?_⟩
      case hy =>
        obtain ⟨hX, hB⟩ := hW
        exact does_eq (run_load_dfa (.tmp 2) rfl rfl hX)
      simp only [Act.put, List.setIfInBounds_toArray, List.set]
      refine wpU_taken (i := 1) rfl (by kernel_rfl) (by kernel_rfl) (by kernel_rfl) (KD.up W0 B C m) ?_
      apply Exists.intro
      refine ⟨Or.inl ⟨rfl, fun W hW => ?hy⟩, ?_⟩
      case hy =>
        obtain ⟨hX, hB⟩ := hW
        go_simp
        exact RegionU.does_value rfl
      simp only [Act.put, List.setIfInBounds_toArray, List.set]
      refine wpU_taken (i := 2) rfl (by kernel_rfl) (by kernel_rfl) (by kernel_rfl) (KD.up W0 B C m) ?_
      apply Exists.intro
      refine ⟨Or.inl ⟨rfl, fun W hW => ?hy⟩, ?_⟩
      case hy =>
        obtain ⟨hX, hB⟩ := hW
        go_simp
        exact RegionU.does_value rfl
      simp only [Act.put, List.setIfInBounds_toArray, List.set]
      refine wpU_taken (i := 3) rfl (by kernel_rfl) (by kernel_rfl) (by kernel_rfl) (KD.up W0 B C m) ?_
      apply Exists.intro
      refine ⟨Or.inl ⟨rfl, fun W hW => ?hy⟩, ?_⟩
      case hy =>
        obtain ⟨hX, hB⟩ := hW
        go_simp
        exact RegionU.does_value rfl
      simp only [Act.put, List.setIfInBounds_toArray, List.set]
      refine wpU_taken (i := 4) rfl (by kernel_rfl) (by kernel_rfl) (by kernel_rfl) (KD.up W0 B C m) ?_
      apply Exists.intro
      refine ⟨Or.inl ⟨rfl, fun W hW => ?hy⟩, ?_⟩
      case hy =>
        obtain ⟨hX, hB⟩ := hW
        go_simp
        exact RegionU.does_value rfl
      simp only [Act.put, List.setIfInBounds_toArray, List.set]
      refine wpU_taken (i := 5) rfl (by kernel_rfl) (by kernel_rfl) (by kernel_rfl) (KD.up W0 B C m) ?_
      apply Exists.intro
      refine ⟨Or.inl ⟨rfl, fun W hW => ?hy⟩, ?_⟩
      case hy =>
        obtain ⟨hX, hB⟩ := hW
        have hc1 := HC1.out W hB
        go_simp
        exact RegionU.does_value rfl
      simp only [Act.put, List.setIfInBounds_toArray, List.set]
      refine wpU_taken (i := 6) rfl (by kernel_rfl) (by kernel_rfl) (by kernel_rfl) (KD.up W0 B C m) ?_
      apply Exists.intro
      refine ⟨Or.inl ⟨rfl, fun W hW => ?hy⟩, ?_⟩
      case hy =>
        obtain ⟨hX, hB⟩ := hW
        go_simp
        exact RegionU.does_call (HT.out W hX.is)
      simp only [Act.put, List.setIfInBounds_toArray, List.set]
      refine wpU_taken (i := 7) rfl (by kernel_rfl) (by kernel_rfl) (by kernel_rfl) (KD.up W0 B C m) ?_
      apply Exists.intro
      refine ⟨Or.inl ⟨rfl, fun W hW => ?hy⟩, ?_⟩
      case hy =>
        obtain ⟨hX, hB⟩ := hW
        go_simp
        exact RegionU.does_value rfl
      simp only [Act.put, List.setIfInBounds_toArray, List.set]
      refine wpU_done (by kernel_rfl) ?_
      rintro W ⟨-, hB⟩
      go_wp2_with fail
      exact ⟨⟨j + 1, HLJ.out, by go_num, by rw [HS.out], hB⟩, by have := HLJ.out; simp [intOf]; omega⟩
    · have hjL : j = L := by omega
      have HE := Lib.hid (show run m (l.take j) = run m l by rw [hjL, HLL.out, List.take_length])
      have HB := Lib.hid (HB0.out.trans (hb.mono HB0.out.size))
      clear hjL hb
      go_wp2_with fail
      go_ret
      exact ⟨Base.ret_int (by rw [HE.out]), HB.out⟩

set_option maxRecDepth 100000 in
set_option maxHeartbeats 2000000 in
theorem refTell_any {C : Array Value} {m : Mc} {v : Value} {l : List Nat} (w : World) (h : IsM w.heap.size w C m) (hk : Ok m) (hv : BS w.heap.size w v l) :
    Calls Try.prog 19 #[.agg C, v] w fun e w' => e = .returned (.int .i64 (tellV m l)) ∧ Below w.heap.size w w' := by
  have hx := Bx.new h
  have hb0 : Below w.heap.size w (w.alloc (.cells C 27)) := (Below.refl _ _).alloc (Nat.le_refl _) _
  have hs := run_ok hk hv.2
  have hv' := hv.next hb0
  obtain ⟨v2, x2, hv2⟩ := hx.lb
  obtain ⟨a2, c2, rfl, _, _, g⟩ := hv2.open
  obtain ⟨b2, o2, rfl, hb2, hc⟩ := g _ hs
  rw [(hk.lab hs).1] at hc
  have HE := Lib.hid (tellV_yes (bs := l) hk)
  have hbl := hx.ar.lt
  have hn2 : (m.lb.length : Int) ≤ 65536 := by have := hk.lbs.2.1; omega
  obtain ⟨n, hn⟩ : ∃ n, n = m.lb.length := ⟨_, rfl⟩
  rw [← hn] at hs x2 hn2
  have HV := Lib.hid hv'
  obtain ⟨W0, hW0⟩ : ∃ W0, W0 = (w.alloc (.cells C 27)) := ⟨_, rfl⟩
  have HW0 := Lib.hid hW0
  rw [← hW0] at hv' x2 hb2 hc hx hbl hb0 HV
  have HR := Lib.hid (fun W (hX : Bx W w.heap.size C m) (hB : Below W0.heap.size W0 W) => refRun_any W hX.is hk (HV.out.next hB))
  obtain ⟨s, hs'⟩ : ∃ s, s = run m l := ⟨_, rfl⟩
  rw [← hs'] at hs hc HE HR
  obtain ⟨t, ht⟩ : ∃ t, t = lab m s := ⟨_, rfl⟩
  rw [← ht] at hc HE
  obtain ⟨a, cap, rfl, _, _, _⟩ := hv.open
  have HC1 := Lib.hid (fun W (h : Below W0.heap.size W0 W) => (h.cell (p := ⟨b2, o2 + s, none⟩) hb2).trans hc)
  have HC2 := Lib.hid (fun W (h : Below W0.heap.size W0 W) => (h.cell (p := ⟨w.heap.size, 258, none⟩) hbl).trans x2)
  have HD := Lib.hid (KD.of hx (Below.refl _ _).drew)
  have HB0 := Lib.hid hb0
  clear h hx hb0 hv hv' hk hv2 g hn hs' ht x2 hc hbl hb2
  go_enter Try.func19, Try.ntmps19
  go_wp2_with fail
  rw [← hW0]
  clear hW0
  refine wp_region_U (by kernel_rfl) (KD.up W0 w.heap.size C m) HD.out ?_
  refine wpU_taken (i := 0) rfl (by kernel_rfl) (by kernel_rfl) (by kernel_rfl) (KD.up W0 w.heap.size C m) ?_
  apply Exists.intro
  refine ⟨Or.inl ⟨rfl, fun W hW => ?hy⟩, ?_⟩
  case hy =>
    obtain ⟨hX, hB⟩ := hW
    go_simp
    exact RegionU.does_value rfl
  simp only [Act.put, List.setIfInBounds_toArray, List.set]
  refine wpU_taken (i := 1) rfl (by kernel_rfl) (by kernel_rfl) (by kernel_rfl) (KD.up W0 w.heap.size C m) ?_
  apply Exists.intro
  refine ⟨Or.inl ⟨rfl, fun W hW => ?hy⟩, ?_⟩
  case hy =>
    obtain ⟨hX, hB⟩ := hW
    have hc2 := HC2.out W hB
    go_simp
    exact RegionU.does_value rfl
  simp only [Act.put, List.setIfInBounds_toArray, List.set]
  refine wpU_taken (i := 2) rfl (by kernel_rfl) (by kernel_rfl) (by kernel_rfl) (KD.up W0 w.heap.size C m) ?_
  apply Exists.intro
  refine ⟨Or.inl ⟨rfl, fun W hW => ?hy⟩, ?_⟩
  case hy =>
    obtain ⟨hX, hB⟩ := hW
    exact does_eq (run_load_dfa (.tmp 2) rfl rfl hX)
  simp only [Act.put, List.setIfInBounds_toArray, List.set]
  refine wpU_taken (i := 3) rfl (by kernel_rfl) (by kernel_rfl) (by kernel_rfl) (KD.up W0 w.heap.size C m) ?_
  apply Exists.intro
  refine ⟨Or.inl ⟨rfl, fun W hW => ?hy⟩, ?_⟩
  case hy =>
    obtain ⟨hX, hB⟩ := hW
    go_simp
    exact RegionU.does_value rfl
  simp only [Act.put, List.setIfInBounds_toArray, List.set]
  refine wpU_taken (i := 4) rfl (by kernel_rfl) (by kernel_rfl) (by kernel_rfl) (KD.up W0 w.heap.size C m) ?_
  apply Exists.intro
  refine ⟨Or.inl ⟨rfl, fun W hW => ?hy⟩, ?_⟩
  case hy =>
    obtain ⟨hX, hB⟩ := hW
    go_simp
    exact RegionU.does_call (HR.out W hX hB)
  simp only [Act.put, List.setIfInBounds_toArray, List.set]
  refine wpU_taken (i := 5) rfl (by kernel_rfl) (by kernel_rfl) (by kernel_rfl) (KD.up W0 w.heap.size C m) ?_
  apply Exists.intro
  refine ⟨Or.inl ⟨rfl, fun W hW => ?hy⟩, ?_⟩
  case hy =>
    obtain ⟨hX, hB⟩ := hW
    go_simp
    exact RegionU.does_value rfl
  simp only [Act.put, List.setIfInBounds_toArray, List.set]
  refine wpU_taken (i := 6) rfl (by kernel_rfl) (by kernel_rfl) (by kernel_rfl) (KD.up W0 w.heap.size C m) ?_
  apply Exists.intro
  refine ⟨Or.inl ⟨rfl, fun W hW => ?hy⟩, ?_⟩
  case hy =>
    obtain ⟨hX, hB⟩ := hW
    have hc1 := HC1.out W hB
    go_simp
    exact RegionU.does_value rfl
  simp only [Act.put, List.setIfInBounds_toArray, List.set]
  refine wpU_taken (i := 7) rfl (by kernel_rfl) (by kernel_rfl) (by kernel_rfl) (KD.up W0 w.heap.size C m) ?_
  apply Exists.intro
  refine ⟨Or.inl ⟨rfl, fun W hW => ?hy⟩, ?_⟩
  case hy =>
    obtain ⟨hX, hB⟩ := hW
    go_simp
    exact RegionU.does_value rfl
  simp only [Act.put, List.setIfInBounds_toArray, List.set]
  refine wpU_done (by kernel_rfl) ?_
  rintro W ⟨-, hB⟩
  go_wp2_with fail
  go_ret
  exact ⟨Base.ret_int HE.out.symm, HB0.out.trans (hB.mono HB0.out.size)⟩

set_option maxRecDepth 100000 in
theorem refNameOf_any {C : Array Value} {m : Mc} (w : World) (h : IsM w.heap.size w C m) (hk : Ok m) (t : Nat) (ht : t ≤ m.nm.length) :
    Calls Try.prog 20 #[.agg C, .int .i64 t] w fun e w' => e = .returned (.string (nameOf m t)) ∧ Below w.heap.size w w' := by
  have hx := Bx.new h
  have hb0 : Below w.heap.size w (w.alloc (.cells C 27)) := (Below.refl _ _).alloc (Nat.le_refl _) _
  have HB0 := Lib.hid hb0
  cases t with
  | zero =>
    clear h hx hb0 hk ht
    go_enter Try.func20, Try.ntmps20
    go_wp2_with fail
    go_ret
    exact ⟨rfl, HB0.out⟩
  | succ t =>
    have hn2 : (m.nm.length : Int) ≤ 64 := by have := hk.nms.1; omega
    obtain ⟨v2, x2, hv2⟩ := hx.nm
    obtain ⟨a2, c2, rfl, _, _, g⟩ := hv2.open
    obtain ⟨b2, o2, rfl, _, hc⟩ := g t (by omega)
    have HN := Lib.hid (show nameOf m (t + 1) = m.nm.getD t ByteArray.empty from rfl)
    obtain ⟨y, hy⟩ : ∃ y, y = m.nm.getD t ByteArray.empty := ⟨_, rfl⟩
    rw [← hy] at hc HN
    obtain ⟨n, hn⟩ : ∃ n, n = m.nm.length := ⟨_, rfl⟩
    rw [← hn] at ht x2 hn2
    have hw1 : wrap64 ((t : Int) + 1 - 1) = t := by unfold wrap64; omega
    have hcast : ((t + 1 : Nat) : Int) = (t : Int) + 1 := by omega
    have t0 : (((t : Int) + 1) == 0) = false := by simp <;> omega
    rw [hcast]
    clear h hx hb0 hk hv2 g hn hy
    go_enter Try.func20, Try.ntmps20
    go_wp2_with fail
    go_ret
    exact ⟨by rw [HN.out]; rfl, HB0.out⟩
end Go.Proofs.Ytkghnjgioijgpaa.DfaW
