/- Walk of PartsFiner. -/
import Derived.Test.YtciggkebbhineaaDoorPartsAsks
import Derived.Test.YtciggkebbhineaaDoorOf
namespace Go.Proofs.YtciggkebbhineaaDoor.PartW
set_option linter.unusedVariables false
set_option linter.unusedSimpArgs false
open Go.Proofs.YtciggkebbhineaaDoor.RegionU (Up wpU_taken wpU_one wpU_mono wpU_done wp_region_U wpT_taken wpT_one wpT_done wp_region_T does)
open Go.RowKit Go.Maps Go.Proofs.YtciggkebbhineaaDoor.PartM Go.Proofs.YtciggkebbhineaaDoor.SetM Go.Proofs.YtciggkebbhineaaDoor.SetW

/-- A set is some of the classes together. -/
theorem cls_whole {fs : List (Nat → Bool)} {k : Nat} (hk : k < rk (alike fs) 256) {f : Nat → Bool} (hf : f ∈ fs) :
    meetF f (cls (alike fs) 256 k) = cls (alike fs) 256 k ∨ meetF f (cls (alike fs) 256 k) = emptyF := by
  obtain ⟨d, _, _, _, h4⟩ := least_cls (alike_eqv fs) hk
  have hx : ∀ x, cls (alike fs) 256 k x = true → f x = f d := fun x h => by
    unfold cls at h
    rw [Bool.and_eq_true] at h
    have h5 := h4 x
    rw [h.2] at h5
    unfold alike at h5
    rw [List.all_eq_true] at h5
    have := h5 f hf
    rw [beq_iff_eq] at this
    exact this.symm
  generalize cls (alike fs) 256 k = c at *
  cases hd : f d
  · right
    funext x
    unfold meetF emptyF
    cases hc : c x
    · simp
    · rw [hx x hc, hd]; rfl
  · left
    funext x
    unfold meetF
    cases hc : c x
    · simp
    · rw [hx x hc, hd]; rfl
/-- Two classes' least bytes are told apart. -/
theorem low_apart {fs : List (Nat → Bool)} {a b : Nat} (ha : a < rk (alike fs) 256) (hb : b < rk (alike fs) 256) (hab : a ≠ b) :
    fs.any (fun f => f (lowN (alike fs) a) != f (lowN (alike fs) b)) = true := by
  obtain ⟨_, _, _, _, h1⟩ := low_spec (alike_eqv fs) ha
  obtain ⟨_, _, _, h2, _⟩ := low_spec (alike_eqv fs) hb
  have h3 := h1 (lowN (alike fs) b)
  unfold cls at h2
  rw [Bool.and_eq_true, beq_iff_eq] at h2
  rw [h2.2] at h3
  have h4 : (b == a) = false := by rw [beq_eq_false_iff_ne]; exact fun e => hab e.symm
  rw [h4] at h3
  cases h : fs.any fun f => f (lowN (alike fs) a) != f (lowN (alike fs) b)
  · rw [List.any_eq_false] at h
    exfalso
    have : alike fs (lowN (alike fs) a) (lowN (alike fs) b) = true := by
      unfold alike at *
      rw [List.all_eq_true]
      intro f hf
      have := h f hf
      simpa using this
    rw [this] at h3; cases h3
  · rfl
/-- Whether one of the first k sets tells them apart. -/
def apF (fs : List (Nat → Bool)) (x y k : Nat) : Bool := (fs.take k).any fun f => f x != f y
theorem apF_zero (fs : List (Nat → Bool)) (x y : Nat) : apF fs x y 0 = false := by simp [apF]
theorem apF_succ {fs : List (Nat → Bool)} {x y k : Nat} (h : k < fs.length) : apF fs x y (k + 1) = (apF fs x y k || (fs[k] x != fs[k] y)) := by
  unfold apF
  rw [List.take_succ_eq_append_getElem h, List.any_append]
  simp
theorem apF_all (fs : List (Nat → Bool)) (x y : Nat) : apF fs x y fs.length = fs.any fun f => f x != f y := by simp [apF]

def KF (w : World) (B i : Nat) (s : Nat → Bool) (g j : Nat) (c : Nat → Bool) (W : World) : Prop := At4 W B i s ∧ At4 W g j c ∧ Below w.heap.size w W
theorem KF.up (w : World) (B i : Nat) (s : Nat → Bool) (g j : Nat) (c : Nat → Bool) : Up (KF w B i s g j c) := fun W W' ⟨h1, h2, h3⟩ hr => ⟨h1.below hr, h2.below hr, h3.trans (hr.mono h3.size)⟩
def KH (w : World) (X : Nat) (m : Nat → Bool) (g j : Nat) (c : Nat → Bool) (W : World) : Prop := HoldsS W X m ∧ At4 W g j c ∧ Below w.heap.size w W
theorem KH.up (w : World) (X : Nat) (m : Nat → Bool) (g j : Nat) (c : Nat → Bool) : Up (KH w X m g j c) := fun W W' ⟨h1, h2, h3⟩ hr => ⟨h1.below hr, h2.below hr, h3.trans (hr.mono h3.size)⟩
def KL (w : World) (B i : Nat) (s : Nat → Bool) (g x a y b : Nat) (W : World) : Prop := At4 W B i s ∧ W.cell? ⟨g, a, none⟩ = some (.int .u8 (x : Int)) ∧ W.cell? ⟨g, b, none⟩ = some (.int .u8 (y : Int)) ∧ Below w.heap.size w W
theorem KL.up (w : World) (B i : Nat) (s : Nat → Bool) (g x a y b : Nat) : Up (KL w B i s g x a y b) := fun W W' ⟨h1, h2, h3, h4⟩ hr => ⟨h1.below hr, (hr.cell (World.block_lt_of_cell? _ _ h2)).trans h2, (hr.cell (World.block_lt_of_cell? _ _ h3)).trans h3, h4.trans (hr.mono h4.size)⟩
/-- A box of a set, made behind w. -/
def IsBox (w : World) (v : Value) (W : World) : Prop := ∃ X, v = .pointer (some ⟨X, 0, none⟩) ∧ HoldsS W X emptyF ∧ w.heap.size ≤ X
theorem isBox_up (w : World) (v : Value) : Up (IsBox w v) := fun W W' ⟨X, h1, h2, h3⟩ hr => ⟨X, h1, h2.below hr, h3⟩
theorem IsBox.new {w W : World} {t : TypeId} (h : w.heap.size ≤ W.heap.size) : IsBox w (.pointer (some ⟨W.heap.size, 0, none⟩)) (W.alloc (.cells #[.int .u64 0, .int .u64 0, .int .u64 0, .int .u64 0] t)) := ⟨_, rfl, HoldsS.zero _ _, h⟩
theorem At4.put {W : World} {B i X : Nat} {g m : Nat → Bool} (h : At4 W B i g) (hne : X ≠ B) : At4 (put4 W X m) B i g := by
  obtain ⟨h0, h1, h2, h3⟩ := h
  have c : ∀ (Y : World) (k j : Nat) (v : Value), (Y.setCell ⟨X, k, none⟩ v).cell? ⟨B, j, none⟩ = Y.cell? ⟨B, j, none⟩ := fun Y k j v =>
    World.cell?_setCell_other Y ⟨X, k, none⟩ ⟨B, j, none⟩ v (fun e => hne (by injection e))
  refine ⟨?_, ?_, ?_, ?_⟩
  · rw [c, c, c, c]; exact h0
  · rw [c, c, c, c]; exact h1
  · rw [c, c, c, c]; exact h2
  · rw [c, c, c, c]; exact h3
/-- The bytes that a call owns. -/
theorem low_at {w : World} {base : Nat} {v : Value} {n : Nat} {E : Nat → Nat → Bool} (h : w.ownsRow base 5 1 v n (lowL E n)) (hn : 0 < n) : ∃ g cap, v = .slice (some ⟨g, 0, none⟩) n cap ∧ ∀ k, k < n → w.cell? ⟨g, k, none⟩ = some (.int .u8 (lowN E k : Nat)) := by
  rcases h.2 with ⟨_, h1⟩ | ⟨g, cap, cur, rfl, _⟩
  · omega
  · refine ⟨g, cap, rfl, fun k hk => ?_⟩
    rw [h.cellAt k (by omega)]
    simp [lowL, hk]

set_option maxRecDepth 100000 in
set_option maxHeartbeats 4000000 in
theorem PartsFiner_any {w : World} {v : Value} {fs : List (Nat → Bool)} (h : SSl w v fs) (he : Env w) : Calls Tryd.prog 4 #[v] w fun e w' => e = .returned (.bool true) ∧ Below w.heap.size w w' := by
  have HKN := Lib.hid (fun W => knows_any W)
  have HENV := Lib.hid he; clear he
  obtain ⟨a, cap, rfl, h1, h2, hs⟩ := h.shape
  obtain ⟨L, hL⟩ : ∃ L, L = fs.length := ⟨_, rfl⟩
  by_cases hbig : 100 < L
  · rw [← hL]
    have t0 : decide ((100 : Int) < (L : Int)) = true := by simp; omega
    have t1 : (100 : Int) < (L : Int) := by omega
    clear h h1 h2 hs hL hbig
    go_enter Tryd.func4, Tryd.ntmps4
    go_wp2_with fail
    refine (HKN.out _).mono ?_
    rintro e w1 ⟨rfl, hb⟩
    have HB := Lib.hid hb
    clear hb
    go_wp2_with fail
    go_ret
    exact ⟨rfl, HB.out⟩
  · have t0 : decide ((100 : Int) < (L : Int)) = false := by simp; omega
    have t1 : (L : Int) ≤ 100 := by omega
    have t2 : ¬ (100 : Int) < (L : Int) := by omega
    obtain ⟨Z, hZ, hz⟩ := zeroA
    have HZ := Lib.hid hZ
    have HO := Lib.hid (Of_any h (by omega))
    have HSS := Lib.hid h
    have HSH := Lib.hid hs
    have HLL := Lib.hid (show L ≤ 100 ∧ L = fs.length from ⟨by omega, hL⟩)
    have hEV := alike_eqv fs
    have HLO := Lib.hid (fun i (hi : i < rk (alike fs) 256) => low_spec hEV hi)
    have HCW := Lib.hid (fun k (hk : k < rk (alike fs) 256) f (hf : f ∈ fs) => cls_whole hk hf)
    have HAP := Lib.hid (fun a b (ha : a < rk (alike fs) 256) (hb : b < rk (alike fs) 256) (hab : a ≠ b) => low_apart ha hb hab)
    have hps := fun (C : Array Value) (hC : IsA C (nm (alike fs))) (W : World) => PSets_any hC (fun b hb => Nat.lt_of_le_of_lt (nm_le b) hb) W
    have hpl := fun (C : Array Value) (hC : IsA C (nm (alike fs))) (W : World) he => PLeasts_any hC (fun b hb => Nat.lt_of_le_of_lt (nm_le b) hb) W he
    rw [byKey_nm hEV] at hps hpl
    obtain ⟨E, hE⟩ : ∃ E, E = alike fs := ⟨_, rfl⟩
    rw [← hE] at hps hpl HLO HCW HAP HO hEV
    obtain ⟨n, hn⟩ : ∃ n, n = rk E 256 := ⟨_, rfl⟩
    have HN := Lib.hid (show n ≤ 256 ∧ 0 < n by rw [hn]; exact ⟨rk_le 256, rk_pos hEV⟩)
    rw [← hn] at hps hpl HO HLO HCW HAP
    have HPS := Lib.hid hps; have HPL := Lib.hid hpl
    rw [← hL] at HO ⊢
    clear h h1 h2 hs hL hbig hZ hn hE hEV hps hpl
    go_enter Tryd.func4, Tryd.ntmps4
    go_wp2_with fail
    refine HO.out.mono ?_
    rintro e wa ⟨Y, rfl, hY, hb1⟩
    have HY := Lib.hid hY
    have HB1 := Lib.hid (hb1.alloc hb1.size (.cells Y 22))
    have HA1 := Lib.hid (Ar.new wa Y 22)
    clear hY hb1
    go_wp2_with (first | (refine wpList_store_arr rfl 22 (.tmp 3) (.tmp 21) rfl rfl rfl (Ar.new wa Z 22) HZ.out.size HY.out infoA ?_; rw [World.setRow_alloc_new]) | (refine wpList_load_arr rfl 22 (.tmp 3) rfl rfl HA1.out HY.out.size Tryd.underlying22 infoA ?_))
    refine (HPS.out _ HY.out _).mono ?_
    rintro e w0 ⟨v', rfl, hown, hb2⟩
    obtain ⟨A3, hA3⟩ : ∃ A3, A3 = wa.heap.size := ⟨_, rfl⟩
    have ha3 := HA1.out.below hb2
    rw [← hA3] at ha3 ⊢
    have HA3 := Lib.hid ha3
    have HB0 := Lib.hid (HB1.out.trans (hb2.mono HB1.out.size))
    have hr4 := Row4.of hown HN.out.2 HN.out.1
    obtain ⟨g, cap2, hg1, _, hg2⟩ := hr4
    rw [clsL_length] at hg1
    have HG := Lib.hid (show ∀ k, k < n → At4 w0 g (k * 4) (cls E 256 k) from fun k hk => by
      have := hg2 k (by rw [clsL_length]; exact hk)
      rw [clsL_at] at this; exact this)
    subst hg1
    clear hA3 ha3 hown hb2 hg2 HA1 HB1 HPS HO
    have HS0 := Lib.hid (show ∀ i, i < L → ∃ B O f, a = some ⟨B, O, none⟩ ∧ f ∈ fs ∧ At4 w0 B (O + i * 4) f ∧ ∀ x y, apF fs x y (i + 1) = (apF fs x y i || (f x != f y)) from fun i hi => by
      have hi' : i < fs.length := by rw [← HLL.out.2]; exact hi
      rcases HSH.out with h0 | ⟨B, O, h1, h2⟩
      · rw [h0] at hi'; cases hi'
      · refine ⟨B, O, fs[i], h1, List.getElem_mem hi', At4.below (SetsO.at h2 hi') HB0.out, fun x y => apF_succ hi'⟩)
    clear HSH
    go_wp2_with fail
    go_loopw [6] (fun s wr => ∃ i : Nat, i ≤ L ∧ s = .int .i64 i ∧ Below w0.heap.size w0 wr) (fun s _ => L - (intOf s).toNat)
    case atStart => exact ⟨0, by omega, rfl, Below.refl _ _⟩
    case round =>
      obtain ⟨i, hi, rfl, hb⟩ := hrel
      by_cases hlt : i < L
      · have u0 : decide ((i : Int) < L) = true := by simp; omega
        have u1 : ¬ (L : Int) ≤ (i : Int) := by omega
        have hws := wrap_succ (k := i) (by have := HLL.out.1; omega)
        obtain ⟨B, O, s, rfl, hsm, hat, _⟩ := HS0.out i hlt
        have HAT := Lib.hid hat; have HSM := Lib.hid hsm; have HLT := Lib.hid hlt
        have hbb := hb
        have HBB := Lib.hid hbb
        clear hi hat hsm hlt hb hbb
        go_wp2_with fail
        go_loopw [7] (fun t wr => ∃ k : Nat, k ≤ n ∧ t = .int .i64 k ∧ Below w0.heap.size w0 wr) (fun t _ => n - (intOf t).toNat)
        case atStart => exact ⟨0, by omega, rfl, HBB.out⟩
        case round =>
          obtain ⟨k, hk, rfl, hb⟩ := hrel
          clear HBB
          by_cases hlt : k < n
          · have p0 : decide ((k : Int) < n) = true := by simp; omega
            have p1 : ¬ (n : Int) ≤ (k : Int) := by omega
            have hwk := wrap_succ (k := k) (by have := HN.out; omega)
            have hor := HCW.out k hlt s HSM.out
            have hgk := HG.out k hlt
            obtain ⟨c, hc⟩ : ∃ c, c = cls E 256 k := ⟨_, rfl⟩
            rw [← hc] at hor hgk
            obtain ⟨m, hm⟩ : ∃ m, m = meetF s c := ⟨_, rfl⟩
            rw [← hm] at hor
            have HME := Lib.hid (fun W => Meet_any s c W)
            rw [← hm] at HME
            have HK := Lib.hid (show KF w0 B (O + i * 4) s g (k * 4) c wr.drew from ⟨HAT.out.below hb.drew, hgk.below hb.drew, hb.drew⟩)
            have HKL := Lib.hid hlt; have HB := Lib.hid hb
            obtain ⟨b1, hb1⟩ : ∃ b1, b1 = (((wd m 0 : Nat) : Int) == ((wd c 0 : Nat) : Int) && ((((wd m 1 : Nat) : Int) == ((wd c 1 : Nat) : Int)) && ((((wd m 2 : Nat) : Int) == ((wd c 2 : Nat) : Int)) && (((wd m 3 : Nat) : Int) == ((wd c 3 : Nat) : Int))))) := ⟨_, rfl⟩
            obtain ⟨b2, hb2⟩ : ∃ b2, b2 = (((wd m 0 : Nat) : Int) == 0 && ((((wd m 1 : Nat) : Int) == 0) && ((((wd m 2 : Nat) : Int) == 0) && (((wd m 3 : Nat) : Int) == 0)))) := ⟨_, rfl⟩
            have hq1 := eqSet (wd m 0) (wd m 1) (wd m 2) (wd m 3) (wd c 0) (wd c 1) (wd c 2) (wd c 3)
            have hq2 := eqSet (wd m 0) (wd m 1) (wd m 2) (wd m 3) 0 0 0 0
            rw [← hb1] at hq1
            rw [← hb2] at hq2
            have HOR := Lib.hid (show b1 = true ∨ (b1 = false ∧ b2 = true) by
              rcases hor with h | h
              · left; rw [hb1, h]; simp
              · have : b2 = true := by rw [hb2, h]; simp [wd_empty]
                cases b1
                · exact .inr ⟨rfl, this⟩
                · exact .inl rfl)
            have HQ1 := Lib.hid hq1; have HQ2 := Lib.hid hq2
            clear hor hgk hc hm hlt hk hb hb1 hb2 hq1 hq2
            go_wp2_with fail
            refine wp_region_T 10 (by kernel_rfl) (by kernel_rfl) (KF.up w0 B (O + i * 4) s g (k * 4) c) HK.out ?_
            refine wpT_taken (i := 0) rfl (by kernel_rfl) (by kernel_rfl) (by kernel_rfl) (by kernel_rfl) (by kernel_rfl) (KF.up w0 B (O + i * 4) s g (k * 4) c) ?_
            apply Exists.intro
            refine ⟨Or.inl ⟨rfl, fun W hW => ?hy⟩, ?_⟩
            case hy =>
              obtain ⟨⟨c0, c1, c2, c3⟩, ⟨d0, d1, d2, d3⟩, hB⟩ := hW
              go_simp
              exact RegionU.does_value rfl
            simp only [Act.put, List.setIfInBounds_toArray, List.set]
            refine wpT_taken (i := 1) rfl (by kernel_rfl) (by kernel_rfl) (by kernel_rfl) (by kernel_rfl) (by kernel_rfl) (KF.up w0 B (O + i * 4) s g (k * 4) c) ?_
            apply Exists.intro
            refine ⟨Or.inl ⟨rfl, fun W hW => ?hy⟩, ?_⟩
            case hy =>
              obtain ⟨⟨c0, c1, c2, c3⟩, ⟨d0, d1, d2, d3⟩, hB⟩ := hW
              go_simp
              exact RegionU.does_value rfl
            simp only [Act.put, List.setIfInBounds_toArray, List.set]
            refine wpT_taken (i := 2) rfl (by kernel_rfl) (by kernel_rfl) (by kernel_rfl) (by kernel_rfl) (by kernel_rfl) (KF.up w0 B (O + i * 4) s g (k * 4) c) ?_
            apply Exists.intro
            refine ⟨Or.inl ⟨rfl, fun W hW => ?hy⟩, ?_⟩
            case hy =>
              obtain ⟨⟨c0, c1, c2, c3⟩, ⟨d0, d1, d2, d3⟩, hB⟩ := hW
              go_simp
              exact RegionU.does_value rfl
            simp only [Act.put, List.setIfInBounds_toArray, List.set]
            refine wpT_taken (i := 3) rfl (by kernel_rfl) (by kernel_rfl) (by kernel_rfl) (by kernel_rfl) (by kernel_rfl) (KF.up w0 B (O + i * 4) s g (k * 4) c) ?_
            apply Exists.intro
            refine ⟨Or.inl ⟨rfl, fun W hW => ?hy⟩, ?_⟩
            case hy =>
              obtain ⟨⟨c0, c1, c2, c3⟩, ⟨d0, d1, d2, d3⟩, hB⟩ := hW
              go_simp
              exact RegionU.does_value rfl
            simp only [Act.put, List.setIfInBounds_toArray, List.set]
            refine wpT_taken (i := 4) rfl (by kernel_rfl) (by kernel_rfl) (by kernel_rfl) (by kernel_rfl) (by kernel_rfl) (KF.up w0 B (O + i * 4) s g (k * 4) c) ?_
            apply Exists.intro
            refine ⟨Or.inl ⟨rfl, fun W hW => ?hy⟩, ?_⟩
            case hy =>
              obtain ⟨⟨c0, c1, c2, c3⟩, ⟨d0, d1, d2, d3⟩, hB⟩ := hW
              go_simp
              exact RegionU.does_value rfl
            simp only [Act.put, List.setIfInBounds_toArray, List.set]
            refine wpT_taken (i := 5) rfl (by kernel_rfl) (by kernel_rfl) (by kernel_rfl) (by kernel_rfl) (by kernel_rfl) (KF.up w0 B (O + i * 4) s g (k * 4) c) ?_
            apply Exists.intro
            refine ⟨Or.inl ⟨rfl, fun W hW => ?hy⟩, ?_⟩
            case hy =>
              obtain ⟨⟨c0, c1, c2, c3⟩, ⟨d0, d1, d2, d3⟩, hB⟩ := hW
              go_simp
              exact RegionU.does_value rfl
            simp only [Act.put, List.setIfInBounds_toArray, List.set]
            refine wpT_taken (i := 6) rfl (by kernel_rfl) (by kernel_rfl) (by kernel_rfl) (by kernel_rfl) (by kernel_rfl) (KF.up w0 B (O + i * 4) s g (k * 4) c) ?_
            apply Exists.intro
            refine ⟨Or.inl ⟨rfl, fun W hW => ?hy⟩, ?_⟩
            case hy =>
              obtain ⟨⟨c0, c1, c2, c3⟩, ⟨d0, d1, d2, d3⟩, hB⟩ := hW
              go_simp
              exact RegionU.does_value rfl
            simp only [Act.put, List.setIfInBounds_toArray, List.set]
            refine wpT_taken (i := 7) rfl (by kernel_rfl) (by kernel_rfl) (by kernel_rfl) (by kernel_rfl) (by kernel_rfl) (KF.up w0 B (O + i * 4) s g (k * 4) c) ?_
            apply Exists.intro
            refine ⟨Or.inl ⟨rfl, fun W hW => ?hy⟩, ?_⟩
            case hy =>
              obtain ⟨⟨c0, c1, c2, c3⟩, ⟨d0, d1, d2, d3⟩, hB⟩ := hW
              go_simp
              exact RegionU.does_value rfl
            simp only [Act.put, List.setIfInBounds_toArray, List.set]
            refine wpT_taken (i := 8) rfl (by kernel_rfl) (by kernel_rfl) (by kernel_rfl) (by kernel_rfl) (by kernel_rfl) (KF.up w0 B (O + i * 4) s g (k * 4) c) ?_
            apply Exists.intro
            refine ⟨Or.inl ⟨rfl, fun W hW => ?hy⟩, ?_⟩
            case hy =>
              obtain ⟨⟨c0, c1, c2, c3⟩, ⟨d0, d1, d2, d3⟩, hB⟩ := hW
              go_simp
              exact RegionU.does_call (HME.out W)
            simp only [Act.put, List.setIfInBounds_toArray, List.set]
            refine wpT_one (i := 9) (by kernel_rfl) (by kernel_rfl) rfl rfl (IsBox w0) (isBox_up w0) (fun W hW => ?hy) ?_
            case hy =>
              obtain ⟨⟨c0, c1, c2, c3⟩, ⟨d0, d1, d2, d3⟩, hB⟩ := hW
              go_simp
              exact RegionU.does_made (IsBox.new hB.size) ((Below.refl _ _).alloc (Nat.le_refl _) _)
            intro u
            simp only [Act.put, List.setIfInBounds_toArray, List.set]
            refine wpT_done (by kernel_rfl) ?_
            intro W hW
            obtain ⟨⟨_, hgk, hB0⟩, X, rfl, hX, hXl⟩ := hW
            have c0 := hX.c0; have c1 := hX.c1; have c2 := hX.c2; have c3 := hX.c3; have z0 := hX.z0; have z1 := hX.z1; have z2 := hX.z2; have z3 := hX.z3
            have hgl : g < w0.heap.size := World.block_lt_of_cell? _ _ (HG.out k HKL.out).1
            have HW := Lib.hid (show KH w0 X m g (k * 4) c (put4 W X m).drew from ⟨(hX.store m).drew, (At4.put hgk (by omega)).below (Below.refl _ _).drew, (below_put4 hB0 hXl m).drew⟩)
            clear hgk hB0 hX hXl hgl
            go_wp2_with fail
            rcases HOR.out with rfl | ⟨rfl, rfl⟩
            · refine wp_region_U (by kernel_rfl) (KH.up w0 X m g (k * 4) c) HW.out ?_
              refine wpU_taken (i := 0) rfl (by kernel_rfl) (by kernel_rfl) (by kernel_rfl) (KH.up w0 X m g (k * 4) c) ?_
              apply Exists.intro
              refine ⟨Or.inl ⟨rfl, fun W hW => ?hy⟩, ?_⟩
              case hy =>
                obtain ⟨hH, ⟨d0, d1, d2, d3⟩, hB⟩ := hW
                have c0 := hH.c0; have c1 := hH.c1; have c2 := hH.c2; have c3 := hH.c3
                go_simp
                exact RegionU.does_value rfl
              simp only [Act.put, List.setIfInBounds_toArray, List.set]
              refine wpU_taken (i := 1) rfl (by kernel_rfl) (by kernel_rfl) (by kernel_rfl) (KH.up w0 X m g (k * 4) c) ?_
              apply Exists.intro
              refine ⟨Or.inl ⟨rfl, fun W hW => ?hy⟩, ?_⟩
              case hy =>
                obtain ⟨hH, ⟨d0, d1, d2, d3⟩, hB⟩ := hW
                have c0 := hH.c0; have c1 := hH.c1; have c2 := hH.c2; have c3 := hH.c3
                go_simp
                exact RegionU.does_value rfl
              simp only [Act.put, List.setIfInBounds_toArray, List.set]
              refine wpU_taken (i := 2) rfl (by kernel_rfl) (by kernel_rfl) (by kernel_rfl) (KH.up w0 X m g (k * 4) c) ?_
              apply Exists.intro
              refine ⟨Or.inl ⟨rfl, fun W hW => ?hy⟩, ?_⟩
              case hy =>
                obtain ⟨hH, ⟨d0, d1, d2, d3⟩, hB⟩ := hW
                have c0 := hH.c0; have c1 := hH.c1; have c2 := hH.c2; have c3 := hH.c3
                go_simp
                exact RegionU.does_value rfl
              simp only [Act.put, List.setIfInBounds_toArray, List.set]
              refine wpU_taken (i := 3) rfl (by kernel_rfl) (by kernel_rfl) (by kernel_rfl) (KH.up w0 X m g (k * 4) c) ?_
              apply Exists.intro
              refine ⟨Or.inl ⟨rfl, fun W hW => ?hy⟩, ?_⟩
              case hy =>
                obtain ⟨hH, ⟨d0, d1, d2, d3⟩, hB⟩ := hW
                have c0 := hH.c0; have c1 := hH.c1; have c2 := hH.c2; have c3 := hH.c3
                go_simp
                exact RegionU.does_value rfl
              simp only [Act.put, List.setIfInBounds_toArray, List.set]
              refine wpU_taken (i := 4) rfl (by kernel_rfl) (by kernel_rfl) (by kernel_rfl) (KH.up w0 X m g (k * 4) c) ?_
              apply Exists.intro
              refine ⟨Or.inl ⟨rfl, fun W hW => ?hy⟩, ?_⟩
              case hy =>
                obtain ⟨hH, ⟨d0, d1, d2, d3⟩, hB⟩ := hW
                have c0 := hH.c0; have c1 := hH.c1; have c2 := hH.c2; have c3 := hH.c3
                go_simp
                exact RegionU.does_value rfl
              simp only [Act.put, List.setIfInBounds_toArray, List.set]
              refine wpU_taken (i := 5) rfl (by kernel_rfl) (by kernel_rfl) (by kernel_rfl) (KH.up w0 X m g (k * 4) c) ?_
              apply Exists.intro
              refine ⟨Or.inl ⟨rfl, fun W hW => ?hy⟩, ?_⟩
              case hy =>
                obtain ⟨hH, ⟨d0, d1, d2, d3⟩, hB⟩ := hW
                have c0 := hH.c0; have c1 := hH.c1; have c2 := hH.c2; have c3 := hH.c3
                have hq := HQ1.out
                go_simp
                exact RegionU.does_value rfl
              simp only [Act.put, List.setIfInBounds_toArray, List.set]
              refine wpU_taken (i := 6) rfl (by kernel_rfl) (by kernel_rfl) (by kernel_rfl) (KH.up w0 X m g (k * 4) c) ?_
              apply Exists.intro
              refine ⟨Or.inl ⟨rfl, fun W hW => ?hy⟩, ?_⟩
              case hy =>
                obtain ⟨hH, ⟨d0, d1, d2, d3⟩, hB⟩ := hW
                have c0 := hH.c0; have c1 := hH.c1; have c2 := hH.c2; have c3 := hH.c3
                go_simp
                exact RegionU.does_value rfl
              simp only [Act.put, List.setIfInBounds_toArray, List.set]
              refine wpU_taken (i := 7) rfl (by kernel_rfl) (by kernel_rfl) (by kernel_rfl) (KH.up w0 X m g (k * 4) c) ?_
              apply Exists.intro
              refine ⟨Or.inr ⟨rfl, rfl⟩, ?_⟩
              simp only [Act.put, List.setIfInBounds_toArray, List.set]
              refine wpU_taken (i := 8) rfl (by kernel_rfl) (by kernel_rfl) (by kernel_rfl) (KH.up w0 X m g (k * 4) c) ?_
              apply Exists.intro
              refine ⟨Or.inr ⟨rfl, rfl⟩, ?_⟩
              simp only [Act.put, List.setIfInBounds_toArray, List.set]
              refine wpU_taken (i := 9) rfl (by kernel_rfl) (by kernel_rfl) (by kernel_rfl) (KH.up w0 X m g (k * 4) c) ?_
              apply Exists.intro
              refine ⟨Or.inr ⟨rfl, rfl⟩, ?_⟩
              simp only [Act.put, List.setIfInBounds_toArray, List.set]
              refine wpU_taken (i := 10) rfl (by kernel_rfl) (by kernel_rfl) (by kernel_rfl) (KH.up w0 X m g (k * 4) c) ?_
              apply Exists.intro
              refine ⟨Or.inl ⟨rfl, fun W hW => ?hy⟩, ?_⟩
              case hy =>
                obtain ⟨hH, ⟨d0, d1, d2, d3⟩, hB⟩ := hW
                have c0 := hH.c0; have c1 := hH.c1; have c2 := hH.c2; have c3 := hH.c3
                go_simp
                exact RegionU.does_value rfl
              simp only [Act.put, List.setIfInBounds_toArray, List.set]
              refine wpU_done (by kernel_rfl) ?_
              rintro W ⟨-, -, hB⟩
              have HB := Lib.hid hB
              clear hB
              go_wp2_with fail
              try rw [hwk]
              exact ⟨⟨k + 1, HKL.out, rfl, HB.out⟩, by have := HKL.out; simp [intOf]; omega⟩
            · refine wp_region_U (by kernel_rfl) (KH.up w0 X m g (k * 4) c) HW.out ?_
              refine wpU_taken (i := 0) rfl (by kernel_rfl) (by kernel_rfl) (by kernel_rfl) (KH.up w0 X m g (k * 4) c) ?_
              apply Exists.intro
              refine ⟨Or.inl ⟨rfl, fun W hW => ?hy⟩, ?_⟩
              case hy =>
                obtain ⟨hH, ⟨d0, d1, d2, d3⟩, hB⟩ := hW
                have c0 := hH.c0; have c1 := hH.c1; have c2 := hH.c2; have c3 := hH.c3
                go_simp
                exact RegionU.does_value rfl
              simp only [Act.put, List.setIfInBounds_toArray, List.set]
              refine wpU_taken (i := 1) rfl (by kernel_rfl) (by kernel_rfl) (by kernel_rfl) (KH.up w0 X m g (k * 4) c) ?_
              apply Exists.intro
              refine ⟨Or.inl ⟨rfl, fun W hW => ?hy⟩, ?_⟩
              case hy =>
                obtain ⟨hH, ⟨d0, d1, d2, d3⟩, hB⟩ := hW
                have c0 := hH.c0; have c1 := hH.c1; have c2 := hH.c2; have c3 := hH.c3
                go_simp
                exact RegionU.does_value rfl
              simp only [Act.put, List.setIfInBounds_toArray, List.set]
              refine wpU_taken (i := 2) rfl (by kernel_rfl) (by kernel_rfl) (by kernel_rfl) (KH.up w0 X m g (k * 4) c) ?_
              apply Exists.intro
              refine ⟨Or.inl ⟨rfl, fun W hW => ?hy⟩, ?_⟩
              case hy =>
                obtain ⟨hH, ⟨d0, d1, d2, d3⟩, hB⟩ := hW
                have c0 := hH.c0; have c1 := hH.c1; have c2 := hH.c2; have c3 := hH.c3
                go_simp
                exact RegionU.does_value rfl
              simp only [Act.put, List.setIfInBounds_toArray, List.set]
              refine wpU_taken (i := 3) rfl (by kernel_rfl) (by kernel_rfl) (by kernel_rfl) (KH.up w0 X m g (k * 4) c) ?_
              apply Exists.intro
              refine ⟨Or.inl ⟨rfl, fun W hW => ?hy⟩, ?_⟩
              case hy =>
                obtain ⟨hH, ⟨d0, d1, d2, d3⟩, hB⟩ := hW
                have c0 := hH.c0; have c1 := hH.c1; have c2 := hH.c2; have c3 := hH.c3
                go_simp
                exact RegionU.does_value rfl
              simp only [Act.put, List.setIfInBounds_toArray, List.set]
              refine wpU_taken (i := 4) rfl (by kernel_rfl) (by kernel_rfl) (by kernel_rfl) (KH.up w0 X m g (k * 4) c) ?_
              apply Exists.intro
              refine ⟨Or.inl ⟨rfl, fun W hW => ?hy⟩, ?_⟩
              case hy =>
                obtain ⟨hH, ⟨d0, d1, d2, d3⟩, hB⟩ := hW
                have c0 := hH.c0; have c1 := hH.c1; have c2 := hH.c2; have c3 := hH.c3
                go_simp
                exact RegionU.does_value rfl
              simp only [Act.put, List.setIfInBounds_toArray, List.set]
              refine wpU_taken (i := 5) rfl (by kernel_rfl) (by kernel_rfl) (by kernel_rfl) (KH.up w0 X m g (k * 4) c) ?_
              apply Exists.intro
              refine ⟨Or.inl ⟨rfl, fun W hW => ?hy⟩, ?_⟩
              case hy =>
                obtain ⟨hH, ⟨d0, d1, d2, d3⟩, hB⟩ := hW
                have c0 := hH.c0; have c1 := hH.c1; have c2 := hH.c2; have c3 := hH.c3
                have hq := HQ1.out
                go_simp
                exact RegionU.does_value rfl
              simp only [Act.put, List.setIfInBounds_toArray, List.set]
              refine wpU_taken (i := 6) rfl (by kernel_rfl) (by kernel_rfl) (by kernel_rfl) (KH.up w0 X m g (k * 4) c) ?_
              apply Exists.intro
              refine ⟨Or.inl ⟨rfl, fun W hW => ?hy⟩, ?_⟩
              case hy =>
                obtain ⟨hH, ⟨d0, d1, d2, d3⟩, hB⟩ := hW
                have c0 := hH.c0; have c1 := hH.c1; have c2 := hH.c2; have c3 := hH.c3
                go_simp
                exact RegionU.does_value rfl
              simp only [Act.put, List.setIfInBounds_toArray, List.set]
              refine wpU_taken (i := 7) rfl (by kernel_rfl) (by kernel_rfl) (by kernel_rfl) (KH.up w0 X m g (k * 4) c) ?_
              apply Exists.intro
              refine ⟨Or.inl ⟨rfl, fun W hW => ?hy⟩, ?_⟩
              case hy =>
                obtain ⟨hH, ⟨d0, d1, d2, d3⟩, hB⟩ := hW
                have c0 := hH.c0; have c1 := hH.c1; have c2 := hH.c2; have c3 := hH.c3
                go_simp
                exact RegionU.does_value rfl
              simp only [Act.put, List.setIfInBounds_toArray, List.set]
              refine wpU_taken (i := 8) rfl (by kernel_rfl) (by kernel_rfl) (by kernel_rfl) (KH.up w0 X m g (k * 4) c) ?_
              apply Exists.intro
              refine ⟨Or.inl ⟨rfl, fun W hW => ?hy⟩, ?_⟩
              case hy =>
                obtain ⟨hH, ⟨d0, d1, d2, d3⟩, hB⟩ := hW
                have c0 := hH.c0; have c1 := hH.c1; have c2 := hH.c2; have c3 := hH.c3
                go_simp
                exact RegionU.does_value rfl
              simp only [Act.put, List.setIfInBounds_toArray, List.set]
              refine wpU_taken (i := 9) rfl (by kernel_rfl) (by kernel_rfl) (by kernel_rfl) (KH.up w0 X m g (k * 4) c) ?_
              apply Exists.intro
              refine ⟨Or.inl ⟨rfl, fun W hW => ?hy⟩, ?_⟩
              case hy =>
                obtain ⟨hH, ⟨d0, d1, d2, d3⟩, hB⟩ := hW
                have c0 := hH.c0; have c1 := hH.c1; have c2 := hH.c2; have c3 := hH.c3
                have hq := HQ2.out
                go_simp
                exact RegionU.does_value rfl
              simp only [Act.put, List.setIfInBounds_toArray, List.set]
              refine wpU_taken (i := 10) rfl (by kernel_rfl) (by kernel_rfl) (by kernel_rfl) (KH.up w0 X m g (k * 4) c) ?_
              apply Exists.intro
              refine ⟨Or.inl ⟨rfl, fun W hW => ?hy⟩, ?_⟩
              case hy =>
                obtain ⟨hH, ⟨d0, d1, d2, d3⟩, hB⟩ := hW
                have c0 := hH.c0; have c1 := hH.c1; have c2 := hH.c2; have c3 := hH.c3
                go_simp
                exact RegionU.does_value rfl
              simp only [Act.put, List.setIfInBounds_toArray, List.set]
              refine wpU_done (by kernel_rfl) ?_
              rintro W ⟨-, -, hB⟩
              have HB := Lib.hid hB
              clear hB
              go_wp2_with fail
              try rw [hwk]
              exact ⟨⟨k + 1, HKL.out, rfl, HB.out⟩, by have := HKL.out; simp [intOf]; omega⟩
          · obtain rfl : k = n := by omega
            have HB := Lib.hid hb
            clear hlt hk hb
            go_wp2_with fail
            try rw [hws]
            exact ⟨⟨i + 1, HLT.out, rfl, HB.out⟩, by have := HLT.out; simp [intOf]; omega⟩
      · obtain rfl : L = i := by omega
        have hb3 := hb
        have HB := Lib.hid hb3
        have HA4 := Lib.hid (HA3.out.below hb3)
        clear hlt hi hb hb3
        go_wp2_with (first | (refine wpList_load_arr rfl 22 (.tmp 3) rfl rfl HA4.out HY.out.size Tryd.underlying22 infoA ?_))
        refine (HPL.out _ HY.out _ (HENV.out.below (HB0.out.trans (HB.out.mono HB0.out.size)))).mono ?_
        rintro e w1 ⟨v', rfl, hown, hb1⟩
        obtain ⟨g2, cap3, rfl, hlw⟩ := low_at hown HN.out.2
        have hb2 := HB.out.trans (hb1.mono HB.out.size)
        have HLW := Lib.hid hlw
        have HB1 := Lib.hid (HB0.out.trans (hb2.mono HB0.out.size))
        have HS1 := Lib.hid (show ∀ i, i < L → ∃ B O f, a = some ⟨B, O, none⟩ ∧ At4 w1 B (O + i * 4) f ∧ ∀ x y, apF fs x y (i + 1) = (apF fs x y i || (f x != f y)) from fun i hi => by
          obtain ⟨B, O, f, h1, _, h3, h4⟩ := HS0.out i hi
          exact ⟨B, O, f, h1, h3.below hb2, h4⟩)
        have HAL := Lib.hid (fun x y => show apF fs x y L = fs.any (fun f => f x != f y) by rw [HLL.out.2]; exact apF_all fs x y)
        clear hown hlw hb1 hb2 HS0 HA3 HA4 HB HB0 HG HPL HCW
        go_wp2_with fail
        go_loopw [10] (fun s wr => ∃ a' : Nat, a' ≤ n ∧ s = .int .i64 a' ∧ Below w1.heap.size w1 wr) (fun s _ => n - (intOf s).toNat)
        case atStart => exact ⟨0, by omega, rfl, Below.refl _ _⟩
        case round =>
          obtain ⟨a', ha, rfl, hb⟩ := hrel
          by_cases hlt : a' < n
          · have u0 : decide ((a' : Int) < n) = true := by simp; omega
            have u1 : ¬ (n : Int) ≤ (a' : Int) := by omega
            have hwa := wrap_succ (k := a') (by have := HN.out; omega)
            have HLA := Lib.hid hlt
            have HB := Lib.hid hb
            clear ha hlt hb
            go_wp2_with fail
            go_loopw [11] (fun t wr => ∃ b' : Nat, b' ≤ a' ∧ t = .int .i64 b' ∧ Below w1.heap.size w1 wr) (fun t _ => a' - (intOf t).toNat)
            case atStart => exact ⟨0, by omega, rfl, HB.out⟩
            case round =>
              obtain ⟨b', hb', rfl, hb⟩ := hrel
              clear HB
              by_cases hlt : b' < a'
              · have hbn : b' < n := by have := HLA.out; omega
                have p0 : decide ((b' : Int) < a') = true := by simp; omega
                have p1 : ¬ (a' : Int) ≤ (b' : Int) := by omega
                have p2 : ¬ (n : Int) ≤ (b' : Int) := by omega
                have hwb := wrap_succ (k := b') (by have := HN.out; omega)
                have hla := HLW.out a' HLA.out
                have hlb := HLW.out b' hbn
                have hap := HAP.out a' b' HLA.out hbn (by omega)
                have hx := (HLO.out a' HLA.out).2.1
                have hy := (HLO.out b' hbn).2.1
                obtain ⟨x, hx'⟩ : ∃ x, x = lowN E a' := ⟨_, rfl⟩
                obtain ⟨y, hy'⟩ : ∃ y, y = lowN E b' := ⟨_, rfl⟩
                rw [← hx'] at hla hap hx
                rw [← hy'] at hlb hap hy
                rw [← HAL.out x y] at hap
                have HX := Lib.hid hx; have HYY := Lib.hid hy; have HAPL := Lib.hid hap; have HB := Lib.hid hb; have HLB := Lib.hid hlt
                have HCA := Lib.hid hla; have HCB := Lib.hid hlb
                clear hx hy hap hb hlt hbn hla hlb hb' hx' hy'
                go_wp2_with fail
                go_loopw [12, 13] (fun p t wr => ∃ i : Nat, i ≤ L ∧ t = .int .i64 i ∧ p = .bool (apF fs x y i) ∧ Below w1.heap.size w1 wr) (fun _ t _ => L - (intOf t).toNat)
                case atStart => exact ⟨0, by omega, rfl, by rw [apF_zero], HB.out⟩
                case round =>
                  obtain ⟨i, hi, rfl, rfl, hb⟩ := hrel
                  clear HB
                  by_cases hlt : i < L
                  · have q0 : decide ((i : Int) < L) = true := by simp; omega
                    have q1 : ¬ (L : Int) ≤ (i : Int) := by omega
                    have hwi := wrap_succ (k := i) (by have := HLL.out.1; omega)
                    obtain ⟨B, O, s, rfl, hat, hst⟩ := HS1.out i hlt
                    have HST := Lib.hid (hst x y)
                    have HK := Lib.hid (show KL w1 B (O + i * 4) s g2 x a' y b' wr.drew from ⟨hat.below hb.drew, (hb.drew.cell (World.block_lt_of_cell? _ _ HCA.out)).trans HCA.out, (hb.drew.cell (World.block_lt_of_cell? _ _ HCB.out)).trans HCB.out, hb.drew⟩)
                    have HLI := Lib.hid hlt
                    obtain ⟨ap, hap⟩ : ∃ ap, ap = apF fs x y i := ⟨_, rfl⟩
                    rw [← hap] at HST ⊢
                    clear hi hb hlt hat hst hap
                    cases ap
                    · go_wp2_with fail
                      refine wp_region_U (by kernel_rfl) (KL.up w1 B (O + i * 4) s g2 x a' y b') HK.out ?_
                      refine wpU_taken (i := 0) rfl (by kernel_rfl) (by kernel_rfl) (by kernel_rfl) (KL.up w1 B (O + i * 4) s g2 x a' y b') ?_
                      apply Exists.intro
                      refine ⟨Or.inl ⟨rfl, fun W hW => ?hy⟩, ?_⟩
                      case hy =>
                        obtain ⟨⟨c0, c1, c2, c3⟩, k1, k2, hB⟩ := hW
                        go_simp
                        exact RegionU.does_value rfl
                      simp only [Act.put, List.setIfInBounds_toArray, List.set]
                      refine wpU_taken (i := 1) rfl (by kernel_rfl) (by kernel_rfl) (by kernel_rfl) (KL.up w1 B (O + i * 4) s g2 x a' y b') ?_
                      apply Exists.intro
                      refine ⟨Or.inl ⟨rfl, fun W hW => ?hy⟩, ?_⟩
                      case hy =>
                        obtain ⟨⟨c0, c1, c2, c3⟩, k1, k2, hB⟩ := hW
                        go_simp
                        exact RegionU.does_value rfl
                      simp only [Act.put, List.setIfInBounds_toArray, List.set]
                      refine wpU_taken (i := 2) rfl (by kernel_rfl) (by kernel_rfl) (by kernel_rfl) (KL.up w1 B (O + i * 4) s g2 x a' y b') ?_
                      apply Exists.intro
                      refine ⟨Or.inl ⟨rfl, fun W hW => ?hy⟩, ?_⟩
                      case hy =>
                        obtain ⟨⟨c0, c1, c2, c3⟩, k1, k2, hB⟩ := hW
                        go_simp
                        exact RegionU.does_value rfl
                      simp only [Act.put, List.setIfInBounds_toArray, List.set]
                      refine wpU_taken (i := 3) rfl (by kernel_rfl) (by kernel_rfl) (by kernel_rfl) (KL.up w1 B (O + i * 4) s g2 x a' y b') ?_
                      apply Exists.intro
                      refine ⟨Or.inl ⟨rfl, fun W hW => ?hy⟩, ?_⟩
                      case hy =>
                        obtain ⟨⟨c0, c1, c2, c3⟩, k1, k2, hB⟩ := hW
                        go_simp
                        exact RegionU.does_value rfl
                      simp only [Act.put, List.setIfInBounds_toArray, List.set]
                      refine wpU_taken (i := 4) rfl (by kernel_rfl) (by kernel_rfl) (by kernel_rfl) (KL.up w1 B (O + i * 4) s g2 x a' y b') ?_
                      apply Exists.intro
                      refine ⟨Or.inl ⟨rfl, fun W hW => ?hy⟩, ?_⟩
                      case hy =>
                        obtain ⟨⟨c0, c1, c2, c3⟩, k1, k2, hB⟩ := hW
                        go_simp
                        exact RegionU.does_value rfl
                      simp only [Act.put, List.setIfInBounds_toArray, List.set]
                      refine wpU_taken (i := 5) rfl (by kernel_rfl) (by kernel_rfl) (by kernel_rfl) (KL.up w1 B (O + i * 4) s g2 x a' y b') ?_
                      apply Exists.intro
                      refine ⟨Or.inl ⟨rfl, fun W hW => ?hy⟩, ?_⟩
                      case hy =>
                        obtain ⟨⟨c0, c1, c2, c3⟩, k1, k2, hB⟩ := hW
                        go_simp
                        exact RegionU.does_value rfl
                      simp only [Act.put, List.setIfInBounds_toArray, List.set]
                      refine wpU_taken (i := 6) rfl (by kernel_rfl) (by kernel_rfl) (by kernel_rfl) (KL.up w1 B (O + i * 4) s g2 x a' y b') ?_
                      apply Exists.intro
                      refine ⟨Or.inl ⟨rfl, fun W hW => ?hy⟩, ?_⟩
                      case hy =>
                        obtain ⟨⟨c0, c1, c2, c3⟩, k1, k2, hB⟩ := hW
                        go_simp
                        exact RegionU.does_value rfl
                      simp only [Act.put, List.setIfInBounds_toArray, List.set]
                      refine wpU_taken (i := 7) rfl (by kernel_rfl) (by kernel_rfl) (by kernel_rfl) (KL.up w1 B (O + i * 4) s g2 x a' y b') ?_
                      apply Exists.intro
                      refine ⟨Or.inl ⟨rfl, fun W hW => ?hy⟩, ?_⟩
                      case hy =>
                        obtain ⟨⟨c0, c1, c2, c3⟩, k1, k2, hB⟩ := hW
                        go_simp
                        exact RegionU.does_value rfl
                      simp only [Act.put, List.setIfInBounds_toArray, List.set]
                      refine wpU_taken (i := 8) rfl (by kernel_rfl) (by kernel_rfl) (by kernel_rfl) (KL.up w1 B (O + i * 4) s g2 x a' y b') ?_
                      apply Exists.intro
                      refine ⟨Or.inl ⟨rfl, fun W hW => ?hy⟩, ?_⟩
                      case hy =>
                        obtain ⟨⟨c0, c1, c2, c3⟩, k1, k2, hB⟩ := hW
                        go_simp
                        exact RegionU.does_value rfl
                      simp only [Act.put, List.setIfInBounds_toArray, List.set]
                      refine wpU_taken (i := 9) rfl (by kernel_rfl) (by kernel_rfl) (by kernel_rfl) (KL.up w1 B (O + i * 4) s g2 x a' y b') ?_
                      apply Exists.intro
                      refine ⟨Or.inl ⟨rfl, fun W hW => ?hy⟩, ?_⟩
                      case hy =>
                        obtain ⟨⟨c0, c1, c2, c3⟩, k1, k2, hB⟩ := hW
                        go_simp
                        exact RegionU.does_value rfl
                      simp only [Act.put, List.setIfInBounds_toArray, List.set]
                      refine wpU_taken (i := 10) rfl (by kernel_rfl) (by kernel_rfl) (by kernel_rfl) (KL.up w1 B (O + i * 4) s g2 x a' y b') ?_
                      apply Exists.intro
                      refine ⟨Or.inl ⟨rfl, fun W hW => ?hy⟩, ?_⟩
                      case hy =>
                        obtain ⟨⟨c0, c1, c2, c3⟩, k1, k2, hB⟩ := hW
                        go_simp
                        exact RegionU.does_call (Has_any s x HX.out W)
                      simp only [Act.put, List.setIfInBounds_toArray, List.set]
                      refine wpU_taken (i := 11) rfl (by kernel_rfl) (by kernel_rfl) (by kernel_rfl) (KL.up w1 B (O + i * 4) s g2 x a' y b') ?_
                      apply Exists.intro
                      refine ⟨Or.inl ⟨rfl, fun W hW => ?hy⟩, ?_⟩
                      case hy =>
                        obtain ⟨⟨c0, c1, c2, c3⟩, k1, k2, hB⟩ := hW
                        go_simp
                        exact RegionU.does_value rfl
                      simp only [Act.put, List.setIfInBounds_toArray, List.set]
                      refine wpU_taken (i := 12) rfl (by kernel_rfl) (by kernel_rfl) (by kernel_rfl) (KL.up w1 B (O + i * 4) s g2 x a' y b') ?_
                      apply Exists.intro
                      refine ⟨Or.inl ⟨rfl, fun W hW => ?hy⟩, ?_⟩
                      case hy =>
                        obtain ⟨⟨c0, c1, c2, c3⟩, k1, k2, hB⟩ := hW
                        go_simp
                        exact RegionU.does_value rfl
                      simp only [Act.put, List.setIfInBounds_toArray, List.set]
                      refine wpU_taken (i := 13) rfl (by kernel_rfl) (by kernel_rfl) (by kernel_rfl) (KL.up w1 B (O + i * 4) s g2 x a' y b') ?_
                      apply Exists.intro
                      refine ⟨Or.inl ⟨rfl, fun W hW => ?hy⟩, ?_⟩
                      case hy =>
                        obtain ⟨⟨c0, c1, c2, c3⟩, k1, k2, hB⟩ := hW
                        go_simp
                        exact RegionU.does_value rfl
                      simp only [Act.put, List.setIfInBounds_toArray, List.set]
                      refine wpU_taken (i := 14) rfl (by kernel_rfl) (by kernel_rfl) (by kernel_rfl) (KL.up w1 B (O + i * 4) s g2 x a' y b') ?_
                      apply Exists.intro
                      refine ⟨Or.inl ⟨rfl, fun W hW => ?hy⟩, ?_⟩
                      case hy =>
                        obtain ⟨⟨c0, c1, c2, c3⟩, k1, k2, hB⟩ := hW
                        go_simp
                        exact RegionU.does_value rfl
                      simp only [Act.put, List.setIfInBounds_toArray, List.set]
                      refine wpU_taken (i := 15) rfl (by kernel_rfl) (by kernel_rfl) (by kernel_rfl) (KL.up w1 B (O + i * 4) s g2 x a' y b') ?_
                      apply Exists.intro
                      refine ⟨Or.inl ⟨rfl, fun W hW => ?hy⟩, ?_⟩
                      case hy =>
                        obtain ⟨⟨c0, c1, c2, c3⟩, k1, k2, hB⟩ := hW
                        go_simp
                        exact RegionU.does_value rfl
                      simp only [Act.put, List.setIfInBounds_toArray, List.set]
                      refine wpU_taken (i := 16) rfl (by kernel_rfl) (by kernel_rfl) (by kernel_rfl) (KL.up w1 B (O + i * 4) s g2 x a' y b') ?_
                      apply Exists.intro
                      refine ⟨Or.inl ⟨rfl, fun W hW => ?hy⟩, ?_⟩
                      case hy =>
                        obtain ⟨⟨c0, c1, c2, c3⟩, k1, k2, hB⟩ := hW
                        go_simp
                        exact RegionU.does_value rfl
                      simp only [Act.put, List.setIfInBounds_toArray, List.set]
                      refine wpU_taken (i := 17) rfl (by kernel_rfl) (by kernel_rfl) (by kernel_rfl) (KL.up w1 B (O + i * 4) s g2 x a' y b') ?_
                      apply Exists.intro
                      refine ⟨Or.inl ⟨rfl, fun W hW => ?hy⟩, ?_⟩
                      case hy =>
                        obtain ⟨⟨c0, c1, c2, c3⟩, k1, k2, hB⟩ := hW
                        go_simp
                        exact RegionU.does_value rfl
                      simp only [Act.put, List.setIfInBounds_toArray, List.set]
                      refine wpU_taken (i := 18) rfl (by kernel_rfl) (by kernel_rfl) (by kernel_rfl) (KL.up w1 B (O + i * 4) s g2 x a' y b') ?_
                      apply Exists.intro
                      refine ⟨Or.inl ⟨rfl, fun W hW => ?hy⟩, ?_⟩
                      case hy =>
                        obtain ⟨⟨c0, c1, c2, c3⟩, k1, k2, hB⟩ := hW
                        go_simp
                        exact RegionU.does_value rfl
                      simp only [Act.put, List.setIfInBounds_toArray, List.set]
                      refine wpU_taken (i := 19) rfl (by kernel_rfl) (by kernel_rfl) (by kernel_rfl) (KL.up w1 B (O + i * 4) s g2 x a' y b') ?_
                      apply Exists.intro
                      refine ⟨Or.inl ⟨rfl, fun W hW => ?hy⟩, ?_⟩
                      case hy =>
                        obtain ⟨⟨c0, c1, c2, c3⟩, k1, k2, hB⟩ := hW
                        go_simp
                        exact RegionU.does_call (Has_any s y HYY.out W)
                      simp only [Act.put, List.setIfInBounds_toArray, List.set]
                      refine wpU_taken (i := 20) rfl (by kernel_rfl) (by kernel_rfl) (by kernel_rfl) (KL.up w1 B (O + i * 4) s g2 x a' y b') ?_
                      apply Exists.intro
                      refine ⟨Or.inl ⟨rfl, fun W hW => ?hy⟩, ?_⟩
                      case hy =>
                        obtain ⟨⟨c0, c1, c2, c3⟩, k1, k2, hB⟩ := hW
                        go_simp
                        exact RegionU.does_value rfl
                      simp only [Act.put, List.setIfInBounds_toArray, List.set]
                      refine wpU_taken (i := 21) rfl (by kernel_rfl) (by kernel_rfl) (by kernel_rfl) (KL.up w1 B (O + i * 4) s g2 x a' y b') ?_
                      apply Exists.intro
                      refine ⟨Or.inl ⟨rfl, fun W hW => ?hy⟩, ?_⟩
                      case hy =>
                        obtain ⟨⟨c0, c1, c2, c3⟩, k1, k2, hB⟩ := hW
                        go_simp
                        exact RegionU.does_value rfl
                      simp only [Act.put, List.setIfInBounds_toArray, List.set]
                      refine wpU_taken (i := 22) rfl (by kernel_rfl) (by kernel_rfl) (by kernel_rfl) (KL.up w1 B (O + i * 4) s g2 x a' y b') ?_
                      apply Exists.intro
                      refine ⟨Or.inl ⟨rfl, fun W hW => ?hy⟩, ?_⟩
                      case hy =>
                        obtain ⟨⟨c0, c1, c2, c3⟩, k1, k2, hB⟩ := hW
                        go_simp
                        exact RegionU.does_value rfl
                      simp only [Act.put, List.setIfInBounds_toArray, List.set]
                      refine wpU_done (by kernel_rfl) ?_
                      rintro W ⟨-, -, -, hB⟩
                      have HB := Lib.hid hB
                      clear hB
                      go_wp2_with fail
                      try rw [hwi]
                      refine ⟨⟨i + 1, HLI.out, rfl, ?_, HB.out⟩, by have := HLI.out; simp [intOf]; omega⟩
                      rw [HST.out]
                      cases s x <;> cases s y <;> rfl
                    · go_wp2_with fail
                      refine wp_region_U (by kernel_rfl) (KL.up w1 B (O + i * 4) s g2 x a' y b') HK.out ?_
                      refine wpU_taken (i := 0) rfl (by kernel_rfl) (by kernel_rfl) (by kernel_rfl) (KL.up w1 B (O + i * 4) s g2 x a' y b') ?_
                      apply Exists.intro
                      refine ⟨Or.inl ⟨rfl, fun W hW => ?hy⟩, ?_⟩
                      case hy =>
                        obtain ⟨⟨c0, c1, c2, c3⟩, k1, k2, hB⟩ := hW
                        go_simp
                        exact RegionU.does_value rfl
                      simp only [Act.put, List.setIfInBounds_toArray, List.set]
                      refine wpU_taken (i := 1) rfl (by kernel_rfl) (by kernel_rfl) (by kernel_rfl) (KL.up w1 B (O + i * 4) s g2 x a' y b') ?_
                      apply Exists.intro
                      refine ⟨Or.inl ⟨rfl, fun W hW => ?hy⟩, ?_⟩
                      case hy =>
                        obtain ⟨⟨c0, c1, c2, c3⟩, k1, k2, hB⟩ := hW
                        go_simp
                        exact RegionU.does_value rfl
                      simp only [Act.put, List.setIfInBounds_toArray, List.set]
                      refine wpU_taken (i := 2) rfl (by kernel_rfl) (by kernel_rfl) (by kernel_rfl) (KL.up w1 B (O + i * 4) s g2 x a' y b') ?_
                      apply Exists.intro
                      refine ⟨Or.inr ⟨rfl, rfl⟩, ?_⟩
                      simp only [Act.put, List.setIfInBounds_toArray, List.set]
                      refine wpU_taken (i := 3) rfl (by kernel_rfl) (by kernel_rfl) (by kernel_rfl) (KL.up w1 B (O + i * 4) s g2 x a' y b') ?_
                      apply Exists.intro
                      refine ⟨Or.inr ⟨rfl, rfl⟩, ?_⟩
                      simp only [Act.put, List.setIfInBounds_toArray, List.set]
                      refine wpU_taken (i := 4) rfl (by kernel_rfl) (by kernel_rfl) (by kernel_rfl) (KL.up w1 B (O + i * 4) s g2 x a' y b') ?_
                      apply Exists.intro
                      refine ⟨Or.inr ⟨rfl, rfl⟩, ?_⟩
                      simp only [Act.put, List.setIfInBounds_toArray, List.set]
                      refine wpU_taken (i := 5) rfl (by kernel_rfl) (by kernel_rfl) (by kernel_rfl) (KL.up w1 B (O + i * 4) s g2 x a' y b') ?_
                      apply Exists.intro
                      refine ⟨Or.inr ⟨rfl, rfl⟩, ?_⟩
                      simp only [Act.put, List.setIfInBounds_toArray, List.set]
                      refine wpU_taken (i := 6) rfl (by kernel_rfl) (by kernel_rfl) (by kernel_rfl) (KL.up w1 B (O + i * 4) s g2 x a' y b') ?_
                      apply Exists.intro
                      refine ⟨Or.inr ⟨rfl, rfl⟩, ?_⟩
                      simp only [Act.put, List.setIfInBounds_toArray, List.set]
                      refine wpU_taken (i := 7) rfl (by kernel_rfl) (by kernel_rfl) (by kernel_rfl) (KL.up w1 B (O + i * 4) s g2 x a' y b') ?_
                      apply Exists.intro
                      refine ⟨Or.inr ⟨rfl, rfl⟩, ?_⟩
                      simp only [Act.put, List.setIfInBounds_toArray, List.set]
                      refine wpU_taken (i := 8) rfl (by kernel_rfl) (by kernel_rfl) (by kernel_rfl) (KL.up w1 B (O + i * 4) s g2 x a' y b') ?_
                      apply Exists.intro
                      refine ⟨Or.inr ⟨rfl, rfl⟩, ?_⟩
                      simp only [Act.put, List.setIfInBounds_toArray, List.set]
                      refine wpU_taken (i := 9) rfl (by kernel_rfl) (by kernel_rfl) (by kernel_rfl) (KL.up w1 B (O + i * 4) s g2 x a' y b') ?_
                      apply Exists.intro
                      refine ⟨Or.inr ⟨rfl, rfl⟩, ?_⟩
                      simp only [Act.put, List.setIfInBounds_toArray, List.set]
                      refine wpU_taken (i := 10) rfl (by kernel_rfl) (by kernel_rfl) (by kernel_rfl) (KL.up w1 B (O + i * 4) s g2 x a' y b') ?_
                      apply Exists.intro
                      refine ⟨Or.inr ⟨rfl, rfl⟩, ?_⟩
                      simp only [Act.put, List.setIfInBounds_toArray, List.set]
                      refine wpU_taken (i := 11) rfl (by kernel_rfl) (by kernel_rfl) (by kernel_rfl) (KL.up w1 B (O + i * 4) s g2 x a' y b') ?_
                      apply Exists.intro
                      refine ⟨Or.inr ⟨rfl, rfl⟩, ?_⟩
                      simp only [Act.put, List.setIfInBounds_toArray, List.set]
                      refine wpU_taken (i := 12) rfl (by kernel_rfl) (by kernel_rfl) (by kernel_rfl) (KL.up w1 B (O + i * 4) s g2 x a' y b') ?_
                      apply Exists.intro
                      refine ⟨Or.inr ⟨rfl, rfl⟩, ?_⟩
                      simp only [Act.put, List.setIfInBounds_toArray, List.set]
                      refine wpU_taken (i := 13) rfl (by kernel_rfl) (by kernel_rfl) (by kernel_rfl) (KL.up w1 B (O + i * 4) s g2 x a' y b') ?_
                      apply Exists.intro
                      refine ⟨Or.inr ⟨rfl, rfl⟩, ?_⟩
                      simp only [Act.put, List.setIfInBounds_toArray, List.set]
                      refine wpU_taken (i := 14) rfl (by kernel_rfl) (by kernel_rfl) (by kernel_rfl) (KL.up w1 B (O + i * 4) s g2 x a' y b') ?_
                      apply Exists.intro
                      refine ⟨Or.inr ⟨rfl, rfl⟩, ?_⟩
                      simp only [Act.put, List.setIfInBounds_toArray, List.set]
                      refine wpU_taken (i := 15) rfl (by kernel_rfl) (by kernel_rfl) (by kernel_rfl) (KL.up w1 B (O + i * 4) s g2 x a' y b') ?_
                      apply Exists.intro
                      refine ⟨Or.inr ⟨rfl, rfl⟩, ?_⟩
                      simp only [Act.put, List.setIfInBounds_toArray, List.set]
                      refine wpU_taken (i := 16) rfl (by kernel_rfl) (by kernel_rfl) (by kernel_rfl) (KL.up w1 B (O + i * 4) s g2 x a' y b') ?_
                      apply Exists.intro
                      refine ⟨Or.inr ⟨rfl, rfl⟩, ?_⟩
                      simp only [Act.put, List.setIfInBounds_toArray, List.set]
                      refine wpU_taken (i := 17) rfl (by kernel_rfl) (by kernel_rfl) (by kernel_rfl) (KL.up w1 B (O + i * 4) s g2 x a' y b') ?_
                      apply Exists.intro
                      refine ⟨Or.inr ⟨rfl, rfl⟩, ?_⟩
                      simp only [Act.put, List.setIfInBounds_toArray, List.set]
                      refine wpU_taken (i := 18) rfl (by kernel_rfl) (by kernel_rfl) (by kernel_rfl) (KL.up w1 B (O + i * 4) s g2 x a' y b') ?_
                      apply Exists.intro
                      refine ⟨Or.inr ⟨rfl, rfl⟩, ?_⟩
                      simp only [Act.put, List.setIfInBounds_toArray, List.set]
                      refine wpU_taken (i := 19) rfl (by kernel_rfl) (by kernel_rfl) (by kernel_rfl) (KL.up w1 B (O + i * 4) s g2 x a' y b') ?_
                      apply Exists.intro
                      refine ⟨Or.inr ⟨rfl, rfl⟩, ?_⟩
                      simp only [Act.put, List.setIfInBounds_toArray, List.set]
                      refine wpU_taken (i := 20) rfl (by kernel_rfl) (by kernel_rfl) (by kernel_rfl) (KL.up w1 B (O + i * 4) s g2 x a' y b') ?_
                      apply Exists.intro
                      refine ⟨Or.inr ⟨rfl, rfl⟩, ?_⟩
                      simp only [Act.put, List.setIfInBounds_toArray, List.set]
                      refine wpU_taken (i := 21) rfl (by kernel_rfl) (by kernel_rfl) (by kernel_rfl) (KL.up w1 B (O + i * 4) s g2 x a' y b') ?_
                      apply Exists.intro
                      refine ⟨Or.inl ⟨rfl, fun W hW => ?hy⟩, ?_⟩
                      case hy =>
                        obtain ⟨⟨c0, c1, c2, c3⟩, k1, k2, hB⟩ := hW
                        go_simp
                        exact RegionU.does_value rfl
                      simp only [Act.put, List.setIfInBounds_toArray, List.set]
                      refine wpU_taken (i := 22) rfl (by kernel_rfl) (by kernel_rfl) (by kernel_rfl) (KL.up w1 B (O + i * 4) s g2 x a' y b') ?_
                      apply Exists.intro
                      refine ⟨Or.inl ⟨rfl, fun W hW => ?hy⟩, ?_⟩
                      case hy =>
                        obtain ⟨⟨c0, c1, c2, c3⟩, k1, k2, hB⟩ := hW
                        go_simp
                        exact RegionU.does_value rfl
                      simp only [Act.put, List.setIfInBounds_toArray, List.set]
                      refine wpU_done (by kernel_rfl) ?_
                      rintro W ⟨-, -, -, hB⟩
                      have HB := Lib.hid hB
                      clear hB
                      go_wp2_with fail
                      try rw [hwi]
                      exact ⟨⟨i + 1, HLI.out, rfl, by rw [HST.out]; rfl, HB.out⟩, by have := HLI.out; simp [intOf]; omega⟩
                  · obtain rfl : i = L := by omega
                    rw [HAPL.out]
                    have HB := Lib.hid hb
                    clear hlt hi hb
                    go_wp2_with fail
                    try rw [hwb]
                    exact ⟨⟨b' + 1, HLB.out, rfl, HB.out⟩, by have := HLB.out; simp [intOf]; omega⟩
              · obtain rfl : b' = a' := by omega
                have HB := Lib.hid hb
                clear hlt hb' hb
                go_wp2_with fail
                try rw [hwa]
                exact ⟨⟨b' + 1, HLA.out, rfl, HB.out⟩, by have := HLA.out; simp [intOf]; omega⟩
          · obtain rfl : a' = n := by omega
            have HB := Lib.hid (HB1.out.trans (hb.mono HB1.out.size))
            clear hlt ha hb
            go_wp2_with fail
            refine (HKN.out _).mono ?_
            rintro e w3 ⟨rfl, hb⟩
            have HB4 := Lib.hid (HB.out.trans (hb.mono HB.out.size))
            clear hb
            go_wp2_with fail
            go_ret
            exact ⟨rfl, HB4.out⟩
end Go.Proofs.YtciggkebbhineaaDoor.PartW
