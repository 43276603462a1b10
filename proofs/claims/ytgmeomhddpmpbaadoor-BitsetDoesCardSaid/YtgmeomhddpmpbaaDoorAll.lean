/- Walk of layer 14: All. -/
import Derived.Test.YtgmeomhddpmpbaaDoorOr
namespace Go.Proofs.YtgmeomhddpmpbaaDoor.BitsW
set_option linter.unusedVariables false
open Go.RowKit Go.Shelf Go.Proofs.YtgmeomhddpmpbaaDoor.SetM Go.Proofs.YtgmeomhddpmpbaaDoor.SetW Go.Proofs.YtgmeomhddpmpbaaDoor.RegionU
attribute [local go_sem] Oper.semAt_some

/-- The table of the lowest bits, cell by cell. -/
def EnvC (W : World) : Prop := ∀ j, j < 64 → W.cell? ⟨0, j, none⟩ = some (.int .u8 (tabZ.getD j 0))
theorem env_cells {W : World} (h : Env W) : EnvC W := fun j hj => h.1.cell gTab j (show j < tabZ.length from hj)
theorem EnvC.lt {W : World} (h : EnvC W) : 0 < W.heap.size := World.block_lt_of_cell? _ _ (h 0 (by decide))
theorem EnvC.below {n₀ : Nat} {A B : World} (h : EnvC A) (hg : 0 < n₀) (hb : Below n₀ A B) : EnvC B := fun j hj => (hb.cell (p := ⟨_, j, none⟩) hg).trans (h j hj)
theorem tz_cells (x : Nat) (hx : x < 18446744073709551616) (h0 : x ≠ 0) (w : World) (he : EnvC w) :
    Calls Tryd.prog 29 #[.int .u64 x] w fun e w' => e = .returned (.int .i64 (Lib.ctz 64 x)) ∧ w = w' := by
  obtain ⟨hlow, hk⟩ := Lib.lowest_bit 64 x h0 hx
  obtain ⟨hi, htab⟩ := Lib.deBruijn64_at _ hk
  have hcell := he _ hi
  rw [tabZ_at, htab] at hcell
  exact tz_core x _ _ w (by simp; omega) (tz_key x _ hx h0 hlow) hi hk hcell
theorem drop_low (y : Nat) (hy : y < 18446744073709551616) (h0 : y ≠ 0) : bits BinOp.and IntKind.u64 (y : Int) ((y : Int) - 1) = ((y &&& (y - 1) : Nat) : Int) := by
  have e : (y : Int) - 1 = ((y - 1 : Nat) : Int) := by omega
  rw [e, bits_and_u64_nat y _ hy (by omega)]
theorem infoInt : (Tryd.prog.info? 3).map (fun i => (i.zero, i.size, i.bytes)) = some (some (.int .i64 0), 1, 8) := by kernel_rfl
abbrev i64 (x : Nat) : Value := .int .i64 (x : Int)
/-- The numbers of the named words. -/
def allL (g : Nat → Bool) (l : List Nat) : List Nat := l.flatMap fun j => (bitsOf (wd g j)).map (64 * j + ·)
theorem allL_snoc (g : Nat → Bool) (l : List Nat) (x : Nat) : allL g (l ++ [x]) = allL g l ++ (bitsOf (wd g x)).map (64 * x + ·) := by simp [allL, List.flatMap_append]
theorem allL_len (g : Nat → Bool) (l : List Nat) : (allL g l).length ≤ 64 * l.length := by
  induction l with
  | nil => simp [allL]
  | cons a l ih =>
    have := bits_length (wd g a)
    simp only [allL, List.flatMap_cons, List.length_append, List.length_map, List.length_cons] at *
    omega
theorem allL_rows (g : Nat → Bool) : ∀ k, allL g (rows g k) = upTo g (64 * k)
  | 0 => rfl
  | k + 1 => by
    have ih := allL_rows g k
    rw [upTo_word]
    by_cases h : wd g k = 0
    · rw [rows_no h, h, bitsOf_zero, ih]; simp
    · rw [rows_yes h, allL_snoc, ih]
/-- 'out = append(out, ..)', of a world in which what is to be appended lies already. -/
theorem appended_r {W w1 : World} {n₀ B : Nat} {t e : TypeId} {size : Nat} {v v' : Value} {k m : Nat} {xs ys : List Value}
    (hv : Boxed W B t v) (hte : t ≠ e) (hrow : W.ownsRow n₀ e size v k xs) (hn₀ : n₀ ≤ W.heap.size) (hB : n₀ ≤ B)
    (hown' : w1.ownsRow n₀ e size v' m ys) (hgrow : W.grownBy w1 v.ownBlock) :
    Boxed w1 B t v ∧ Boxed (w1.setCell ⟨B, 0, none⟩ v') B t v' ∧ (w1.setCell ⟨B, 0, none⟩ v').ownsRow n₀ e size v' m ys ∧ KeepsOthers W (w1.setCell ⟨B, 0, none⟩ v') ∧ Below n₀ W (w1.setCell ⟨B, 0, none⟩ v') := by
  have hv1 : Boxed w1 B t v := hv.kept hgrow (hv.not_row hte hrow)
  refine ⟨hv1, hv1.set v', hown'.kept (grownBy_setCell' w1 B v') (.inr (hv1.not_row hte hown').symm), ?_, ?_⟩
  · refine (KeepsOthers.of_grownBy hgrow fun j o ej hj => ?_).trans (KeepsOthers.setCell _ _ _)
    rcases hrow.2 with ⟨rfl, _⟩ | ⟨g, cap, cur, rfl, _, hgb, _⟩
    · simp [Value.ownBlock] at ej
    · obtain rfl : g = j := by simpa [Value.ownBlock] using ej
      rw [hgb] at hj; cases hj; rfl
  · refine ((Below.refl n₀ W).grown hgrow hn₀ fun j ej => ?_).setCell (p := ⟨B, 0, none⟩) hB v'
    rcases hrow.2 with ⟨rfl, _⟩ | ⟨g, cap, cur, rfl, hb, _, _⟩
    · simp [Value.ownBlock] at ej
    · obtain rfl : g = j := by simpa [Value.ownBlock] using ej
      exact hb

theorem wrap_place (x c : Nat) (hx : x < 16384) (hc : c < 64) : IntKind.i64.wrap (IntKind.i64.wrap (64 * (x : Int)) + (c : Int)) = ((64 * x + c : Nat) : Int) := by
  have e : IntKind.i64.wrap (64 * (x : Int)) = ((64 * x : Nat) : Int) := by rw [IntKind.wrap_i64]; omega
  rw [e, IntKind.wrap_i64]
  omega
theorem len_ok {k : Nat} (h : k + 1 ≤ 64 * 16385) : k + 1 ≤ maxLen ∧ (k + 1) * 8 ≤ 140737488355328 := by
  unfold maxLen; omega
theorem cell_up {k : Value} : ∀ u : Value, Up (fun W2 => ∃ b : Nat, u = .slice (some ⟨b, 0, none⟩) 1 1 ∧ W2.cell? ⟨b, 0, none⟩ = some k) := fun u W W' ⟨b, h1, h2⟩ hr =>
  ⟨b, h1, (Below.cell hr (p := ⟨b, 0, none⟩) (World.block_lt_of_cell? _ _ h2)).trans h2⟩
theorem one_cell {W : World} {b : Nat} {v : Value} (h : W.cell? ⟨b, 0, none⟩ = some v) : ∀ (j : Nat) (u : Value), [v][j]? = some u → W.cell? (Addr.add ⟨b, 0, none⟩ j) = some u := fun j u hj => by
  cases j with
  | zero => simp at hj; subst hj; simpa [Addr.add] using h
  | succ j => simp at hj
set_option maxRecDepth 100000 in
set_option maxHeartbeats 4000000 in
theorem All_in (n : Nat) (hn : 4 ≤ n) (v : Option Addr) (q r : Nat) (g : Nat → Bool) (w : World) (hS : Src w v q r g) (he : EnvC w) :
    CallsIn Fence.wide n Tryd.prog 17 #[.pointer v] w fun e W' => ∃ u, e = .returned u ∧ W'.ownsRow w.heap.size 3 1 u (upTo g r).length ((upTo g r).map i64) ∧ Below w.heap.size w W' := by
  have h1 : 1 ≤ n := by omega
  obtain ⟨i0, hi, hz0, hz1, hz2⟩ := info_parts infoInt
  have hle := lenW_le hS.room
  have HFIN := Lib.hid (show allL g (rows g (lenW r)) = upTo g r by rw [allL_rows, upTo_room hS.into])
  have HLE := Lib.hid (show (upTo g r).length ≤ 1048576 from Nat.le_trans (upTo_length g r) hS.room)
  have HS := Lib.hid hS; have HE := Lib.hid he
  have HCN := Lib.hid (Count_any v q r g w hS)
  clear hS he
  refine callsIn_of_wp_marks Tryd.func17 rfl trivial ?_ rfl
  simp only [Tryd.ntmps17, List.size_toArray, List.length_cons, List.length_nil, Nat.reduceAdd, Nat.reduceSub, Array.replicate_succ, Array.replicate_zero, List.push_toArray, List.append_toArray, List.nil_append, List.cons_append]
  gi_wp2_with (refine ⟨trivial, ?_⟩; gi_at_call 18; refine (callsIn_wide.2 HCN.out).mono ?_; rintro e w1 ⟨rfl, hb1⟩)
  obtain ⟨wm, hmk, hownm, hgm⟩ := run_make_own (P := Tryd.prog) w1 w.heap.size 28 3 i0 (.int .i64 0) 1 Tryd.underlying28 hi hz0 hz1 .i64 .i64 (upTo g r).length (by rw [hz2]; have := HLE.out; omega) (by unfold maxLen; have := HLE.out; omega) hb1.size
  have hBm : Below w.heap.size w wm := hb1.grown hgm hb1.size (fun k e => by cases e)
  rw [hmk]
  clear hmk
  simp only [Result.andThen_ok]
  gi_wp2_with (refine ⟨trivial, ?_⟩; gi_at_call 26; refine (callsIn_wide.2 (some_any v _)).mono ?_; rintro e w2 ⟨rfl, rfl⟩)
  have b1 := (Boxed.new wm 28 (.slice (some ⟨w1.heap.size, 0, none⟩) 0 (upTo g r).length)).alloc (.cells #[.pointer v] 23)
  have b2 := Boxed.new (wm.alloc (.cells #[.slice (some ⟨w1.heap.size, 0, none⟩) 0 (upTo g r).length] 28)) 23 (.pointer v)
  rw [World.size_alloc] at b2
  have hR2 := (hownm.alloc (.cells #[.slice (some ⟨w1.heap.size, 0, none⟩) 0 (upTo g r).length] 28)).alloc (.cells #[.pointer v] 23)
  have hb0 := (hBm.alloc hBm.size (.cells #[.slice (some ⟨w1.heap.size, 0, none⟩) 0 (upTo g r).length] 28)).alloc (by have := hBm.size; simp; omega) (.cells #[.pointer v] 23)
  have hs2 : ((wm.alloc (.cells #[.slice (some ⟨w1.heap.size, 0, none⟩) 0 (upTo g r).length] 28)).alloc (.cells #[.pointer v] 23)).heap.size = wm.heap.size + 1 + 1 := by simp
  generalize (wm.alloc (.cells #[.slice (some ⟨w1.heap.size, 0, none⟩) 0 (upTo g r).length] 28)).alloc (.cells #[.pointer v] 23) = W0 at *
  have hBsz := hBm.size
  generalize hB : wm.heap.size = B at *
  have HS2 := Lib.hid hs2
  have hseq := some_stops (n - 1) (by omega) (B + 1) v q r g W0 b2.cell (HS.out.below hb0)
  have hq0 : q < W0.heap.size := Nat.lt_of_lt_of_le HS.out.1 hb0.size
  have HB0 := Lib.hid hb0
  have hgw : ∀ c : List Pl → List Nat, OwnFrom W0.heap.size (fun (pre : List Pl) W => (∃ u, Boxed W B 28 u ∧ W.ownsRow w.heap.size 3 1 u (c pre).length ((c pre).map i64) ∧ True) ∧ Below w.heap.size w W) := fun c =>
    OwnFrom.and (Own.from (holdsRow_own w.heap.size B 28 3 1 (fun (pre : List Pl) => (c pre).length) (fun pre => (c pre).map i64) (fun _ _ => True)) _) (ownFrom_below (Nat.le_refl _) HB0.out.size)
  clear hb0 b2 hs2 hBm hgm hownm hb1 HCN hB
  refine wpIn_rangeFunc_ownG rfl h1 (gf := 31) (lb := #[.pointer (some ⟨B + 1, 0, none⟩)]) rfl trivial (enters_of Tryd.func31 (by kernel_rfl) rfl)
    hseq Kq.trans (kq_b hq0) (Below.refl _ _) (fun _ => rfl)
    _ (fun _ _ _ => False) (hgw (fun pre => allL g (vals pre)))
    (fun _ _ _ _ _ hs _ _ => hs)
    ⟨⟨_, b1, hR2, trivial⟩, HB0.out⟩
    (fun x => { tmps := #[.pointer v, undef, .slice none 0 0, .pointer (some ⟨B, 0, none⟩), .int .i64 (x.val : Nat), .int .u64 (wd g x.val), .pointer v, .int .i64 (upTo g r).length, .slice (some ⟨w1.heap.size, 0, none⟩) 0 (upTo g r).length, .pointer v, .func (.func 31) #[] #[.pointer (some ⟨B + 1, 0, none⟩)], .int .i64 (x.val : Nat), .int .u64 (wd g x.val), undef, undef, undef, undef, undef, undef, undef, undef, undef, undef, undef, undef, undef, undef, undef], defers := [] }) ?assign ?body ?done ?stop
  case assign =>
    intro l x W K hK
    unfold encs
    gi_wp2
    exact hK
  case body =>
    rintro l pre ⟨x, hx0⟩ W ⟨⟨u, hv, hrow, _⟩, hb⟩ hlt
    have hqW : q < W.heap.size := by have := hb.size; have := HS.out.1; omega
    have HALL := Lib.hid (allL_snoc g (vals pre) x)
    have htot : (allL g (vals pre) ++ (bitsOf (wd g x)).map (64 * x + ·)).length ≤ 64 * 16385 := by
      have h1 := allL_len g (vals pre)
      have h2 := bits_length (wd g x)
      rw [vals_len] at h1
      rw [List.length_append, List.length_map]; omega
    have hx64 := wd_lt g x
    have HV := Lib.hid hv; have HROW := Lib.hid hrow; have HB := Lib.hid hb
    clear hv hrow hb
    gi_wp2
    gi_loopw [5] (fun y wr => ∃ (d : Nat) (done : List Nat) (u : Value), d < 18446744073709551616 ∧ y = .int .u64 d ∧ Hid (done ++ (bitsOf d).map (64 * x + ·) = allL g (vals pre) ++ (bitsOf (wd g x)).map (64 * x + ·)) ∧ Boxed wr B 28 u ∧ wr.ownsRow w.heap.size 3 1 u done.length (done.map i64) ∧ Below w.heap.size w wr ∧ KeepsFrom W0.heap.size W wr ∧ Kq q W wr) (fun y _ => (intOf y).toNat)
    case atStart => exact ⟨wd g x, allL g (vals pre), u, hx64, rfl, Lib.hid rfl, HV.out, HROW.out, HB.out, KeepsFrom.refl _ _, Kq.refl _ _⟩
    case round =>
      obtain ⟨d, dn, u, hd, rfl, HP, hv, hrow, hb, hkf, hkq⟩ := hrel
      have HBX := Lib.hid hv; have HROW := Lib.hid hrow; have HBW := Lib.hid hb; have HKF := Lib.hid hkf; have HKQ := Lib.hid hkq
      clear hv hrow hb hkf hkq
      by_cases hd0 : d = 0
      · have t0 : ((d : Int) != 0) = false := by simp [hd0]
        have HX := Lib.hid (show dn = allL g (vals pre ++ [x]) by rw [HALL.out, ← HP.out, hd0, bitsOf_zero]; simp)
        clear hd0
        gi_wp2
        refine ⟨HKF.out, HKQ.out, ⟨u, HBX.out, ?_⟩, HBW.out⟩
        rw [vals_snoc, ← HX.out]; exact HROW.out
      · have t0 : ((d : Int) != 0) = true := by simpa using hd0
        have HT := Lib.hid (fun W h => tz_cells d hd hd0 W h)
        obtain ⟨hc, hbits, hlt3⟩ := low_bit d hd0 hd
        have HD := Lib.hid (drop_low d hd hd0)
        have HBITS := Lib.hid hbits
        generalize Lib.ctz 64 d = c at *
        have hdl : dn.length + 1 ≤ 64 * 16385 := by
          have h1 := congrArg List.length HP.out
          rw [HBITS.out, List.length_append, List.map_cons, List.length_cons] at h1
          omega
        have HLK := Lib.hid (len_ok hdl)
        have HWR := Lib.hid (wrap_place x c hx0 hc)
        clear hbits hd0
        gi_wp2
        refine wpIn_region_T 7 (fun _ => trivial) rfl (fun h => wide_calls h) (by kernel_rfl) (by kernel_rfl) (by kernel_rfl) (r_up wr) (r_drew wr) ?_
        refine wpT_taken (i := 0) rfl (by kernel_rfl) (by kernel_rfl) (by kernel_rfl) (by kernel_rfl) (by kernel_rfl) (r_up wr) ?_
        apply Exists.intro
        refine ⟨Or.inl ⟨rfl, fun W' hW => ?hy⟩, ?_⟩
        case hy =>
          have c0 := (r_boxed hW HBX.out).cell
          go_simp
          exact does_value rfl
        simp only [Act.put, List.setIfInBounds_toArray, List.set]
        refine wpT_taken (i := 1) rfl (by kernel_rfl) (by kernel_rfl) (by kernel_rfl) (by kernel_rfl) (by kernel_rfl) (r_up wr) ?_
        apply Exists.intro
        refine ⟨Or.inl ⟨rfl, fun W' hW => ?hy⟩, ?_⟩
        case hy =>
          go_simp
          exact does_value rfl
        simp only [Act.put, List.setIfInBounds_toArray, List.set]
        refine wpT_taken (i := 2) rfl (by kernel_rfl) (by kernel_rfl) (by kernel_rfl) (by kernel_rfl) (by kernel_rfl) (r_up wr) ?_
        apply Exists.intro
        refine ⟨Or.inl ⟨rfl, fun W' hW => ?hy⟩, ?_⟩
        case hy =>
          go_simp
          exact does_value rfl
        simp only [Act.put, List.setIfInBounds_toArray, List.set]
        refine wpT_taken (i := 3) rfl (by kernel_rfl) (by kernel_rfl) (by kernel_rfl) (by kernel_rfl) (by kernel_rfl) (r_up wr) ?_
        apply Exists.intro
        refine ⟨Or.inl ⟨rfl, fun W' hW => ?hy⟩, ?_⟩
        case hy =>
          go_simp
          exact does_value rfl
        simp only [Act.put, List.setIfInBounds_toArray, List.set]
        refine wpT_taken (i := 4) rfl (by kernel_rfl) (by kernel_rfl) (by kernel_rfl) (by kernel_rfl) (by kernel_rfl) (r_up wr) ?_
        apply Exists.intro
        refine ⟨Or.inl ⟨rfl, fun W' hW => ?hy⟩, ?_⟩
        case hy =>
          have he := (HE.out.below HE.out.lt (HBW.out.trans (Below.mono hW HBW.out.size)))
          go_simp
          exact does_call ((HT.out _ he).mono fun e w3 h => ⟨h.1, h.2 ▸ Below.refl _ _⟩)
        simp only [Act.put, List.setIfInBounds_toArray, List.set]
        refine wpT_taken (i := 5) rfl (by kernel_rfl) (by kernel_rfl) (by kernel_rfl) (by kernel_rfl) (by kernel_rfl) (r_up wr) ?_
        apply Exists.intro
        refine ⟨Or.inl ⟨rfl, fun W' hW => ?hy⟩, ?_⟩
        case hy =>
          go_simp
          exact does_value rfl
        simp only [Act.put, List.setIfInBounds_toArray, List.set]
        refine wpT_one (i := 6) (by kernel_rfl) (by kernel_rfl) rfl rfl (fun u W2 => ∃ b : Nat, u = .slice (some ⟨b, 0, none⟩) 1 1 ∧ W2.cell? ⟨b, 0, none⟩ = some (i64 (64 * x + c))) cell_up (fun W' hW => ?hy) ?_
        case hy =>
          go_simp
          rw [HWR.out]
          exact does_made ⟨W'.heap.size, rfl, (Boxed.new W' _ _).cell⟩ ((Below.refl _ _).alloc (Nat.le_refl _) _)
        intro u2
        simp only [Act.put, List.setIfInBounds_toArray, List.set]
        refine wpT_done (by kernel_rfl) ?_
        rintro W2 ⟨hW, b, rfl, hcb⟩
        have hv := r_boxed hW HBX.out
        have hrow := owns_but (w' := W2) HROW.out (But.of none hW) (fun k e => ⟨(World.ownsRow.lt HROW.out k e).2, by simp⟩)
        have hb := HBW.out.trans (Below.mono hW HBW.out.size)
        have hkf : KeepsFrom W0.heap.size W W2 := HKF.out.trans ((keeps_r hW).from _)
        have hkq : Kq q W W2 := HKQ.out.trans (kq_of hW (by have := HKQ.out.1; omega))
        have hcv := hv.cell
        have HCB := Lib.hid hcb; have HKF2 := Lib.hid hkf; have HKQ2 := Lib.hid hkq; have HB2 := Lib.hid hb
        clear hcb hkf hkq hb
        simp only [List.drop_succ_cons, List.drop_zero]
        refine wpListIn_append_own _ rfl (.tmp 19) (.tmp 25) 28 rfl w.heap.size 3 i0 (.int .i64 0) 1 8 Tryd.underlying28 hi hz0 hz1 hz2 rfl (by decide) u _ _ rfl hrow ⟨b, 0, none⟩ 1 1 [i64 (64 * x + c)] rfl rfl (one_cell HCB.out) (by simp [Value.oneCell']) HLK.out.1 HLK.out.2 HB2.out.size ?_
        intro v' w1' hown' hgrow _
        obtain ⟨g', cap', rfl⟩ := ownsRow_succ hown'
        obtain ⟨hv1, hv2, hr2, hk2, hb2⟩ := appended_r hv (by decide) hrow HB2.out.size hBsz hown' hgrow
        have hc1 := hv1.cell
        have hf1 := hv1.frozen
        have HV2 := Lib.hid hv2; have HR2 := Lib.hid hr2; have HK2 := Lib.hid hk2; have HBB := Lib.hid hb2
        clear hv hv1 hv2 hr2 hk2 hb2 hown' hgrow hcv hrow
        gi_wp2
        rw [HD.out]
        refine ⟨⟨d &&& (d - 1), dn ++ [64 * x + c], _, by omega, rfl, Lib.hid ?_, HV2.out, by rw [List.length_append, List.map_append]; exact HR2.out, HB2.out.trans HBB.out, HKF2.out.trans (HK2.out.from _), HKQ2.out.trans (kq_of HBB.out HS.out.1)⟩, ?_⟩
        · rw [← HP.out, HBITS.out, List.map_cons, List.append_assoc]; rfl
        · show ((d &&& (d - 1) : Nat) : Int).toNat < ((d : Nat) : Int).toNat
          omega
  case done =>
    rintro D ys W hD hys ⟨⟨u, hv, hrow, _⟩, hb⟩ hK
    have hc := hv.cell
    have HY := Lib.hid (show allL g (vals ys) = upTo g r by rw [hys]; exact HFIN.out)
    clear hys
    rw [HY.out] at hrow
    gi_wp2
    refine ⟨by simp, .inl ⟨_, _, rfl, run_takeDeferred hK, ?_⟩⟩
    exact ⟨_, results_tmp rfl _ _ _, u, rfl, ownsRow_putObj hrow _ hK rfl, hb.trans (belowK_b (w := w) (Nat.le_refl _) W D _ _ (Nat.le_trans HB0.out.size hD) hK rfl rfl)⟩
  case stop =>
    rintro D c pre W _ _ h _
    exact h.elim
theorem All_any (v : Option Addr) (q r : Nat) (g : Nat → Bool) (w : World) (hS : Src w v q r g) (he : EnvC w) :
    Calls Tryd.prog 17 #[.pointer v] w fun e W' => ∃ u, e = .returned u ∧ W'.ownsRow w.heap.size 3 1 u (upTo g r).length ((upTo g r).map i64) ∧ Below w.heap.size w W' :=
  callsIn_wide.1 (All_in 4 (by decide) v q r g w hS he)
end Go.Proofs.YtgmeomhddpmpbaaDoor.BitsW
