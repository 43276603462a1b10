/- Walk of layer 19: Of. -/
import Derived.Test.YtciggkebbhineaaDoorAlike
import Derived.Test.YtciggkebbhineaaDoorChunk
import Derived.Test.YtciggkebbhineaaDoorNumQ
import Derived.Test.YtciggkebbhineaaDoorRegionS
namespace Go.Proofs.YtciggkebbhineaaDoor.PartW
set_option linter.unusedVariables false
set_option linter.unusedSimpArgs false
open Go.RowKit Go.Shelf Go.Maps Go.Proofs.YtciggkebbhineaaDoor.PartM Go.Proofs.YtciggkebbhineaaDoor.SetM Go.Proofs.YtciggkebbhineaaDoor.SetW
attribute [local go_sem] Oper.semAt_some

section
variable {P : Program} {F : Fence} {m : Nat} {ops : Array Oper} {rest : List Oper} {op : Oper} {a : Act} {w : World} {Q : Exit → Act → World → Prop} {K : Act → World → Prop}
theorem wpListIn_store_arr (hg : op.guard = none) (ty : TypeId) (x y : Operand) (ho : op.op = .store ty x y) {B : Nat} (hx : a.eval x = .pointer (some ⟨B, 0, none⟩)) {C D : Array Value} (hy : a.eval y = .agg D) {t : TypeId} {f : Nat → Nat} (h : Ar w B C t) (hs : C.size = 256)
    (hD : IsA D f) (hi : (P.info? ty).map (·.size) = some 256) (hK : wpListIn F m P ops Q rest (a.put op.dst undef) (w.setRow B D)) : wpListIn F m P ops Q (op :: rest) a w := by
  refine wpListIn_plain hg fun K' hK' => ?_
  unfold Oper.wpIn
  refine ⟨by simp [Oper.about, ho], ?_⟩
  rw [Oper.semAt_plain F _ _ (by rw [ho]; intro c hc'; cases hc')]
  unfold execOp
  simp only [ho, hx, hy, Instr.storeAt, Instr.sureAddr, Sem.run_bind, Sem.run_pure, Result.andThen_ok, run_storeVar_row (P := P) w B t ty C D h (by rw [hD.size]; exact hi) (by rw [hs, hD.size]) hD.one]
  exact hK' _ _ hK
end
theorem wide_calls {m : Nat} {f : FuncId} {args : Array Value} {W : World} {R : Ending → World → Prop} (h : Calls Tryd.prog f args W R) {l : Nat} : CallsIn (Fence.wide.inRound l) m Tryd.prog f args W R := CallsIn.inRound l (callsIn_wide.2 h)
theorem keepsFrom_below {B : Nat} {W W' : World} (hb : Below W.heap.size W W') : KeepsFrom B W W' := ⟨hb.size, fun k o _ hk _ => (hb.block k (Array.getElem?_eq_some_iff.1 hk).1).trans hk⟩
theorem keepsFrom_row {B b : Nat} {W : World} {C : Array Value} {t : TypeId} (h : Ar W b C t) (D : Array Value) : KeepsFrom B W (W.setRow b D) := ⟨by rw [size_row]; exact Nat.le_refl _, fun k o _ hk ho => by
  have hne : k ≠ b := fun e => by subst e; rw [h] at hk; cases hk; cases ho
  rw [heap_row _ _ _ hne]; exact hk⟩
/-- Between two rounds of Of. -/
structure OI (w : World) (p q : Nat) (Z : Array Value) (fs : List (Nat → Bool)) (pre : List (Win fs.length)) (W : World) : Prop where
  arr : ∃ C, Ar W (w.heap.size + 1) C 22 ∧ IsA C (nm (alike (pre.map (winF fs)).flatten))
  wid : Boxed W (w.heap.size + 1 + 1) 3 (.int .i64 (rk (alike (pre.map (winF fs)).flatten) 256 : Nat))
  res : Ar W w.heap.size Z 22
  bel : Below w.heap.size w W
  sz : w.heap.size + 5 ≤ W.heap.size
theorem cells_own {B : Nat} {X Y : World} {row : Option Nat} {b : Nat} {C : Array Value} {t : TypeId} {z : Nat × Nat} (h : X.heap[b]? = some (.cells C t z)) (hg : X.grownBy Y row) (hr : ∀ r, row = some r → B ≤ r ∧ ∃ o : Obj, X.heap[r]? = some o ∧ o.isCells = false) : Y.heap[b]? = some (.cells C t z) :=
  (grownBy_keeps_cells hg (fun r e => (hr r e).2) h rfl).trans h
theorem OI.own {w : World} {p q : Nat} {Z : Array Value} {fs : List (Nat → Bool)} {B : Nat} (hB : w.heap.size ≤ B) : OwnFrom B (OI w p q Z fs) := by
  rintro s X Y row ⟨⟨C, h1, h2⟩, h3, h4, h5, h6⟩ hg hr
  exact ⟨⟨C, cells_own h1 hg hr, h2⟩, cells_own h3 hg hr, cells_own h4 hg hr, ownFrom_below (Nat.le_refl _) hB s X Y row h5 hg hr, Nat.le_trans h6 hg.size⟩
/-- A part, as a slice. -/
theorem win_ssl {W : World} {b o : Nat} {fs : List (Nat → Bool)} (h : SetsO W b o fs) (x : Win fs.length) : SSl W (winV b o x) (winF fs x) ∧ (winF fs x).length ≤ 64 := by
  have hl : (winF fs x).length = x.1.2 := by unfold winF; rw [List.length_take, List.length_drop]; have := x.2; omega
  refine ⟨.inr ⟨b, o + x.1.1 * 4, x.1.2, by rw [hl]; rfl, by omega, by have := x.2; unfold maxLen; omega, fun k hk j hj => ?_⟩, by have := x.2; omega⟩
  have hk2 : x.1.1 + k < fs.length := by have := x.2; omega
  rw [show o + x.1.1 * 4 + k * 4 + j = o + (x.1.1 + k) * 4 + j by omega, h _ hk2 j hj]
  simp [winF]

set_option maxRecDepth 100000 in
set_option maxHeartbeats 4000000 in
theorem Of_in {w : World} {v : Value} {fs : List (Nat → Bool)} (h : SSl w v fs) (hl : fs.length ≤ 1000000) :
    CallsIn Fence.wide 10 Tryd.prog 15 #[v] w fun e w' => ∃ Y, e = .returned (.tuple #[.agg Y, .int .i64 (rk (alike fs) 256 : Nat)]) ∧ IsA Y (nm (alike fs)) ∧ Below w.heap.size w w' := by
  obtain ⟨a, cap, rfl, hc1, hc2, hs⟩ := h.shape
  obtain ⟨b, o, hab⟩ : ∃ b o, (fs = [] ∨ a = some ⟨b, o, none⟩) ∧ SetsO w b o fs := by
    rcases hs with rfl | ⟨b, o, rfl, hs⟩
    · exact ⟨0, 0, .inl rfl, fun k hk => by simp at hk⟩
    · exact ⟨b, o, .inr rfl, hs⟩
  obtain ⟨Z, hZ, hz⟩ := zeroA
  have HZ := Lib.hid hZ
  have hm := hmf
  have h1 : 1 ≤ 10 := by decide
  have HAB := Lib.hid hab
  have HCAP := Lib.hid (show fs.length ≤ cap ∧ fs.length ≤ 1000000 from ⟨hc1, hl⟩)
  obtain ⟨L, hL⟩ : ∃ L, L = fs.length := ⟨_, rfl⟩
  rw [← hL]
  have HL := Lib.hid hL
  clear hZ h hl hc1 hc2 hs hab hL
  refine callsIn_of_wp_marks Tryd.func15 rfl trivial ?_ rfl
  simp only [Tryd.ntmps15, List.size_toArray, List.length_cons, List.length_nil, Nat.reduceAdd, Nat.reduceSub, Array.replicate_succ, Array.replicate_zero, List.push_toArray, List.append_toArray, List.nil_append, List.cons_append]
  gi_wp2_with (refine ⟨trivial, ?_⟩; gi_at_call 27; refine (callsIn_wide.2 (Chunk_any a L cap _)).mono ?_; rintro e w2 ⟨rfl, rfl⟩)
  have b1 : Below w.heap.size w (w.alloc (.cells Z 22)) := (Below.refl _ w).alloc (Nat.le_refl _) _
  have b2 := b1.alloc (by simp) (.cells Z 22)
  have b3 := b2.alloc (by simp; omega) (.cells #[.int .i64 1] 3)
  have b4 := b3.alloc (by simp; omega) (.cells #[.slice a L cap] 27)
  have b5 := b4.alloc (by simp; omega) (.cells #[.int .i64 64] 3)
  have r0 := ((((Ar.new w Z 22).alloc (.cells Z 22)).alloc (.cells #[.int .i64 1] 3)).alloc (.cells #[.slice a L cap] 27)).alloc (.cells #[.int .i64 64] 3)
  have r1 := (((Ar.new (w.alloc (.cells Z 22)) Z 22).alloc (.cells #[.int .i64 1] 3)).alloc (.cells #[.slice a L cap] 27)).alloc (.cells #[.int .i64 64] 3)
  have r2 := ((Boxed.new ((w.alloc (.cells Z 22)).alloc (.cells Z 22)) 3 (.int .i64 1)).alloc (.cells #[.slice a L cap] 27)).alloc (.cells #[.int .i64 64] 3)
  have r3 := (Boxed.new (((w.alloc (.cells Z 22)).alloc (.cells Z 22)).alloc (.cells #[.int .i64 1] 3)) 27 (.slice a L cap)).alloc (.cells #[.int .i64 64] 3)
  have r4 := Boxed.new ((((w.alloc (.cells Z 22)).alloc (.cells Z 22)).alloc (.cells #[.int .i64 1] 3)).alloc (.cells #[.slice a L cap] 27)) 3 (.int .i64 64)
  have sz : (((((w.alloc (.cells Z 22)).alloc (.cells Z 22)).alloc (.cells #[.int .i64 1] 3)).alloc (.cells #[.slice a L cap] 27)).alloc (.cells #[.int .i64 64] 3)).heap.size = w.heap.size + 5 := by simp
  simp only [World.size_alloc] at r0 r1 r2 r3 r4
  clear b1 b2 b3 b4
  generalize ((((w.alloc (.cells Z 22)).alloc (.cells Z 22)).alloc (.cells #[.int .i64 1] 3)).alloc (.cells #[.slice a L cap] 27)).alloc (.cells #[.int .i64 64] 3) = W0 at *
  have hn0 : w.heap.size ≤ W0.heap.size := b5.size
  have hi0 : OI w (w.heap.size + 1 + 1 + 1) (w.heap.size + 1 + 1 + 1 + 1) Z fs [] W0 := ⟨⟨Z, r1, HZ.out.congr fun i _ => (none_nm i).symm⟩, by rw [show rk (alike (List.map (winF fs) []).flatten) 256 = 1 from none_rk 255]; exact r2, r0, b5, by omega⟩
  rw [HL.out] at r3
  have hseq := chunk_stops 9 (by decide) (w.heap.size + 1 + 1 + 1) (w.heap.size + 1 + 1 + 1 + 1) w.heap.size b o fs a cap HCAP.out HAB.out.1 W0 r3 r4
  have HI0 := Lib.hid hi0; have HSEQ := Lib.hid hseq
  obtain ⟨p, hp⟩ : ∃ p, p = w.heap.size + 1 + 1 + 1 := ⟨_, rfl⟩
  obtain ⟨q, hq⟩ : ∃ q, q = w.heap.size + 1 + 1 + 1 + 1 := ⟨_, rfl⟩
  obtain ⟨A, hA⟩ : ∃ A, A = w.heap.size + 1 := ⟨_, rfl⟩
  obtain ⟨D0, hD0⟩ : ∃ D, D = w.heap.size + 1 + 1 := ⟨_, rfl⟩
  obtain ⟨R, hR⟩ : ∃ R, R = w.heap.size := ⟨_, rfl⟩
  have HN := Lib.hid (show A = w.heap.size + 1 ∧ D0 = w.heap.size + 1 + 1 ∧ R = w.heap.size ∧ p = w.heap.size + 1 + 1 + 1 ∧ q = w.heap.size + 1 + 1 + 1 + 1 ∧ W0.heap.size = w.heap.size + 5 from ⟨hA, hD0, hR, hp, hq, sz⟩)
  clear hi0 hseq r0 r1 r2 r3 r4 sz b5
  rw [← hq, ← hp] at HSEQ HI0
  rw [← hq, ← hp, ← hD0, ← hA, ← hR]
  clear hq hp hD0 hA hR
  refine wpIn_rangeFunc_ownH rfl h1 (gf := 33) (lb := #[.pointer (some ⟨p, 0, none⟩), .pointer (some ⟨q, 0, none⟩)]) rfl trivial (enters_of Tryd.func33 (by kernel_rfl) rfl)
    HSEQ.out Kp.trans (fun W l o o' hl h hc hw => ⟨belowK_b hn0 W l o o' hl h hc hw, World.putObj_heap_other (by have := HN.out; omega), World.putObj_heap_other (by have := HN.out; omega)⟩) (Below.refl _ _) (fun _ => rfl)
    (OI w p q Z fs) (fun _ _ _ => False) (OI.own hn0) (fun _ _ _ _ _ hs _ _ => hs) HI0.out
    (fun x a' W => ∃ P, a' = { tmps := #[.slice a L cap, undef, .pointer (some ⟨R, 0, none⟩), .int .i64 0, .pointer (some ⟨A, 0, none⟩), .pointer (some ⟨D0, 0, none⟩), .pointer (some ⟨P, 0, none⟩), .slice a L cap, .func (.func 33) #[] #[.pointer (some ⟨p, 0, none⟩), .pointer (some ⟨q, 0, none⟩)], winV b o x, undef, undef, undef, undef, undef, undef, undef], defers := [] } ∧ Boxed W P 27 (winV b o x)) ?own ?assign ?body ?done ?stop
  case own =>
    intro x a'
    rintro _ X Y row ⟨P, h1, h2⟩ hg hr
    exact ⟨P, h1, cells_own h2 hg hr⟩
  case assign =>
    intro l pr x W K hI hK
    have hI2 := (OI.own hn0).alloc (.cells #[winV b o x] 27) hI
    have HK := Lib.hid hK; have HI2 := Lib.hid hI2
    have hbw := hI.bel.size
    have HKP := Lib.hid (show Kp w.heap.size p q W (W.alloc (.cells #[winV b o x] 27)) from ⟨(Below.refl _ _).alloc hbw _, Below.heap_alloc _ _ _ (by have := hI.sz; have := HN.out; omega), Below.heap_alloc _ _ _ (by have := hI.sz; have := HN.out; omega)⟩)
    clear hK hI2
    unfold winV
    gi_wp2
    exact HK.out _ _ ((KeepsOthers.alloc _ _).from _) HKP.out HI2.out ⟨_, rfl, World.alloc_heap_new _ _⟩
  case body =>
    rintro l pr x a' W hl hrec hI ⟨P, rfl, hP⟩ hlt
    obtain ⟨C, hC1, hC2⟩ := hI.arr
    have hwid := hI.wid
    have hwc := hwid.cell
    have hwf := hwid.frozen
    obtain ⟨hx1, hx2⟩ := win_ssl (fun k hk j hj => by have hc := HAB.out.2 k hk j hj; rw [hI.bel.cell (World.block_lt_of_cell? _ _ hc)]; exact hc : SetsO W b o fs) x
    have HNUM := Lib.hid (numberedQ (w := W) ⟨A, 0, none⟩ ⟨P, 0, none⟩ (keysQ (f := nm (alike (pr.map (winF fs)).flatten)) (g := fun b => wd (memF (winF fs x) b) 0) (fun b hb => by have := nm_le (E := alike (pr.map (winF fs)).flatten) b; omega) (fun b _ => wd_lt _ 0)) fun W2 hb2 b' hb' =>
      Of1 (by rw [HN.out.1]; exact hC1.below hb2) hC2 (fun b hb => by have := nm_le (E := alike (pr.map (winF fs)).flatten) b; omega) ((hb2.cell (p := ⟨P, 0, none⟩) hP.lt).trans hP.cell) (hx1.below hb2) hx2 hb')
    have HMORE := Lib.hid (more_nm (pr.map (winF fs)).flatten (winF fs x) hx2)
    have HI := Lib.hid hI; have HC1 := Lib.hid hC1; have HC2 := Lib.hid hC2; have HWID := Lib.hid hwid
    clear hC1 hC2 hwid hx1 hx2 hI hP hwc hwf
    unfold winV
    gi_wp2_with (first | (refine ⟨trivial, ?_⟩; gi_at_call 28; refine (wide_calls HNUM.out).mono ?_; rintro e w1 ⟨Y, rfl, hY, hb1⟩; have ha1 : Ar w1 A C 22 := (by rw [HN.out.1]; exact HC1.out.below hb1); have hw1 : Boxed (w1.setRow A Y) D0 3 (.int .i64 (rk (alike (pr.map (winF fs)).flatten) 256 : Nat)) := (by rw [HN.out.2.1]; exact (heap_row _ _ _ (by have := HN.out; omega)).trans ((hb1.block _ HWID.out.lt).trans HWID.out)); have hwc := hw1.cell; have hwf := hw1.frozen; have HA1 := Lib.hid ha1; have HY := Lib.hid hY; have HB1 := Lib.hid hb1; have HW1 := Lib.hid hw1; clear ha1 hY hb1 hw1) | (refine wpListIn_store_arr rfl 22 (.tmp 4) (.tmp 13) rfl rfl rfl HA1.out HC2.out.size HY.out infoA ?_))
    have hI := HI.out; have hb1 := HB1.out; have hN := HN.out
    have hflat : ((pr ++ [x]).map (winF fs)).flatten = (pr.map (winF fs)).flatten ++ winF fs x := by simp
    have hsz := hI.sz
    have hk : ∀ (v : Value) (k : Nat), k < W.heap.size → k ≠ A → k ≠ D0 → ((w1.setRow A Y).setCell ⟨D0, 0, none⟩ v).heap[k]? = W.heap[k]? := fun v k h1 h2 h3 =>
      (Below.heap_setCell _ ⟨D0, 0, none⟩ _ k h3).trans ((heap_row _ _ _ h2).trans (hb1.block k h1))
    have hbel : ∀ v : Value, Below w.heap.size W ((w1.setRow A Y).setCell ⟨D0, 0, none⟩ v) := fun v => (below_row (hb1.mono hI.bel.size) (by omega) Y).setCell (p := ⟨D0, 0, none⟩) (by show _ ≤ D0; omega) _
    refine ⟨((keepsFrom_below hb1).trans (keepsFrom_row HA1.out Y)).trans ((KeepsOthers.setCell _ _ _).from _), ⟨hbel _, hk _ p (by omega) (by omega) (by omega), hk _ q (by omega) (by omega) (by omega)⟩, ⟨⟨Y, ?_, ?_⟩, ?_, ?_, hI.bel.trans (hbel _), ?_⟩⟩
    · rw [← hN.1]
      exact (HA1.out.row Y).other (by show D0 ≠ A; omega) _
    · rw [hflat, ← HMORE.out.1]; exact HY.out
    · rw [hflat, ← HMORE.out.2, ← hN.2.1]
      exact HW1.out.set _
    · exact (hk _ w.heap.size (by omega) (by omega) (by omega)).trans hI.res
    · have := (hbel (.int .i64 0)).size
      show _ ≤ ((w1.setRow A Y).setCell ⟨D0, 0, none⟩ _).heap.size
      simp only [World.setCell, Array.size_modify] at *
      omega
  case done =>
    rintro D ys W hD hys hI hK
    obtain ⟨C, hC1, hC2⟩ := hI.arr
    have hwid := hI.wid
    have hres := hI.res
    rw [hys] at hC2 hwid
    have hN := HN.out
    rw [← hN.1] at hC1
    rw [← hN.2.1] at hwid
    rw [← hN.2.2.1] at hres
    have hwc := hwid.cell
    have hld : (loadVar 22 ⟨A, 0, none⟩).run Tryd.prog W.drew = .ok (.agg C) W.drew := Ar.loadVar (t := 22) hC1 hC2.size Tryd.underlying22 infoA
    have HI := Lib.hid hI; have HC1 := Lib.hid hC1; have HC2 := Lib.hid hC2; have HRES := Lib.hid hres; have HK := Lib.hid hK
    clear hI hC1 hC2 hres hN hwid hK
    gi_wp2
    have hRD : R ≠ D0 := by have := HN.out; omega
    have hwc2 : (W.drew.setRow R C).cell? ⟨D0, 0, none⟩ = some (.int .i64 (rk (alike fs) 256 : Nat)) := (World.cell?_of_block (w := W.drew) (a := ⟨D0, 0, none⟩) (heap_row _ _ _ hRD.symm)).trans hwc
    have hDR : D ≠ R := by have := HN.out; omega
    have hK2 : (W.drew.setRow R C).heap[D]? = some (.deferred (some [])) := (heap_row _ _ _ hDR).trans HK.out
    have hfin : ∀ o' : Obj, ((W.drew.setRow R C).putObj D o').heap[R]? = some (.cells C 22 (0, 0)) ∧ Below w.heap.size w ((W.drew.setRow R C).putObj D o') := fun o' => by
      have hb : Below w.heap.size w (W.drew.setRow R C) := below_row HI.out.bel.drew (by have := HN.out; omega) C
      exact ⟨(World.putObj_heap_other hDR.symm).trans ((show Ar W.drew R Z 22 from HRES.out).row C), hb.trans (belowK_b (w := w) (Nat.le_refl _) _ D _ o' (by omega) hK2 rfl rfl)⟩
    refine wpIn_region_any (by kernel_rfl) ?_
    change wpAnyIn _ _ _ _ _ _ 4 _ _ W.drew
    refine RegionS.any_two (i := 0) (j := 1) (by kernel_rfl) ?_ ?_
    · refine RegionS.op_value rfl (by kernel_rfl) rfl (by intro c h; cases h) (run_load_arr 22 (.tmp 4) rfl rfl HC1.out HC2.out.size Tryd.underlying22 infoA) ?_
      simp only [Act.put, List.setIfInBounds_toArray, List.set]
      refine RegionS.any_two (i := 1) (j := 2) (by kernel_rfl) ?_ ?_
      · refine RegionS.op_value (w' := W.drew) (v := .int .i64 (rk (alike fs) 256 : Nat)) rfl (by kernel_rfl) rfl (by intro c h; cases h) (by go_simp) ?_
        simp only [Act.put, List.setIfInBounds_toArray, List.set]
        refine RegionS.any_one (i := 2) (by kernel_rfl) ?_
        refine RegionS.op_skip rfl (by kernel_rfl) rfl (by intro c h; cases h) (run_store_arr 22 (.tmp 2) (.tmp 15) rfl rfl rfl (show Ar W.drew R Z 22 from HRES.out) HZ.out.size HC2.out infoA) ?_
        simp only [Act.put, List.setIfInBounds_toArray, List.set]
        refine RegionS.any_one (i := 3) (by kernel_rfl) ?_
        refine RegionS.op_value (w' := W.drew.setRow R C) (v := .int .i64 (rk (alike fs) 256 : Nat)) rfl (by kernel_rfl) rfl (by intro c h; cases h) (by go_simp) ?_
        simp only [Act.put, List.setIfInBounds_toArray, List.set]
        refine RegionS.any_done (by kernel_rfl) ?_
        gi_wp2
        refine ⟨by simp, .inl ⟨_, _, rfl, run_takeDeferred hK2, ?_⟩⟩
        exact ⟨.tuple #[.agg C, .int .i64 (rk (alike fs) 256 : Nat)], (by rw [results_cell_tmp rfl]; simp [asAddr, Result.andThen, Ar.loadVar (P := Tryd.prog) (ty := 22) (hfin (.deferred none)).1 HC2.out.size Tryd.underlying22 infoA]), C, rfl, HC2.out, (hfin _).2⟩
      · refine RegionS.op_skip rfl (by kernel_rfl) rfl (by intro c h; cases h) (run_store_arr 22 (.tmp 2) (.tmp 15) rfl rfl rfl (show Ar W.drew R Z 22 from HRES.out) HZ.out.size HC2.out infoA) ?_
        simp only [Act.put, List.setIfInBounds_toArray, List.set]
        refine RegionS.any_one (i := 1) (by kernel_rfl) ?_
        refine RegionS.op_value (w' := W.drew.setRow R C) (v := .int .i64 (rk (alike fs) 256 : Nat)) rfl (by kernel_rfl) rfl (by intro c h; cases h) (by go_simp) ?_
        simp only [Act.put, List.setIfInBounds_toArray, List.set]
        refine RegionS.any_one (i := 3) (by kernel_rfl) ?_
        refine RegionS.op_value (w' := W.drew.setRow R C) (v := .int .i64 (rk (alike fs) 256 : Nat)) rfl (by kernel_rfl) rfl (by intro c h; cases h) (by go_simp) ?_
        simp only [Act.put, List.setIfInBounds_toArray, List.set]
        refine RegionS.any_done (by kernel_rfl) ?_
        gi_wp2
        refine ⟨by simp, .inl ⟨_, _, rfl, run_takeDeferred hK2, ?_⟩⟩
        exact ⟨.tuple #[.agg C, .int .i64 (rk (alike fs) 256 : Nat)], (by rw [results_cell_tmp rfl]; simp [asAddr, Result.andThen, Ar.loadVar (P := Tryd.prog) (ty := 22) (hfin (.deferred none)).1 HC2.out.size Tryd.underlying22 infoA]), C, rfl, HC2.out, (hfin _).2⟩
    · refine RegionS.op_value (w' := W.drew) (v := .int .i64 (rk (alike fs) 256 : Nat)) rfl (by kernel_rfl) rfl (by intro c h; cases h) (by go_simp) ?_
      simp only [Act.put, List.setIfInBounds_toArray, List.set]
      refine RegionS.any_one (i := 0) (by kernel_rfl) ?_
      refine RegionS.op_value rfl (by kernel_rfl) rfl (by intro c h; cases h) (run_load_arr 22 (.tmp 4) rfl rfl HC1.out HC2.out.size Tryd.underlying22 infoA) ?_
      simp only [Act.put, List.setIfInBounds_toArray, List.set]
      refine RegionS.any_one (i := 2) (by kernel_rfl) ?_
      refine RegionS.op_skip rfl (by kernel_rfl) rfl (by intro c h; cases h) (run_store_arr 22 (.tmp 2) (.tmp 15) rfl rfl rfl (show Ar W.drew R Z 22 from HRES.out) HZ.out.size HC2.out infoA) ?_
      simp only [Act.put, List.setIfInBounds_toArray, List.set]
      refine RegionS.any_one (i := 3) (by kernel_rfl) ?_
      refine RegionS.op_value (w' := W.drew.setRow R C) (v := .int .i64 (rk (alike fs) 256 : Nat)) rfl (by kernel_rfl) rfl (by intro c h; cases h) (by go_simp) ?_
      simp only [Act.put, List.setIfInBounds_toArray, List.set]
      refine RegionS.any_done (by kernel_rfl) ?_
      gi_wp2
      refine ⟨by simp, .inl ⟨_, _, rfl, run_takeDeferred hK2, ?_⟩⟩
      exact ⟨.tuple #[.agg C, .int .i64 (rk (alike fs) 256 : Nat)], (by rw [results_cell_tmp rfl]; simp [asAddr, Result.andThen, Ar.loadVar (P := Tryd.prog) (ty := 22) (hfin (.deferred none)).1 HC2.out.size Tryd.underlying22 infoA]), C, rfl, HC2.out, (hfin _).2⟩
  case stop =>
    rintro D c pre W _ _ h _
    exact h.elim
theorem Of_any {w : World} {v : Value} {fs : List (Nat → Bool)} (h : SSl w v fs) (hl : fs.length ≤ 1000000) :
    Calls Tryd.prog 15 #[v] w fun e w' => ∃ Y, e = .returned (.tuple #[.agg Y, .int .i64 (rk (alike fs) 256 : Nat)]) ∧ IsA Y (nm (alike fs)) ∧ Below w.heap.size w w' := callsIn_wide.1 (Of_in h hl)
end Go.Proofs.YtciggkebbhineaaDoor.PartW
