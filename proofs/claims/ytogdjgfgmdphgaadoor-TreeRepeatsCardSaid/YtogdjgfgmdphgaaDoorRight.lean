/- Walks: Right, by the sequence. -/
import Derived.Test.YtogdjgfgmdphgaaDoorCount
import Derived.Test.YtogdjgfgmdphgaaDoorFits
namespace Go.Proofs.YtogdjgfgmdphgaaDoor.TreeW
set_option linter.unusedVariables false
open Go.RowKit Go.Shelf Go.Proofs.YtogdjgfgmdphgaaDoor.TreeM
attribute [local go_sem] Oper.semAt_some
theorem all_snoc {ys : List It} {x : It} (h : (ys.map It.plain).all okP = true) : ((ys ++ [x]).map It.plain).all okP = okF x.nd x.len := by
  rw [List.map_append, List.all_append, h]; simp [It.plain, okP]
theorem keepsFrom_below {B : Nat} {W W' : World} (hb : Below W.heap.size W W') : KeepsFrom B W W' := ⟨hb.size, fun k o _ hk _ => (hb.block k (Array.getElem?_eq_some_iff.1 hk).1).trans hk⟩
theorem keeps_below {n₀ : Nat} {W W' : World} (hb : Below W.heap.size W W') (hn : n₀ ≤ W.heap.size) : Keeps n₀ W W' := ⟨hb.mono hn, hb.size, fun k c t z _ hk => (hb.block k (Array.getElem?_eq_some_iff.1 hk).1).trans hk⟩
/-- Between two rounds. -/
def RI (w : World) (B : Nat) (ys : List It) (W : World) : Prop := (Boxed W (B + 2) 3 (.int .i64 (ys.length : Int)) ∧ Boxed W (B + 1) 4 (.bool false)) ∧ (ys.length ≤ 4096 ∧ (ys.map It.plain).all okP = true) ∧ Below w.heap.size w W
/-- A round has left. -/
def RX (w : World) (B : Nat) (c : Code) (ys : List It) (W : World) : Prop := Boxed W (B + 1) 4 (.bool false) ∧ (c = .ret ∧ (4096 < ys.length ∨ (ys.map It.plain).all okP = false)) ∧ Below w.heap.size w W
theorem RI_own {w : World} {B M : Nat} (hM : w.heap.size ≤ M) : OwnFrom M (RI w B) :=
  OwnFrom.and (OwnFrom.and (boxed_from (B + 2) 3 (fun ys : List It => .int .i64 (ys.length : Int))) (boxed_from (B + 1) 4 (fun _ => .bool false))) (OwnFrom.and (ownFrom_pure _ _) (ownFrom_below (Nat.le_refl _) hM))
theorem RX_own {w : World} {B M : Nat} (hM : w.heap.size ≤ M) (c : Code) : OwnFrom M (RX w B c) :=
  OwnFrom.and (boxed_from (B + 1) 4 (fun _ => .bool false)) (OwnFrom.and (ownFrom_pure _ _) (ownFrom_below (Nat.le_refl _) hM))
set_option maxRecDepth 100000 in
set_option maxHeartbeats 4000000 in
theorem Right_in (n : Nd) (kids : List Tr) (a : Option Addr) (cap : Nat) (w : World) (he : Env w) (hL : Lies 0 w.heap.size w (.slice a kids.length cap) kids) :
    CallsIn Fence.wide 10 Tryd.prog 7 #[NV n (.slice a kids.length cap)] w fun e W' => e = .returned (.bool (right (.mk n kids))) ∧ Below w.heap.size w W' := by
  have HE := Lib.hid (fun W => each_any n a kids.length cap (.slice none 0 0) W (.inl rfl))
  have HL := Lib.hid hL; clear hL
  have HEN := Lib.hid he; clear he
  have h1 : 1 ≤ 10 := by decide
  refine callsIn_of_wp_marks Tryd.func7 rfl trivial ?_ rfl
  simp only [Tryd.ntmps7, List.size_toArray, List.length_cons, List.length_nil, Nat.reduceAdd, Nat.reduceSub, Array.replicate_succ, Array.replicate_zero, List.push_toArray, List.append_toArray, List.nil_append, List.cons_append]
  gi_wp2_with (refine ⟨trivial, ?_⟩; gi_at_call 32; refine (callsIn_wide.2 (HE.out _)).mono ?_; rintro e w2 ⟨rfl, rfl⟩)
  obtain ⟨B, hB⟩ : ∃ B, B = w.heap.size := ⟨_, rfl⟩
  have HB := Lib.hid hB; clear hB
  have b1 := (Below.refl w.heap.size w).alloc (Nat.le_refl _) (.cells #[.int .i64 n.K, .int .u64 n.a, .int .u64 n.b, .int .u64 n.c, .int .u64 n.d, .slice a kids.length cap, .int .i64 n.L, .int .i64 n.H] 28)
  have b2 := b1.alloc (by simp) (.cells #[.bool false] 4)
  have b3 := b2.alloc (by simp; omega) (.cells #[.int .i64 0] 3)
  have b4 := b3.alloc (by simp; omega) (.cells #[.int .i64 n.K, .int .u64 n.a, .int .u64 n.b, .int .u64 n.c, .int .u64 n.d, .slice a kids.length cap, .int .i64 n.L, .int .i64 n.H] 28)
  have b5 := b4.alloc (by simp; omega) (.cells #[.slice none 0 0] 56)
  have r1 := (((Boxed.new (w.alloc (.cells #[.int .i64 n.K, .int .u64 n.a, .int .u64 n.b, .int .u64 n.c, .int .u64 n.d, .slice a kids.length cap, .int .i64 n.L, .int .i64 n.H] 28)) 4 (.bool false)).alloc (.cells #[.int .i64 0] 3)).alloc (.cells #[.int .i64 n.K, .int .u64 n.a, .int .u64 n.b, .int .u64 n.c, .int .u64 n.d, .slice a kids.length cap, .int .i64 n.L, .int .i64 n.H] 28)).alloc (.cells #[.slice none 0 0] 56)
  have n1 := ((Boxed.new ((w.alloc (.cells #[.int .i64 n.K, .int .u64 n.a, .int .u64 n.b, .int .u64 n.c, .int .u64 n.d, .slice a kids.length cap, .int .i64 n.L, .int .i64 n.H] 28)).alloc (.cells #[.bool false] 4)) 3 (.int .i64 0)).alloc (.cells #[.int .i64 n.K, .int .u64 n.a, .int .u64 n.b, .int .u64 n.c, .int .u64 n.d, .slice a kids.length cap, .int .i64 n.L, .int .i64 n.H] 28)).alloc (.cells #[.slice none 0 0] 56)
  have x1 := (NodeAt.new (((w.alloc (.cells #[.int .i64 n.K, .int .u64 n.a, .int .u64 n.b, .int .u64 n.c, .int .u64 n.d, .slice a kids.length cap, .int .i64 n.L, .int .i64 n.H] 28)).alloc (.cells #[.bool false] 4)).alloc (.cells #[.int .i64 0] 3)) n (.slice a kids.length cap) 28).below (by simp) ((Below.refl _ _).alloc (Nat.le_refl _) (.cells #[.slice none 0 0] 56))
  have l1 := Boxed.new ((((w.alloc (.cells #[.int .i64 n.K, .int .u64 n.a, .int .u64 n.b, .int .u64 n.c, .int .u64 n.d, .slice a kids.length cap, .int .i64 n.L, .int .i64 n.H] 28)).alloc (.cells #[.bool false] 4)).alloc (.cells #[.int .i64 0] 3)).alloc (.cells #[.int .i64 n.K, .int .u64 n.a, .int .u64 n.b, .int .u64 n.c, .int .u64 n.d, .slice a kids.length cap, .int .i64 n.L, .int .i64 n.H] 28)) 56 (.slice none 0 0)
  have s1 : (w.alloc (.cells #[.int .i64 n.K, .int .u64 n.a, .int .u64 n.b, .int .u64 n.c, .int .u64 n.d, .slice a kids.length cap, .int .i64 n.L, .int .i64 n.H] 28)).heap.size = w.heap.size + 1 := by simp
  have s2 : ((w.alloc (.cells #[.int .i64 n.K, .int .u64 n.a, .int .u64 n.b, .int .u64 n.c, .int .u64 n.d, .slice a kids.length cap, .int .i64 n.L, .int .i64 n.H] 28)).alloc (.cells #[.bool false] 4)).heap.size = w.heap.size + 1 + 1 := by simp
  have s3 : (((w.alloc (.cells #[.int .i64 n.K, .int .u64 n.a, .int .u64 n.b, .int .u64 n.c, .int .u64 n.d, .slice a kids.length cap, .int .i64 n.L, .int .i64 n.H] 28)).alloc (.cells #[.bool false] 4)).alloc (.cells #[.int .i64 0] 3)).heap.size = w.heap.size + 1 + 1 + 1 := by simp
  have s4 : ((((w.alloc (.cells #[.int .i64 n.K, .int .u64 n.a, .int .u64 n.b, .int .u64 n.c, .int .u64 n.d, .slice a kids.length cap, .int .i64 n.L, .int .i64 n.H] 28)).alloc (.cells #[.bool false] 4)).alloc (.cells #[.int .i64 0] 3)).alloc (.cells #[.int .i64 n.K, .int .u64 n.a, .int .u64 n.b, .int .u64 n.c, .int .u64 n.d, .slice a kids.length cap, .int .i64 n.L, .int .i64 n.H] 28)).heap.size = w.heap.size + 1 + 1 + 1 + 1 := by simp
  have s5 : (((((w.alloc (.cells #[.int .i64 n.K, .int .u64 n.a, .int .u64 n.b, .int .u64 n.c, .int .u64 n.d, .slice a kids.length cap, .int .i64 n.L, .int .i64 n.H] 28)).alloc (.cells #[.bool false] 4)).alloc (.cells #[.int .i64 0] 3)).alloc (.cells #[.int .i64 n.K, .int .u64 n.a, .int .u64 n.b, .int .u64 n.c, .int .u64 n.d, .slice a kids.length cap, .int .i64 n.L, .int .i64 n.H] 28)).alloc (.cells #[.slice none 0 0] 56)).heap.size = w.heap.size + 1 + 1 + 1 + 1 + 1 := by simp
  rw [s1] at r1
  rw [s2] at n1
  rw [s3] at x1
  rw [s4] at l1
  have hL1 := HL.out.under b5
  clear s1 s2 s3 s4 b1 b2 b3 b4
  generalize (((((w.alloc (.cells #[.int .i64 n.K, .int .u64 n.a, .int .u64 n.b, .int .u64 n.c, .int .u64 n.d, .slice a kids.length cap, .int .i64 n.L, .int .i64 n.H] 28)).alloc (.cells #[.bool false] 4)).alloc (.cells #[.int .i64 0] 3)).alloc (.cells #[.int .i64 n.K, .int .u64 n.a, .int .u64 n.b, .int .u64 n.c, .int .u64 n.d, .slice a kids.length cap, .int .i64 n.L, .int .i64 n.H] 28)).alloc (.cells #[.slice none 0 0] 56)) = W0 at *
  have hn0 : w.heap.size ≤ W0.heap.size := b5.size
  have hseq := each_stops w.heap.size _ _ (sizeL kids + 1) (.slice none 0 0) nocut n kids a cap W0 hL1 hn0 x1 l1 (.inl ⟨rfl, rfl⟩) (by have := pre_len nocut (.mk n kids); rw [size_mk] at this; exact this)
  have hdone : ∀ ys : List It, ys.map It.plain = pre nocut (.mk n kids) → ys.length ≤ 4096 → (ys.map It.plain).all okP = true → right (.mk n kids) = true := fun ys h h2 h3 => by
    refine right_of ?_ (h ▸ h3)
    rw [← h, List.length_map]; exact h2
  have hstop : ∀ ys : List It, (∃ rest, ys.map It.plain ++ rest = pre nocut (.mk n kids)) → (4096 < ys.length ∨ (ys.map It.plain).all okP = false) → right (.mk n kids) = false := fun ys ⟨rest, h⟩ h2 => by
    refine wrong_of h.symm ?_
    rw [List.length_map]; exact h2
  have HDONE := Lib.hid hdone; have HSTOP := Lib.hid hstop
  clear hdone hstop x1 l1 hL1
  rw [← HB.out] at r1 n1 s5 ⊢
  rw [← HB.out] at hseq
  have HS5 := Lib.hid s5; clear s5
  have hBw : w.heap.size ≤ B + 1 := by rw [HB.out]; omega
  refine wpIn_rangeFunc_ownH rfl h1 (gf := 42) (lb := #[.pointer (some ⟨B + 1 + 1 + 1 + 1, 0, none⟩), .pointer (some ⟨B + 1 + 1 + 1, 0, none⟩)]) rfl trivial (enters_of Tryd.func42 (by kernel_rfl) rfl)
    hseq Keeps.trans (keeps_b (by rw [HB.out]; exact hn0)) (Below.refl _ _) (fun _ => rfl)
    (RI w B) (RX w B) (RI_own hn0) (RX_own hn0) ⟨⟨n1, r1⟩, ⟨by simp, by simp⟩, b5⟩
    (fun x a' W => ∃ P, a' = { tmps := #[NV n (.slice a kids.length cap), .pointer (some ⟨B, 0, none⟩), .pointer (some ⟨B + 1, 0, none⟩), .pointer (some ⟨B + 1 + 1, 0, none⟩), .pointer (some ⟨P, 0, none⟩), NV n (.slice a kids.length cap), .func (.func 42) #[] #[.pointer (some ⟨B + 1 + 1 + 1 + 1, 0, none⟩), .pointer (some ⟨B + 1 + 1 + 1, 0, none⟩)], NV x.nd (.slice x.ad x.len x.cap), undef, undef, undef, undef, undef, undef, undef, undef, undef], defers := [] } ∧ Fresh P x W ∧ B + 2 < P) ?own ?assign ?body ?done ?stop
  case own =>
    intro x a'
    rintro _ X Y row ⟨P, h1, h2, h3⟩ hg hr
    exact ⟨P, h1, fresh_own P x () X Y row h2 hg hr, h3⟩
  case assign =>
    intro l pr x W K hI hK
    unfold encs
    have hlt := hI.1.1.lt
    have hI2 := (RI_own hn0).alloc (.cells #[.int .i64 x.nd.K, .int .u64 x.nd.a, .int .u64 x.nd.b, .int .u64 x.nd.c, .int .u64 x.nd.d, .slice x.ad x.len x.cap, .int .i64 x.nd.L, .int .i64 x.nd.H] 28) hI
    have HK := Lib.hid hK; have HI2 := Lib.hid hI2; have HLT := Lib.hid hlt
    have hbw := hI.2.2.size
    clear hK hI2 hlt
    gi_wp2
    exact HK.out _ _ (keepsFrom_alloc _ _ _) (Keeps.grown (World.grownBy_alloc _ _ _) (by rw [HB.out]; exact hbw)) HI2.out ⟨_, rfl, World.alloc_heap_new _ _, HLT.out⟩
  case body =>
    rintro l pr x a' W hl hrec ⟨⟨hv, hr⟩, ⟨hle, hall⟩, hb⟩ ⟨P, rfl, hP, hPl⟩ hlt
    have hn := hP.node
    have hpr : Boxed W (B + 1 + 1) 3 (.int .i64 ((pr.length : Nat) : Int)) := hv
    have hc := hpr.cell; have hf := hpr.frozen
    have hcb := hr.cell; have hfb := hr.frozen
    have HB2 := Lib.hid hb
    have hsz := hb.size
    have hkn := keeps_set (n₀ := B) hpr (by omega) (by decide) (.int .i64 ((pr.length : Int) + 1))
    have hbn := hb.setCell (p := ⟨B + 1 + 1, 0, none⟩) (show w.heap.size ≤ B + 1 + 1 by rw [HB.out]; omega) (.int .i64 ((pr.length : Int) + 1))
    have hrn : Boxed (W.setCell ⟨B + 1 + 1, 0, none⟩ (.int .i64 ((pr.length : Int) + 1))) (B + 1) 4 (.bool false) := Boxed.other hr (by omega) _
    have hvn := hpr.set (.int .i64 ((pr.length : Int) + 1))
    have hfn := (KeepsOthers.setCell W ⟨B + 1 + 1, 0, none⟩ (.int .i64 ((pr.length : Int) + 1))).from W0.heap.size
    have hnn : NodeAt (W.setCell ⟨B + 1 + 1, 0, none⟩ (.int .i64 ((pr.length : Int) + 1))) P 0 x.nd (.slice x.ad x.len x.cap) := hn.keep fun p => cell_off _ _ _ _ _ _ (by omega)
    have hen := HEN.out.below HEN.out.lt hbn
    have hszn : (W.setCell ⟨B + 1 + 1, 0, none⟩ (.int .i64 ((pr.length : Int) + 1))).heap.size = W.heap.size := by simp [World.setCell]
    have HALL := Lib.hid hall; have HR := Lib.hid hrn; have HV := Lib.hid hvn; have HKN := Lib.hid hkn; have HFN := Lib.hid hfn; have HBN := Lib.hid hbn; have HENV := Lib.hid hen; have HNN := Lib.hid hnn; have HSZN := Lib.hid hszn
    have hrc := hrn.cell; have hrf := hrn.frozen
    have d0 := hnn.c0; have d1 := hnn.c1; have d2 := hnn.c2; have d3 := hnn.c3; have d4 := hnn.c4; have d5 := hnn.c5; have d6 := hnn.c6; have d7 := hnn.c7
    clear hall hrn hvn hkn hfn hbn hen hnn hv hr hb hn hP hpr hszn
    by_cases h4 : pr.length = 4096
    · have t4 : decide (4096 < (pr.length : Int) + 1) = true := by simp; omega
      have HL4 := Lib.hid h4; clear h4
      gi_wp2_with (refine ⟨trivial, ?_⟩)
      exact ⟨HFN.out.trans ((KeepsOthers.setCell _ _ _).from _), HR.out.set _, ⟨rfl, .inl (by rw [List.length_append, HL4.out]; simp)⟩, HBN.out.setCell (p := ⟨B + 1, 0, none⟩) hBw _⟩
    · have t4 : decide (4096 < (pr.length : Int) + 1) = false := by simp; omega
      have HF := Lib.hid (fits_any x.nd x.ad x.len x.cap _ HENV.out)
      cases hok : okF x.nd x.len
      · rw [hok] at HF
        have HOK := Lib.hid hok; clear hok
        gi_wp2_with (refine ⟨trivial, ?_⟩; gi_at_call 33; refine (callsIn_wide.2 HF.out).mono ?_; rintro e w1 ⟨rfl, hb1⟩; have hr1 : Boxed w1 (B + 1) 4 (.bool false) := (hb1.block _ HR.out.lt).trans HR.out; have hrc1 := hr1.cell; have hrf1 := hr1.frozen)
        exact ⟨(HFN.out.trans (keepsFrom_below hb1)).trans ((KeepsOthers.setCell _ _ _).from _), hr1.set _, ⟨rfl, .inr (by rw [all_snoc HALL.out, HOK.out])⟩, (HBN.out.trans (hb1.mono (by rw [HSZN.out]; exact hsz))).setCell (p := ⟨B + 1, 0, none⟩) hBw _⟩
      · rw [hok] at HF
        have HOK := Lib.hid hok; clear hok
        gi_wp2_with (refine ⟨trivial, ?_⟩; gi_at_call 33; refine (callsIn_wide.2 HF.out).mono ?_; rintro e w1 ⟨rfl, hb1⟩)
        refine ⟨HFN.out.trans (keepsFrom_below hb1), HKN.out.trans (keeps_below hb1 (by rw [HSZN.out, HB.out]; exact hsz)), ⟨?_, (hb1.block _ HR.out.lt).trans HR.out⟩, ⟨?_, ?_⟩, HBN.out.trans (hb1.mono (by rw [HSZN.out]; exact hsz))⟩
        · rw [List.length_append]
          exact (hb1.block _ HV.out.lt).trans HV.out
        · rw [List.length_append]; simp; omega
        · rw [all_snoc HALL.out, HOK.out]
  case done =>
    rintro D ys W hD hys ⟨⟨hv, hr⟩, ⟨hle, hall⟩, hb⟩ hK
    have hc := hr.cell; have hf := hr.frozen
    have HV := Lib.hid (HDONE.out ys hys hle hall)
    clear hall hv
    have hrs := hr.set (.bool true)
    have hKs : (W.setCell ⟨B + 1, 0, none⟩ (.bool true)).heap[D]? = some (.deferred (some [])) := (KeepsOthers.setCell W _ _).same D _ hK rfl
    have hbs := hb.setCell (p := ⟨B + 1, 0, none⟩) hBw (.bool true)
    have HRS := Lib.hid hrs; have HKS := Lib.hid hKs; have HBS := Lib.hid hbs
    clear hrs hKs hbs hr hK hb
    gi_wp2
    refine ⟨by simp, .inl ⟨_, _, rfl, run_takeDeferred HKS.out, ?_⟩⟩
    have hq := (HRS.out.kept (grownBy_putObj' _ D (.deferred none)) (by have := r1.lt; simp; omega)).cell
    exact ⟨.bool true, by simp [results, Tryd.results7, go_sem, hq], by rw [HV.out], HBS.out.trans (belowK_b (w := w) (Nat.le_refl _) _ D _ _ (by omega) HKS.out rfl rfl)⟩
  case stop =>
    rintro D c ys W hD hys ⟨hr, ⟨rfl, hbad⟩, hb⟩ hK
    have HV := Lib.hid (HSTOP.out ys hys hbad)
    clear hbad
    gi_wp2
    refine ⟨by simp, .inl ⟨_, _, rfl, run_takeDeferred hK, ?_⟩⟩
    have hq := (hr.kept (grownBy_putObj' _ D (.deferred none)) (by have := r1.lt; simp; omega)).cell
    exact ⟨.bool false, by simp [results, Tryd.results7, go_sem, hq], by rw [HV.out], hb.trans (belowK_b (w := w) (Nat.le_refl _) _ D _ _ (by omega) hK rfl rfl)⟩
theorem Right_any (n : Nd) (kids : List Tr) (a : Option Addr) (cap : Nat) (w : World) (he : Env w) (hL : Lies 0 w.heap.size w (.slice a kids.length cap) kids) :
    Calls Tryd.prog 7 #[NV n (.slice a kids.length cap)] w fun e W' => e = .returned (.bool (right (.mk n kids))) ∧ Below w.heap.size w W' :=
  callsIn_wide.1 (Right_in n kids a cap w he hL)
end Go.Proofs.YtogdjgfgmdphgaaDoor.TreeW
