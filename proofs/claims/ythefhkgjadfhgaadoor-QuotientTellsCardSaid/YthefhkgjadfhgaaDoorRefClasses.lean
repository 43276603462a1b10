/- Walk of the document's Classes: the bytes that are not told apart. -/
import Derived.Test.YthefhkgjadfhgaaDoorRefMerged
namespace Go.Proofs.YthefhkgjadfhgaaDoor.DfaW
set_option linter.unusedVariables false
set_option linter.unusedSimpArgs false
open Go.RowKit Go.Maps Go.Proofs.YthefhkgjadfhgaaDoor.PartM Go.Proofs.YthefhkgjadfhgaaDoor.PartW
theorem fst_iffE {E : Nat → Nat → Bool} (hE : Eqv E) (i j : Nat) : fst E i = fst E j ↔ E i j = true := by
  constructor
  · intro e
    have h1 : nm E i = nm E j := by unfold nm; rw [e]
    exact nm_inj hE h1
  · exact fst_congr hE
/-- The first class that is not told apart from a byte's. -/
def gV (m : Mc) (b : Nat) : Nat := fst (ckE m) (m.of b)
theorem gV_eq (m : Mc) : byKey (gV m) = colE m := by
  funext a b
  have h1 : (byKey (gV m) a b = true) ↔ gV m a = gV m b := by simp [byKey]
  have h2 : (colE m a b = true) ↔ ckE m (m.of a) (m.of b) = true := by simp [colE, ckE, byKey, colB]
  rw [Bool.eq_iff_iff, h1, h2]
  exact fst_iffE (ckE_eqv m) _ _
def gTo (m : Mc) (k : Nat) (b : Nat) : Nat := if b < k then gV m b else 0
theorem gTo_set {m : Mc} {Y : Array Value} {k : Nat} (h : IsA Y (gTo m k)) : IsA (Y.setIfInBounds k (.int .u8 (gV m k : Int))) (gTo m (k + 1)) := by
  refine ⟨by simp [h.size], fun i hi => ?_⟩
  rw [Array.getElem?_setIfInBounds]
  by_cases e : k = i
  · subst e
    rw [if_pos rfl, if_pos (by rw [h.size]; exact hi)]
    simp [gTo]
  · rw [if_neg e, h.at' i hi]
    unfold gTo
    by_cases h2 : i < k
    · rw [if_pos h2, if_pos (by omega)]
    · rw [if_neg h2, if_neg (by omega)]
theorem Alike.cell {X : Nat → Prop} {w w' : World} (h : Alike X w w') {A : Nat} (hA : X A) (k : Nat) (v : Value) : Alike X w (w'.setCell ⟨A, k, none⟩ v) :=
  ⟨h.os, h.tape, h.output, by have := h.size; simp [World.setCell]; exact this, fun j h1 h2 => (Below.heap_setCell _ ⟨A, k, none⟩ _ j (fun e => h1 (by have e : j = A := e; rw [e]; exact hA))).trans (h.block j h1 h2)⟩
theorem Alike.ar {X : Nat → Prop} {w w' : World} (h : Alike X w w') {B : Nat} {C : Array Value} {t : TypeId} (ha : Ar w B C t) (hX : ¬ X B) : Ar w' B C t := (h.block B hX ha.lt).trans ha
set_option maxRecDepth 100000 in
set_option maxHeartbeats 4000000 in
theorem refClasses_any {C : Array Value} {m : Mc} (w : World) (h : IsM w.heap.size w C m) :
    Calls Tryd.prog 7 #[.agg C] w fun e w' => ∃ A, e = .returned (.tuple #[.agg A, .int .i64 (clsN m)]) ∧ IsA A (clsV m) ∧ Below w.heap.size w w' := by
  obtain ⟨Z, hZ, hz⟩ := zeroA
  have HZ := Lib.hid hZ
  have hbz := build_arr hz
  have hbx0 := ((Bx.new h).alloc (.cells Z 22)).alloc (.cells Z 22)
  have hr0 : Ar (((w.alloc (.cells C 27)).alloc (.cells Z 22)).alloc (.cells Z 22)) (w.heap.size + 1) Z 22 := by
    have := (Ar.new (w.alloc (.cells C 27)) Z 22).alloc (.cells Z 22)
    rw [World.size_alloc] at this; exact this
  have ha0 : Ar (((w.alloc (.cells C 27)).alloc (.cells Z 22)).alloc (.cells Z 22)) (w.heap.size + 1 + 1) Z 22 := by
    have := Ar.new ((w.alloc (.cells C 27)).alloc (.cells Z 22)) Z 22
    rw [World.size_alloc, World.size_alloc] at this; exact this
  have hb0 : Below w.heap.size w (((w.alloc (.cells C 27)).alloc (.cells Z 22)).alloc (.cells Z 22)) := (((Below.refl _ _).alloc (Nat.le_refl _) _).alloc (by simp) _).alloc (by simp; omega) _
  have HX0 := Lib.hid hbx0; have HR0 := Lib.hid hr0; have HA0 := Lib.hid ha0; have HB0 := Lib.hid hb0
  have HM := Lib.hid h
  clear h hbx0 hr0 ha0 hb0 hZ
  go_enter Tryd.func7, Tryd.ntmps7
  have ha1 := HA0.out.row Z
  have hr1 : Ar ((((w.alloc (.cells C 27)).alloc (.cells Z 22)).alloc (.cells Z 22)).setRow (w.heap.size + 1 + 1) Z) (w.heap.size + 1) Z 22 := (heap_row _ _ _ (by omega)).trans HR0.out
  have hb1 := below_row HB0.out (show w.heap.size ≤ w.heap.size + 1 + 1 by omega) Z
  have hx1 : Bx ((((w.alloc (.cells C 27)).alloc (.cells Z 22)).alloc (.cells Z 22)).setRow (w.heap.size + 1 + 1) Z) w.heap.size C m := ⟨(heap_row _ _ _ (by omega)).trans HX0.out.ar, (HM.out.next hb1)⟩
  have HX1 := Lib.hid hx1
  go_wp2_with (first | (refine wpList_store_arr rfl 22 (.tmp 4) (.tmp 7) rfl rfl rfl HA0.out HZ.out.size HZ.out infoA ?_; simp only [Act.put]) | (refine wpList_load_dfa rfl (.tmp 1) rfl rfl HX1.out ?_))
  clear HX1
  clear HA0 HR0 HB0 HX0 hbz hz
  obtain ⟨s, hs⟩ : ∃ s, s = w.heap.size := ⟨_, rfl⟩
  have HSE := Lib.hid hs
  rw [← hs] at ha1 hr1 hb1 hx1 HM ⊢
  generalize ((((w.alloc (.cells C 27)).alloc (.cells Z 22)).alloc (.cells Z 22)).setRow (s + 1 + 1) Z) = w1 at *
  clear hs
  have HA1 := Lib.hid ha1; have HR1 := Lib.hid hr1; have HB1 := Lib.hid hb1; have HX1 := Lib.hid hx1
  clear ha1 hr1 hb1 hx1
  refine (refRightD_any _ HX1.out.is).mono ?_
  rintro e w2 ⟨hs, hb2⟩
  have HA2 := Lib.hid (HA1.out.below hb2); have HR2 := Lib.hid (HR1.out.below hb2); have HX2 := Lib.hid (HX1.out.below hb2)
  have HB2 := Lib.hid (HB1.out.trans (hb2.mono (by have := HB1.out.size; rw [HSE.out]; exact this)))
  clear hb2 HA1 HR1 HB1 HX1
  rcases hs.elim with ⟨rfl, hk⟩ | ⟨rfl, hk⟩
  case inr =>
    have HE := Lib.hid (cls_no hk)
    clear hs hk
    go_wp2_with (first | (refine wpList_load_arr rfl 22 (.tmp 4) rfl rfl HA2.out HZ.out.size Tryd.underlying22 infoA ?_) | (refine wpList_store_arr rfl 22 (.tmp 2) (.tmp 11) rfl rfl rfl HR2.out HZ.out.size HZ.out infoA ?_; simp only [Act.put]))
    have hld := (HR2.out.row Z).loadVar (P := Tryd.prog) HZ.out.size Tryd.underlying22 infoA
    refine bodyPost_ret (v := .tuple #[.agg Z, .int .i64 0]) ?_ rfl ⟨Z, by rw [HE.out.1], by rw [HE.out.2]; exact HZ.out, by rw [← HSE.out]; exact below_row HB2.out (by omega) Z⟩
    rw [results_cell_tmp rfl]
    simp [asAddr, Result.andThen, hld]
  have HOK := Lib.hid hk
  have HE := Lib.hid (cls_yes hk)
  clear hs hk
  obtain ⟨d, hd⟩ : ∃ d : Nat, m.wd = (d : Int) := ⟨_, HOK.out.wd⟩
  have HD := Lib.hid hd
  have hd6 : (d : Int) ≤ 256 := by have := rk_le (E := byKey m.of) 256; have := HOK.out.wd; omega
  clear hd
  go_wp2_with (refine wpList_load_dfa rfl (.tmp 1) rfl rfl HX2.out ?_)
  refine (merged_any _ HX2.out.is HOK.out HD.out).mono ?_
  rintro e w3 ⟨v5, rfl, ho, hb3⟩
  obtain ⟨a5, c5, rfl, _, _⟩ := ho.len
  rw [mergedL_len]
  rw [mergedL_len] at ho
  have HO := Lib.hid ho; have HAW := Lib.hid HA2.out.lt
  have HA3 := Lib.hid (HA2.out.below hb3); have HR3 := Lib.hid (HR2.out.below hb3); have HX3 := Lib.hid (HX2.out.below hb3)
  have HB3 := Lib.hid (HB2.out.trans (hb3.mono (by have := HB2.out.size; rw [HSE.out]; exact this)))
  clear ho hb3 HA2 HR2 HX2 HB2
  go_wp2_with fail
  go_loopw [6] (fun i wr => ∃ c : Nat, c ≤ 256 ∧ i = .int .i64 c ∧ ∃ Y, Ar wr (s + 1 + 1) Y 22 ∧ Hid (IsA Y (gTo m c)) ∧ Alike (fun k => k = s + 1 + 1) w3 wr) (fun i _ => 256 - (intOf i).toNat)
  case atStart => exact ⟨0, by omega, rfl, Z, HA3.out, Lib.hid (HZ.out.congr fun i hi => by simp [gTo]), Alike.refl _ _⟩
  case round =>
    obtain ⟨c, hc, rfl, Y, hA, HY, hal⟩ := hrel
    have HAL := Lib.hid hal; have HA := Lib.hid hA
    have hR := hal.ar HR3.out (by omega)
    have HR := Lib.hid hR
    clear hR hal
    by_cases hlt : c < 256
    · have hX := HAL.out.ar HX3.out.ar (by omega)
      have x0 := (Ar.at' hX c).trans (HM.out.of' c hlt)
      have hoi := (HO.out.alike HAL.out (by intro k hk1; have := HAW.out; omega)).is
      have hof := HOK.out.cls' hlt
      have hofd : m.of c < d := by have := HD.out; omega
      obtain ⟨b9, o9, rfl, _, x1⟩ := hoi.cell (i := m.of c) (by rw [mergedL_len]; exact hofd)
      rw [mergedL_at m hofd] at x1
      have hg : gV m c < 256 := by have := fst_le (ckE m) (m.of c); unfold gV; omega
      have x1 : wr.cell? ⟨b9, o9 + m.of c, none⟩ = some (.int .i64 (gV m c : Nat)) := x1
      have hs2 := gTo_set HY.out
      obtain ⟨q, hq⟩ : ∃ q, q = m.of c := ⟨_, rfl⟩
      obtain ⟨g, hge⟩ : ∃ g, g = gV m c := ⟨_, rfl⟩
      rw [← hq] at x0 x1 hofd
      rw [← hge] at x1 hg hs2
      have HS2 := Lib.hid hs2
      have hwr : IntKind.u8.wrap (g : Int) = (g : Int) := wrap_u8 hg
      have hfz := HA.out.frozen c
      obtain ⟨u, hck⟩ : ∃ u, wr.cell? ⟨s + 1 + 1, c, none⟩ = some u := ⟨_, HA.out.cell HY.out hlt⟩
      have HLT := Lib.hid hlt
      clear hX hoi hof hs2 hq hge hA
      go_wp2_with fail
      exact ⟨⟨c + 1, HLT.out, by go_num, _, HA.out.set c _, HS2, HAL.out.cell rfl c _⟩, by have := HLT.out; simp [intOf]; omega⟩
    · have hcc : c = 256 := by omega
      subst hcc
      have HYG := Lib.hid (HY.out.congr (g := gV m) fun i hi => by simp [gTo, hi])
      have hg : ∀ b, b < 256 → gV m b < 256 := fun b hb => by have := fst_le (ckE m) (m.of b); have := HOK.out.cls' hb; have := HD.out; unfold gV; omega
      have HG := Lib.hid hg
      clear hlt hc hg hA
      go_wp2_with (refine wpList_load_arr rfl 22 (.tmp 4) rfl rfl HA.out HY.out.size Tryd.underlying22 infoA ?_)
      refine (refNorm_any HYG.out HG.out wr).mono ?_
      rintro e w5 ⟨N, rfl, hN, hb5⟩
      rw [gV_eq] at hN ⊢
      have HN := Lib.hid hN
      have HR5 := Lib.hid (HR.out.below hb5)
      have hs3 : s ≤ w3.heap.size := by have := HB3.out.size; rw [HSE.out]; exact this
      have HB5 := Lib.hid ((HB3.out.trans ((HAL.out.below (n := s) (by intro k hk; omega) hs3))).trans (hb5.mono (Nat.le_trans hs3 HAL.out.size)))
      clear hs3
      clear hN hb5
      go_wp2_with (refine wpList_store_arr rfl 22 (.tmp 2) (.tmp 30) rfl rfl rfl HR5.out HZ.out.size HN.out infoA ?_; simp only [Act.put])
      have hld := (HR5.out.row N).loadVar (P := Tryd.prog) HN.out.size Tryd.underlying22 infoA
      refine bodyPost_ret (v := .tuple #[.agg N, .int .i64 (rk (colE m) 256 : Nat)]) ?_ rfl ⟨N, by rw [HE.out.1], by rw [HE.out.2]; exact HN.out, by rw [← HSE.out]; exact below_row HB5.out (by omega) N⟩
      rw [results_cell_tmp rfl]
      simp [asAddr, Result.andThen, hld]
end Go.Proofs.YthefhkgjadfhgaaDoor.DfaW
