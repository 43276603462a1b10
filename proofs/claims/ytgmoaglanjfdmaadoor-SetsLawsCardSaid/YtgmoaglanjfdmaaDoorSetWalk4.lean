/- Walks of layer 2: All, Less; the document's With in a loop: Of, Two, Not. -/
import Derived.Test.YtgmoaglanjfdmaaDoorSetWalk3
import Derived.Deep.RegionHeld3
namespace Go.Proofs.YtgmoaglanjfdmaaDoor.SetW
set_option linter.unusedVariables false
open Go.RowKit Go.Proofs.YtgmoaglanjfdmaaDoor.SetM

theorem below_drew {n : Nat} {w W : World} (h : Below n w W) : Below n w W.drew := h.drew
theorem SV_congr {f g : Nat → Bool} (h : ∀ i, i < 256 → f i = g i) : SV f = SV g := by
  show Value.agg _ = _
  rw [wd_congr (f := f) (g := g) 0 fun j hj => h _ (by omega), wd_congr (f := f) (g := g) 1 fun j hj => h _ (by omega), wd_congr (f := f) (g := g) 2 fun j hj => h _ (by omega), wd_congr (f := f) (g := g) 3 fun j hj => h _ (by omega)]

theorem All_any (w : World) : Calls Tryd.prog 11 #[] w fun e w' => e = .returned (SV (spanF 0 256)) ∧ Below w.heap.size w w' := by
  have h : ∀ W, Calls Tryd.prog 17 #[.agg #[.int .u64 0, .int .u64 0, .int .u64 0, .int .u64 0]] W fun e w' => e = .returned (SV (spanF 0 256)) ∧ Below W.heap.size W w' := fun W => by
    have h := Not_any emptyF W
    rw [SV_congr (f := notF emptyF) (g := spanF 0 256) (fun i hi => by simp [notF, emptyF, spanF, hi])] at h
    simp only [SV, wd_empty] at h
    exact h
  go_enter Tryd.func11, Tryd.ntmps11
  go_wp2_with fail
  refine (h _).mono ?_
  rintro e w1 ⟨rfl, hb1⟩
  have hR := (HoldsS.zero w 25).below hb1
  have d0 := hR.c0; have d1 := hR.c1; have d2 := hR.c2; have d3 := hR.c3; have y0 := hR.z0; have y1 := hR.z1; have y2 := hR.z2; have y3 := hR.z3
  have hb : Below w.heap.size w w1 := ((Below.refl _ _).alloc (Nat.le_refl _) _).trans (hb1.mono (by simp))
  go_wp2_with fail
  have q := hR.store (spanF 0 256)
  exact bodyPost_ret (v := SV _) (by simp [results, Tryd.results11, go_sem, q.c0, q.c1, q.c2, q.c3]) rfl ⟨rfl, below_put4 hb (Nat.le_refl _) _⟩

theorem Less_any (f g : Nat → Bool) (w : World) :
    Calls Tryd.prog 16 #[SV f, SV g] w fun e w' => e = .returned (SV (lessF f g)) ∧ Below w.heap.size w w' := by
  have h1 := fun W => Not_any g W
  have h2 : ∀ W, Calls Tryd.prog 15 #[SV f, SV (notF g)] W fun e w' => e = .returned (SV (lessF f g)) ∧ Below W.heap.size W w' := fun W => Meet_any f (notF g) W
  have H1 := Lib.hid h1; have H2 := Lib.hid h2; clear h1 h2
  obtain ⟨A, hA⟩ : ∃ A, A = w.heap.size := ⟨_, rfl⟩
  have HA := Lib.hid hA; clear hA
  go_enter Tryd.func16, Tryd.ntmps16
  go_wp2_with fail
  have hb0 : Below w.heap.size w (((w.alloc (.cells #[.int .u64 (wd f 0), .int .u64 (wd f 1), .int .u64 (wd f 2), .int .u64 (wd f 3)] 25)).alloc (.cells #[.int .u64 (wd g 0), .int .u64 (wd g 1), .int .u64 (wd g 2), .int .u64 (wd g 3)] 25)).alloc (.cells #[.int .u64 0, .int .u64 0, .int .u64 0, .int .u64 0] 25)) :=
    (((Below.refl _ _).alloc (Nat.le_refl _) _).alloc (by simp) _).alloc (by simp; omega) _
  have hF := (((HoldsS.new w f 25).alloc (.cells #[.int .u64 (wd g 0), .int .u64 (wd g 1), .int .u64 (wd g 2), .int .u64 (wd g 3)] 25)).alloc (.cells #[.int .u64 0, .int .u64 0, .int .u64 0, .int .u64 0] 25))
  have hG := ((HoldsS.new (w.alloc (.cells #[.int .u64 (wd f 0), .int .u64 (wd f 1), .int .u64 (wd f 2), .int .u64 (wd f 3)] 25)) g 25).alloc (.cells #[.int .u64 0, .int .u64 0, .int .u64 0, .int .u64 0] 25))
  have hR := HoldsS.zero ((w.alloc (.cells #[.int .u64 (wd f 0), .int .u64 (wd f 1), .int .u64 (wd f 2), .int .u64 (wd f 3)] 25)).alloc (.cells #[.int .u64 (wd g 0), .int .u64 (wd g 1), .int .u64 (wd g 2), .int .u64 (wd g 3)] 25)) 25
  simp only [World.size_alloc] at hG hR
  generalize (((w.alloc (.cells #[.int .u64 (wd f 0), .int .u64 (wd f 1), .int .u64 (wd f 2), .int .u64 (wd f 3)] 25)).alloc (.cells #[.int .u64 (wd g 0), .int .u64 (wd g 1), .int .u64 (wd g 2), .int .u64 (wd g 3)] 25)).alloc (.cells #[.int .u64 0, .int .u64 0, .int .u64 0, .int .u64 0] 25)) = W0 at *
  rw [← HA.out] at hF hG hR ⊢
  rw [← HA.out] at hb0
  have c0 := hF.drew.c0; have c1 := hF.drew.c1; have c2 := hF.drew.c2; have c3 := hF.drew.c3
  have d0 := hG.drew.c0; have d1 := hG.drew.c1; have d2 := hG.drew.c2; have d3 := hG.drew.c3
  have nF : A + 2 ≠ A := by omega
  have nG : A + 2 ≠ A + 1 := by omega
  go_region_held3 (fun w' => (w'.cell? ⟨A, 0, none⟩ = some (.int .u64 (wd f 0)) ∧ w'.cell? ⟨A, 1, none⟩ = some (.int .u64 (wd f 1)) ∧ w'.cell? ⟨A, 2, none⟩ = some (.int .u64 (wd f 2)) ∧ w'.cell? ⟨A, 3, none⟩ = some (.int .u64 (wd f 3))) ∧ w'.cell? ⟨A + 1, 0, none⟩ = some (.int .u64 (wd g 0)) ∧ w'.cell? ⟨A + 1, 1, none⟩ = some (.int .u64 (wd g 1)) ∧ w'.cell? ⟨A + 1, 2, none⟩ = some (.int .u64 (wd g 2)) ∧ w'.cell? ⟨A + 1, 3, none⟩ = some (.int .u64 (wd g 3)))
    (first | (with_reducible exact ⟨⟨c0, c1, c2, c3⟩, d0, d1, d2, d3⟩) | (with_reducible exact ⟨⟨(hF2.other nF _).c0, (hF2.other nF _).c1, (hF2.other nF _).c2, (hF2.other nF _).c3⟩, (hG2.other nG _).c0, (hG2.other nG _).c1, (hG2.other nG _).c2, (hG2.other nG _).c3⟩))
    (first
      | (go_at_call 17; refine (H1.out _).mono ?_; rintro e w1 ⟨rfl, hb1⟩; have hF1 := hF.drew.below hb1; have hG1 := hG.drew.below hb1; have hR1 := hR.drew.below hb1; have c0 := hF1.c0; have c1 := hF1.c1; have c2 := hF1.c2; have c3 := hF1.c3; have d0 := hG1.c0; have d1 := hG1.c1; have d2 := hG1.c2; have d3 := hG1.c3)
      | (go_at_call 15; refine (H2.out _).mono ?_; rintro e w2 ⟨rfl, hb2⟩; have hF2 := hF1.below hb2; have hG2 := hG1.below hb2; have hR2 := hR1.below hb2; have c0 := hF2.c0; have c1 := hF2.c1; have c2 := hF2.c2; have c3 := hF2.c3; have d0 := hG2.c0; have d1 := hG2.c1; have d2 := hG2.c2; have d3 := hG2.c3; have r0 := hR2.c0; have r1 := hR2.c1; have r2 := hR2.c2; have r3 := hR2.c3; have z0 := hR2.z0; have z1 := hR2.z1; have z2 := hR2.z2; have z3 := hR2.z3))
  go_wp2_with fail
  have q := hR2.store (lessF f g)
  have hb : Below w.heap.size w w2 := by
    have h := hb0
    rw [HA.out] at h
    exact h.drew.trans (hb1.mono h.size |>.trans (hb2.mono (Nat.le_trans h.size hb1.size)))
  exact bodyPost_ret (v := SV (lessF f g)) (by simp [results, Tryd.results16, go_sem, q.c0, q.c1, q.c2, q.c3]) rfl ⟨rfl, below_put4 hb (by rw [HA.out]; omega) _⟩
end Go.Proofs.YtgmoaglanjfdmaaDoor.SetW
