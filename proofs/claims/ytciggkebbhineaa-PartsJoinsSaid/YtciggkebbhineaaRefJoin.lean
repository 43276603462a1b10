/- Walk of layer 19's document: Join. -/
import Derived.Test.YtciggkebbhineaaRefSets
import Derived.Test.YtciggkebbhineaaRegionH
namespace Go.Proofs.Ytciggkebbhineaa.PartW
set_option linter.unusedVariables false
set_option linter.unusedSimpArgs false
open Go.RowKit Go.Maps Go.Proofs.Ytciggkebbhineaa.PartM Go.Proofs.Ytciggkebbhineaa.SetM Go.Proofs.Ytciggkebbhineaa.SetW
open Go.Proofs.Ytciggkebbhineaa.RegionH (h_take h_one h_two o_value o_skip o_call h_done)

/-- Alike by the classes of two is alike by both. -/
theorem alike_cls {E : Nat → Nat → Bool} (hE : Eqv E) (a b : Nat) (ha : a < 256) (hb : b < 256) : alike (clsL E 256 (rk E 256)) a b = E a b := by
  rw [Bool.eq_iff_iff]
  unfold alike clsL
  rw [List.all_map, List.all_eq_true]
  constructor
  · intro h
    have h1 := h (nm E a) (List.mem_range.2 (nm_lt hE ha))
    simp only [Function.comp, cls, ha, hb, decide_true, Bool.true_and, beq_self_eq_true, beq_iff_eq] at h1
    have h2 : nm E b = nm E a := by simpa using h1.symm
    exact nm_inj hE h2.symm
  · intro h i hi
    have h1 := nm_congr hE h
    simp [cls, ha, hb, h1]
theorem joined_alike {f g : Nat → Nat} (a b : Nat) (ha : a < 256) (hb : b < 256) :
    alike (clsL (byKey f) 256 (rk (byKey f) 256) ++ clsL (byKey g) 256 (rk (byKey g) 256)) a b = byKey (fun b => (f b, g b)) a b := by
  rw [alike_app, alike_cls (byKey_eqv f) a b ha hb, alike_cls (byKey_eqv g) a b ha hb]
  unfold byKey
  rw [Bool.eq_iff_iff]; simp
theorem joined_nm {f g : Nat → Nat} : (∀ b, b < 256 → nm (alike (clsL (byKey f) 256 (rk (byKey f) 256) ++ clsL (byKey g) 256 (rk (byKey g) 256))) b = nm (byKey fun b => (f b, g b)) b) ∧ rk (alike (clsL (byKey f) 256 (rk (byKey f) 256) ++ clsL (byKey g) 256 (rk (byKey g) 256))) 256 = rk (byKey fun b => (f b, g b)) 256 := by
  obtain ⟨h1, h2⟩ := nm_ext (E := alike (clsL (byKey f) 256 (rk (byKey f) 256) ++ clsL (byKey g) 256 (rk (byKey g) 256))) (E' := byKey fun b => (f b, g b)) 256 (fun a b ha hb => joined_alike a b ha hb)
  exact ⟨h1, h2 256 (Nat.le_refl _)⟩

set_option maxRecDepth 100000 in
set_option maxHeartbeats 2000000 in
theorem refJoin_any {C D : Array Value} {f g : Nat → Nat} (hC : IsA C f) (hD : IsA D g) (hf : ∀ b, b < 256 → f b < 256) (hg : ∀ b, b < 256 → g b < 256) (w : World) :
    Calls Try.prog 9 #[.agg C, .agg D] w fun e w' => ∃ Y, e = .returned (.tuple #[.agg Y, .int .i64 (rk (byKey fun b => (f b, g b)) 256 : Nat)]) ∧ IsA Y (nm (byKey fun b => (f b, g b))) ∧ Below w.heap.size w w' := by
  obtain ⟨Z, hZ, hz⟩ := zeroA
  obtain ⟨i0, hi, hz0, hz1, hz2⟩ := info_parts infoSet
  have HZ := Lib.hid hZ; have HC := Lib.hid hC; have HD := Lib.hid hD; have HF := Lib.hid hf; have HG := Lib.hid hg
  clear hZ hC hD hf hg
  go_enter Try.func9, Try.ntmps9
  go_wp2_with fail
  have a1 := ((Ar.new w C 24).alloc (.cells D 24)).alloc (.cells Z 24)
  have a2 := (Ar.new (w.alloc (.cells C 24)) D 24).alloc (.cells Z 24)
  have a3 := Ar.new ((w.alloc (.cells C 24)).alloc (.cells D 24)) Z 24
  have b3 : Below w.heap.size w (((w.alloc (.cells C 24)).alloc (.cells D 24)).alloc (.cells Z 24)) := (((Below.refl _ w).alloc (Nat.le_refl _) _).alloc (by simp) _).alloc (by simp; omega) _
  have sz : (((w.alloc (.cells C 24)).alloc (.cells D 24)).alloc (.cells Z 24)).heap.size = w.heap.size + 3 := by simp
  simp only [World.size_alloc] at a2 a3
  generalize (((w.alloc (.cells C 24)).alloc (.cells D 24)).alloc (.cells Z 24)) = W0 at *
  obtain ⟨A, hA⟩ : ∃ A, A = w.heap.size := ⟨_, rfl⟩
  have HA := Lib.hid hA
  rw [← hA] at a1 a2 a3 ⊢
  clear hA
  obtain ⟨S, hS⟩ : ∃ S : World → Prop, S = fun W => Ar W A C 24 ∧ Ar W (A + 1) D 24 := ⟨_, rfl⟩
  have hS0 : S W0.drew := by rw [hS]; exact ⟨a1, a2⟩
  have HS := Lib.hid hS
  refine wp_region_held (S := S) (by kernel_rfl) ?_
  change wpAnyH _ _ _ _ _ 10 _ _ W0.drew
  refine h_take (i := 0) (v := .agg C) rfl (by kernel_rfl) (by kernel_rfl) (by kernel_rfl) (fun _ _ _ h => h) (by kernel_rfl) (fun W hW => run_load_arr 24 (.tmp 2) rfl rfl (by rw [hS] at hW; exact hW.1) HC.out.size Try.underlying24 infoA) hS0 ?_
  simp only [Act.put, List.setIfInBounds_toArray, List.set]
  refine h_take (i := 2) (v := .agg D) rfl (by kernel_rfl) (by kernel_rfl) (by kernel_rfl) (fun _ _ _ h => h) (by kernel_rfl) (fun W hW => run_load_arr 24 (.tmp 3) rfl rfl (by rw [hS] at hW; exact hW.2) HD.out.size Try.underlying24 infoA) hS0 ?_
  simp only [Act.put, List.setIfInBounds_toArray, List.set]
  refine h_one (i := 1) (by kernel_rfl) ?_
  refine o_call rfl (by kernel_rfl) (f := 21) (args := #[.agg C]) (by go_simp) ?_
  refine (refSets_any HC.out HF.out _).mono ?_
  rintro e w1 ⟨v1, rfl, ho1, hb1⟩
  have hS1 : S w1 := by rw [hS]; exact ⟨Ar.below (show Ar W0.drew A C 24 from a1) hb1, Ar.below (show Ar W0.drew (A + 1) D 24 from a2) hb1⟩
  have a31 : Ar w1 (A + 1 + 1) Z 24 := Ar.below (show Ar W0.drew (A + 1 + 1) Z 24 from a3) hb1
  have b1 : Below w.heap.size w w1 := b3.drew.trans (hb1.mono b3.size)
  have hS1' := hS1
  rw [hS] at hS1'
  refine ⟨v1, rfl, hS1, ?_⟩
  simp only [Act.put, List.setIfInBounds_toArray, List.set]
  refine h_one (i := 3) (by kernel_rfl) ?_
  refine o_call rfl (by kernel_rfl) (f := 21) (args := #[.agg D]) (by go_simp) ?_
  refine (refSets_any HD.out HG.out _).mono ?_
  rintro e w2 ⟨v2, rfl, ho2, hb2⟩
  have hS2 : S w2 := by rw [hS]; exact ⟨hS1'.1.below hb2, hS1'.2.below hb2⟩
  have a32 := a31.below hb2
  have b2 := b1.trans (hb2.mono b1.size)
  have ho1' := owns_below ho1 hb2
  refine ⟨v2, rfl, hS2, ?_⟩
  simp only [Act.put, List.setIfInBounds_toArray, List.set]
  obtain ⟨n1, hn1⟩ : ∃ n, n = rk (byKey f) 256 := ⟨_, rfl⟩
  obtain ⟨n2, hn2⟩ : ∃ n, n = rk (byKey g) 256 := ⟨_, rfl⟩
  have hp2 : 0 < n2 := by rw [hn2]; exact Nat.lt_of_le_of_lt (Nat.zero_le _) (nm_lt (byKey_eqv g) (b := 0) (n := 256) (by omega))
  have hl1 : n1 ≤ 256 := by rw [hn1]; exact rk_le 256
  have hl2 : n2 ≤ 256 := by rw [hn2]; exact rk_le 256
  have hjn := joined_nm (f := f) (g := g)
  rw [← hn1, ← hn2] at hjn
  rw [← hn1] at ho1'
  rw [← hn2] at ho2
  obtain ⟨bb, cap2, rfl, _, _, _⟩ := owns_shape ho2 hp2
  have hbz : W0.drew.heap.size ≤ w2.heap.size := Nat.le_trans hb1.size hb2.size
  obtain ⟨v3, w3, hr, ho3, hg3, -, -⟩ := run_append_own_at (P := Try.prog) w2 W0.drew.heap.size 22 22 33 i0 _ 4 32 Try.underlying22 hi hz0 hz1 hz2 rfl (by decide) v1 n1 _ ho1' ⟨bb, 0, none⟩ n2 cap2 _ ho2.1 (ho2.cells rfl) (by
    intro u hu
    unfold setCells at hu
    rw [List.mem_flatMap] at hu
    obtain ⟨_, _, hu⟩ := hu
    simp at hu
    rcases hu with rfl | rfl | rfl | rfl <;> rfl) (by unfold maxLen; omega) (by omega) hbz
  have hS2' := hS2
  rw [hS] at hS2'
  have hA3 : Ar w3 A C 24 := (hg3.block A hS2'.1.lt (fun e => owns_ne ho1' hS2'.1 (by decide) e.symm rfl)).trans hS2'.1
  have hA3' : Ar w3 (A + 1) D 24 := (hg3.block (A + 1) hS2'.2.lt (fun e => owns_ne ho1' hS2'.2 (by decide) e.symm rfl)).trans hS2'.2
  have a33 : Ar w3 (A + 1 + 1) Z 24 := (hg3.block (A + 1 + 1) a32.lt (fun e => owns_ne ho1' a32 (by decide) e.symm rfl)).trans a32
  have hS3 : S w3 := by rw [hS]; exact ⟨hA3, hA3'⟩
  have b4 : Below w.heap.size w w3 := b2.grown hg3 b2.size (fun k e => Nat.le_trans b3.drew.size (World.ownsRow.lt ho1' k e).1)
  rw [← setCells_app] at ho3
  have HV := Lib.hid (SSl.of_owns ho3)
  clear ho1 ho2 ho3 hb1 hb2
  refine h_one (i := 4) (by kernel_rfl) ?_
  refine o_value (v := v3) (w' := w3) rfl (by kernel_rfl) (by unfold execOp; simp only [resolve, invoke, builtin, Sem.run_bind, Sem.run_pure, Result.andThen_ok, List.map_toArray, List.map_cons, List.map_nil, Act.eval]; simp [hr, Result.andThen]) ?_
  refine ⟨hS3, ?_⟩
  simp only [Act.put, List.setIfInBounds_toArray, List.set]
  refine h_one (i := 5) (by kernel_rfl) ?_
  refine o_call rfl (by kernel_rfl) (f := 7) (args := #[v3]) (by go_simp) ?_
  refine (refOf_any HV.out).mono ?_
  rintro e w4 ⟨Y, rfl, hY, hb5⟩
  rw [hjn.2]
  have HY := Lib.hid (hY.congr fun i hi => hjn.1 i hi)
  have hA4 := hA3.below hb5
  have hA4' := hA3'.below hb5
  have a34 := a33.below hb5
  have b5 := b4.trans (hb5.mono b4.size)
  have hS4 : S w4 := by rw [hS]; exact ⟨hA4, hA4'⟩
  have hS5 : S (w4.setRow (A + 1 + 1) Y) := by rw [hS]; exact ⟨(heap_row _ _ _ (by omega)).trans hA4, (heap_row _ _ _ (by omega)).trans hA4'⟩
  refine ⟨_, rfl, hS4, ?_⟩
  simp only [Act.put, List.setIfInBounds_toArray, List.set]
  refine h_take (i := 6) (v := .agg Y) rfl (by kernel_rfl) (by kernel_rfl) (by kernel_rfl) (fun _ _ _ h => h) (by kernel_rfl) (fun W hW => by go_simp) hS4 ?_
  simp only [Act.put, List.setIfInBounds_toArray, List.set]
  refine h_take (i := 7) (v := .int .i64 (rk (byKey fun b => (f b, g b)) 256 : Nat)) rfl (by kernel_rfl) (by kernel_rfl) (by kernel_rfl) (fun _ _ _ h => h) (by kernel_rfl) (fun W hW => by go_simp) hS4 ?_
  simp only [Act.put, List.setIfInBounds_toArray, List.set]
  refine h_one (i := 8) (by kernel_rfl) ?_
  refine o_skip rfl (by kernel_rfl) (run_store_arr 24 (.tmp 4) (.tmp 12) rfl rfl rfl a34 HZ.out.size HY.out infoA) ?_
  refine ⟨hS5, ?_⟩
  simp only [Act.put, List.setIfInBounds_toArray, List.set]
  refine h_one (i := 9) (by kernel_rfl) ?_
  refine o_value (v := .int .i64 (rk (byKey fun b => (f b, g b)) 256 : Nat)) (w' := w4.setRow (A + 1 + 1) Y) rfl (by kernel_rfl) (by go_simp) ?_
  refine ⟨hS5, ?_⟩
  simp only [Act.put, List.setIfInBounds_toArray, List.set]
  refine h_done (by kernel_rfl) ?_
  have hld := (a34.row Y).loadVar (P := Try.prog) HY.out.size Try.underlying24 infoA
  have HB := Lib.hid (below_row b5 (show w.heap.size ≤ A + 1 + 1 by have := HA.out; omega) Y)
  clear hS5 hS4 hA4 hA4' a34 b5 hb5 hY
  go_wp2_with fail
  refine bodyPost_ret (v := .tuple #[.agg Y, .int .i64 (rk (byKey fun b => (f b, g b)) 256 : Nat)]) ?_ rfl ⟨Y, rfl, HY.out, HB.out⟩
  rw [results_cell_tmp rfl]
  simp [asAddr, Result.andThen, hld]
end Go.Proofs.Ytciggkebbhineaa.PartW
