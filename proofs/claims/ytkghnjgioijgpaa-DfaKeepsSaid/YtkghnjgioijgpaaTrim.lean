/- Walk of Trim. -/
import Derived.Test.YtkghnjgioijgpaaKeep
namespace Go.Proofs.Ytkghnjgioijgpaa.DfaW
set_option linter.unusedVariables false
set_option linter.unusedSimpArgs false
open Go.Proofs.Ytkghnjgioijgpaa.RegionU (Up wpU_taken wpU_one wpU_mono wpU_done wp_region_U does wpT_taken wpT_one wpT_two wpT_done wp_region_T)
open Go.RowKit Go.Maps Go.Proofs.Ytkghnjgioijgpaa.PartM Go.Proofs.Ytkghnjgioijgpaa.PartW Go.Proofs.Ytkghnjgioijgpaa.DfaM
/-- A part of what was returned. -/
def tup (u : Value) (i : Nat) : Value := match u with | .tuple xs => xs.getD i undef | _ => undef
def KT (W0 : World) (m : Mc) (R : List Int) (k : Int) (u : Value) (W : World) : Prop := ∃ D, u = .tuple #[.agg D, .int .i64 k] ∧ Rd W0.heap.size W D (keptM m R)
theorem KT.up (W0 : World) (m : Mc) (R : List Int) (k : Int) (u : Value) : Up (KT W0 m R k u) := fun W W' ⟨D, h1, h2⟩ hr => ⟨D, h1, h2.next hr⟩
set_option maxRecDepth 100000 in
set_option maxHeartbeats 4000000 in
theorem Trim_any {C : Array Value} {m : Mc} (w : World) (h : IsM w.heap.size w C m) :
    Calls Try.prog 28 #[.agg C] w fun e w' => ∃ D, e = .returned (.tuple #[.agg D, .int .i64 (keptE m (castL (reachV m)))]) ∧ Rd w.heap.size w' D (keptM m (castL (reachV m))) ∧ Below w.heap.size w w' := by
  have hx := (Bx.new h).alloc (.cells Try.zeroCells27 27)
  have hz : Ar ((w.alloc (.cells C 27)).alloc (.cells Try.zeroCells27 27)) (w.heap.size + 1) Try.zeroCells27 27 := by
    have := Ar.new (w.alloc (.cells C 27)) Try.zeroCells27 27
    rw [World.size_alloc] at this; exact this
  have hb0 : Below w.heap.size w ((w.alloc (.cells C 27)).alloc (.cells Try.zeroCells27 27)) := ((Below.refl _ _).alloc (Nat.le_refl _) _).alloc (by simp) _
  have hs0 : ((w.alloc (.cells C 27)).alloc (.cells Try.zeroCells27 27)).heap.size = w.heap.size + 2 := by simp
  obtain ⟨R, hR⟩ : ∃ R, R = castL (reachV m) := ⟨_, rfl⟩
  have H1 := Lib.hid (fun W (h : IsM W.heap.size W C m) => by have := Reach_any W h; rw [← hR] at this; exact this)
  obtain ⟨k, hk⟩ : ∃ k, k = keptE m R := ⟨_, rfl⟩
  have H2 := Lib.hid (fun W u (h : IsM W.heap.size W C m) (hu : IS W.heap.size W u R) => by have := Keep_any W h hu; rw [← hk] at this; exact this)
  rw [← hR, ← hk]
  have HX := Lib.hid hx; have HZ := Lib.hid hz; have HB0 := Lib.hid hb0; have HS0 := Lib.hid hs0; have HZS := Lib.hid zc_size
  clear hx hz hb0 hs0 h hR hk
  go_enter Try.func28, Try.ntmps28
  go_wp2_with fail
  obtain ⟨B, hB⟩ : ∃ B, B = w.heap.size := ⟨_, rfl⟩
  have HBB := Lib.hid hB
  generalize (w.alloc (.cells C 27)).alloc (.cells Try.zeroCells27 27) = W0 at *
  rw [← hB] at HX HZ HS0 ⊢
  clear hB
  have HD := Lib.hid (KD.of HX.out (Below.refl _ _).drew)
  refine wp_region_T 6 (by kernel_rfl) (by kernel_rfl) (KD.up W0 B C m) HD.out ?_
  refine wpT_taken (i := 0) rfl (by kernel_rfl) (by kernel_rfl) (by kernel_rfl) (by kernel_rfl) (by kernel_rfl) (KD.up W0 B C m) ?_
  apply Exists.intro
  refine ⟨Or.inl ⟨rfl, fun W hW => ?hy⟩, ?_⟩
  case hy =>
    obtain ⟨hX, hB⟩ := hW
    exact does_eq (run_load_dfa (.tmp 1) rfl rfl hX)
  simp only [Act.put, List.setIfInBounds_toArray, List.set]
  refine wpT_taken (i := 1) rfl (by kernel_rfl) (by kernel_rfl) (by kernel_rfl) (by kernel_rfl) (by kernel_rfl) (KD.up W0 B C m) ?_
  apply Exists.intro
  refine ⟨Or.inl ⟨rfl, fun W hW => ?hy⟩, ?_⟩
  case hy =>
    obtain ⟨hX, hB⟩ := hW
    exact does_eq (run_load_dfa (.tmp 1) rfl rfl hX)
  simp only [Act.put, List.setIfInBounds_toArray, List.set]
  refine wpT_one (i := 2) (by kernel_rfl) (by kernel_rfl) rfl rfl (OT W0.heap.size R) (OT.up _ _) (fun W hW => ?hy) ?_
  case hy =>
    obtain ⟨hX, hB⟩ := hW
    go_simp
    exact does_in ((H1.out W hX.is).mono fun e w' ⟨v, h, ho, hb⟩ => ⟨v, h, owns_base ho hB.size, hb⟩)
  intro u1
  simp only [Act.put, List.setIfInBounds_toArray, List.set]
  refine wpT_one (i := 3) (by kernel_rfl) (by kernel_rfl) rfl rfl (KT W0 m R k) (KT.up _ _ _ _) (fun W hW => ?hy) ?_
  case hy =>
    obtain ⟨⟨hX, hB⟩, h1⟩ := hW
    go_simp
    exact does_in ((H2.out W u1 hX.is (OI.is h1)).mono fun e w' ⟨D, h, hd, hb⟩ => ⟨_, h, ⟨D, rfl, hd.mono hB.size⟩, hb⟩)
  intro u2
  simp only [Act.put, List.setIfInBounds_toArray, List.set]
  refine wpT_taken (i := 4) rfl (by kernel_rfl) (by kernel_rfl) (by kernel_rfl) (by kernel_rfl) (by kernel_rfl) (((KD.up W0 B C m).and (OT.up _ _ u1)).and (KT.up _ _ _ _ u2)) ?_
  refine ⟨(tup u2 0), Or.inl ⟨rfl, fun W hW => ?hy⟩, ?_⟩
  case hy =>
    obtain ⟨⟨⟨hX, hB⟩, h1⟩, D, rfl, hD⟩ := hW
    go_simp
    exact RegionU.does_value rfl
  simp only [Act.put, List.setIfInBounds_toArray, List.set]
  refine wpT_taken (i := 5) rfl (by kernel_rfl) (by kernel_rfl) (by kernel_rfl) (by kernel_rfl) (by kernel_rfl) (((KD.up W0 B C m).and (OT.up _ _ u1)).and (KT.up _ _ _ _ u2)) ?_
  refine ⟨(tup u2 1), Or.inl ⟨rfl, fun W hW => ?hy⟩, ?_⟩
  case hy =>
    obtain ⟨⟨⟨hX, hB⟩, h1⟩, D, rfl, hD⟩ := hW
    go_simp
    exact RegionU.does_value rfl
  simp only [Act.put, List.setIfInBounds_toArray, List.set]
  refine wpT_done (by kernel_rfl) ?_
  intro W hW
  obtain ⟨⟨⟨hX, hB⟩, h1⟩, D, rfl, hD⟩ := hW
  have hZ := HZ.out.below hB
  have HRES := Lib.hid (show Rd w.heap.size (W.setRow (B + 1) D) D (keptM m R) from (hD.row (b := B + 1) (by rw [HS0.out]; omega) _).mono HB0.out.size)
  have HBW := Lib.hid (below_row (HB0.out.trans (hB.mono HB0.out.size)) (show w.heap.size ≤ B + 1 by rw [HBB.out]; omega) D)
  have HRW := Lib.hid (hZ.row D); have HSZ := Lib.hid hD.is.size; have HON := Lib.hid hD.is.one; have HZZ := Lib.hid hZ
  clear hX hB h1 hD hZ
  refine wpList_store_dfa (B := B + 1) (D := D) ?g1 (.tmp 2) (.tmp 8) ?g2 ?g3 ?g4 HZZ.out zc_size HSZ.out HON.out ?g5
  case g1 => rfl
  case g2 => rfl
  case g3 => rfl
  case g4 => rfl
  simp only [Act.put, tup]
  go_wp2_with fail
  exact bodyPost_ret (res_kept rfl rfl rfl HRW.out HSZ.out) rfl ⟨_, rfl, HRES.out, HBW.out⟩
end Go.Proofs.Ytkghnjgioijgpaa.DfaW
