/- Walk of DfaAsks. -/
import Derived.Test.YtkghnjgioijgpaaKnows
import Derived.Test.YtkghnjgioijgpaaSameF
namespace Go.Proofs.Ytkghnjgioijgpaa.DfaW
set_option linter.unusedVariables false
set_option linter.unusedSimpArgs false
open Go.Proofs.Ytkghnjgioijgpaa.RegionU (Up wpU_taken wpU_one wpU_mono wpU_done wp_region_U does)
open Go.RowKit Go.Maps Go.Proofs.Ytkghnjgioijgpaa.PartM Go.Proofs.Ytkghnjgioijgpaa.PartW Go.Proofs.Ytkghnjgioijgpaa.DfaM
theorem Says.bool {e : Ending} {p : Prop} {b : Bool} (h : Says e p) (hb : b = true ↔ p) : e = .returned (.bool b) := by
  rcases h.elim with ⟨rfl, hp⟩ | ⟨rfl, hp⟩
  · rw [hb.2 hp]
  · cases b with
    | false => rfl
    | true => exact absurd (hb.1 rfl) hp
theorem bool_for (p : Prop) : ∃ b : Bool, b = true ↔ p := by
  by_cases h : p
  · exact ⟨true, by simp [h]⟩
  · exact ⟨false, by simp [h]⟩
def KD2 (W0 : World) (b d : Nat) (C D : Array Value) (m k : Mc) (W : World) : Prop := Bx W b C m ∧ Bx W d D k ∧ Below W0.heap.size W0 W
theorem KD2.up (W0 : World) (b d : Nat) (C D : Array Value) (m k : Mc) : Up (KD2 W0 b d C D m k) := fun W W' ⟨h1, h2, h3⟩ hr => ⟨h1.below hr, h2.below hr, h3.trans (hr.mono h3.size)⟩
theorem same_self (m : Mc) : SameM m m := ⟨by simp [sameA], rfl, rfl, rfl, rfl⟩
set_option maxRecDepth 100000 in
set_option maxHeartbeats 4000000 in
theorem DfaAsks_any {C D : Array Value} {m k : Mc} (w : World) (h : IsM w.heap.size w C m) (h2 : IsM w.heap.size w D k) :
    Calls Try.prog 3 #[.agg C, .agg D] w fun e w' => e = .returned (.bool true) ∧ Below w.heap.size w w' := by
  obtain ⟨hx, hy⟩ := Bx.new2 h h2
  have hb0 : Below w.heap.size w ((w.alloc (.cells C 27)).alloc (.cells D 27)) := ((Below.refl _ _).alloc (Nat.le_refl _) _).alloc (by simp) _
  obtain ⟨p, hp⟩ := bool_for (Ok m)
  obtain ⟨q, hq⟩ := bool_for (SameM m k)
  have HR := Lib.hid (fun W (h : IsM W.heap.size W C m) => (RightD_any W h).mono fun e w' (x : Says e (Ok m) ∧ Below W.heap.size W w') => And.intro (x.1.bool hp) x.2)
  have HF := Lib.hid (fun W (h : IsM W.heap.size W C m) => (refRightD_any W h).mono fun e w' (x : Says e (Ok m) ∧ Below W.heap.size W w') => And.intro (x.1.bool hp) x.2)
  have HS := Lib.hid (fun W (h : IsM W.heap.size W C m) (h2 : IsM W.heap.size W D k) => (SameD_any W h h2).mono fun e w' (x : Says e (SameM m k) ∧ Below W.heap.size W w') => And.intro (x.1.bool hq) x.2)
  have HG := Lib.hid (fun W (h : IsM W.heap.size W C m) (h2 : IsM W.heap.size W D k) => (refSameD_any W h h2).mono fun e w' (x : Says e (SameM m k) ∧ Below W.heap.size W w') => And.intro (x.1.bool hq) x.2)
  have HT := Lib.hid (fun W (h : IsM W.heap.size W C m) => (SameD_any W h h).mono fun e w' (x : Says e (SameM m m) ∧ Below W.heap.size W w') => And.intro (x.1.bool (b := true) (by simp [same_self])) x.2)
  have HB0 := Lib.hid hb0; have HX := Lib.hid hx; have HY := Lib.hid hy
  clear h h2 hx hy hb0 hp hq
  go_enter Try.func3, Try.ntmps3
  go_wp2_with fail
  obtain ⟨b, hb⟩ : ∃ b, b = w.heap.size := ⟨_, rfl⟩
  have hsz : (w.alloc (.cells C 27)).heap.size = b + 1 := by rw [hb, World.size_alloc]
  try rw [hsz] at HY
  try rw [← hb] at HX
  try rw [← hb] at HY
  rw [← hb]
  generalize (w.alloc (.cells C 27)).alloc (.cells D 27) = W0 at *
  have HD := Lib.hid (show KD2 W0 b (b + 1) C D m k W0.drew from ⟨HX.out.drew, HY.out.drew, (Below.refl _ _).drew⟩)
  clear hsz
  refine wp_region_U (by kernel_rfl) (KD2.up W0 b (b + 1) C D m k) HD.out ?_
  refine wpU_taken (i := 0) rfl (by kernel_rfl) (by kernel_rfl) (by kernel_rfl) (KD2.up W0 b (b + 1) C D m k) ?_
  apply Exists.intro
  refine ⟨Or.inl ⟨rfl, fun W hW => ?hy⟩, ?_⟩
  case hy =>
    obtain ⟨hX, hY, hB⟩ := hW
    exact does_eq (run_load_dfa (.tmp 2) rfl rfl hX)
  simp only [Act.put, List.setIfInBounds_toArray, List.set]
  refine wpU_taken (i := 1) rfl (by kernel_rfl) (by kernel_rfl) (by kernel_rfl) (KD2.up W0 b (b + 1) C D m k) ?_
  apply Exists.intro
  refine ⟨Or.inl ⟨rfl, fun W hW => ?hy⟩, ?_⟩
  case hy =>
    obtain ⟨hX, hY, hB⟩ := hW
    go_simp
    exact RegionU.does_call (HR.out W hX.is)
  simp only [Act.put, List.setIfInBounds_toArray, List.set]
  refine wpU_taken (i := 2) rfl (by kernel_rfl) (by kernel_rfl) (by kernel_rfl) (KD2.up W0 b (b + 1) C D m k) ?_
  apply Exists.intro
  refine ⟨Or.inl ⟨rfl, fun W hW => ?hy⟩, ?_⟩
  case hy =>
    obtain ⟨hX, hY, hB⟩ := hW
    exact does_eq (run_load_dfa (.tmp 2) rfl rfl hX)
  simp only [Act.put, List.setIfInBounds_toArray, List.set]
  refine wpU_taken (i := 3) rfl (by kernel_rfl) (by kernel_rfl) (by kernel_rfl) (KD2.up W0 b (b + 1) C D m k) ?_
  apply Exists.intro
  refine ⟨Or.inl ⟨rfl, fun W hW => ?hy⟩, ?_⟩
  case hy =>
    obtain ⟨hX, hY, hB⟩ := hW
    go_simp
    exact RegionU.does_call (HF.out W hX.is)
  simp only [Act.put, List.setIfInBounds_toArray, List.set]
  refine wpU_taken (i := 4) rfl (by kernel_rfl) (by kernel_rfl) (by kernel_rfl) (KD2.up W0 b (b + 1) C D m k) ?_
  apply Exists.intro
  refine ⟨Or.inl ⟨rfl, fun W hW => ?hy⟩, ?_⟩
  case hy =>
    obtain ⟨hX, hY, hB⟩ := hW
    go_simp
    try simp only [beq_self_eq_true, bne_self_eq_false, Bool.not_true, Bool.not_false, decide_true]
    exact RegionU.does_value rfl
  simp only [Act.put, List.setIfInBounds_toArray, List.set]
  refine wpU_taken (i := 5) rfl (by kernel_rfl) (by kernel_rfl) (by kernel_rfl) (KD2.up W0 b (b + 1) C D m k) ?_
  apply Exists.intro
  refine ⟨Or.inl ⟨rfl, fun W hW => ?hy⟩, ?_⟩
  case hy =>
    obtain ⟨hX, hY, hB⟩ := hW
    go_simp
    exact RegionU.does_value rfl
  simp only [Act.put, List.setIfInBounds_toArray, List.set]
  refine wpU_taken (i := 6) rfl (by kernel_rfl) (by kernel_rfl) (by kernel_rfl) (KD2.up W0 b (b + 1) C D m k) ?_
  apply Exists.intro
  refine ⟨Or.inl ⟨rfl, fun W hW => ?hy⟩, ?_⟩
  case hy =>
    obtain ⟨hX, hY, hB⟩ := hW
    exact does_eq (run_load_dfa (.tmp 2) rfl rfl hX)
  simp only [Act.put, List.setIfInBounds_toArray, List.set]
  refine wpU_taken (i := 7) rfl (by kernel_rfl) (by kernel_rfl) (by kernel_rfl) (KD2.up W0 b (b + 1) C D m k) ?_
  apply Exists.intro
  refine ⟨Or.inl ⟨rfl, fun W hW => ?hy⟩, ?_⟩
  case hy =>
    obtain ⟨hX, hY, hB⟩ := hW
    exact does_eq (run_load_dfa (.tmp 3) rfl rfl hY)
  simp only [Act.put, List.setIfInBounds_toArray, List.set]
  refine wpU_taken (i := 8) rfl (by kernel_rfl) (by kernel_rfl) (by kernel_rfl) (KD2.up W0 b (b + 1) C D m k) ?_
  apply Exists.intro
  refine ⟨Or.inl ⟨rfl, fun W hW => ?hy⟩, ?_⟩
  case hy =>
    obtain ⟨hX, hY, hB⟩ := hW
    go_simp
    exact RegionU.does_call (HS.out W hX.is hY.is)
  simp only [Act.put, List.setIfInBounds_toArray, List.set]
  refine wpU_taken (i := 9) rfl (by kernel_rfl) (by kernel_rfl) (by kernel_rfl) (KD2.up W0 b (b + 1) C D m k) ?_
  apply Exists.intro
  refine ⟨Or.inl ⟨rfl, fun W hW => ?hy⟩, ?_⟩
  case hy =>
    obtain ⟨hX, hY, hB⟩ := hW
    exact does_eq (run_load_dfa (.tmp 2) rfl rfl hX)
  simp only [Act.put, List.setIfInBounds_toArray, List.set]
  refine wpU_taken (i := 10) rfl (by kernel_rfl) (by kernel_rfl) (by kernel_rfl) (KD2.up W0 b (b + 1) C D m k) ?_
  apply Exists.intro
  refine ⟨Or.inl ⟨rfl, fun W hW => ?hy⟩, ?_⟩
  case hy =>
    obtain ⟨hX, hY, hB⟩ := hW
    exact does_eq (run_load_dfa (.tmp 3) rfl rfl hY)
  simp only [Act.put, List.setIfInBounds_toArray, List.set]
  refine wpU_taken (i := 11) rfl (by kernel_rfl) (by kernel_rfl) (by kernel_rfl) (KD2.up W0 b (b + 1) C D m k) ?_
  apply Exists.intro
  refine ⟨Or.inl ⟨rfl, fun W hW => ?hy⟩, ?_⟩
  case hy =>
    obtain ⟨hX, hY, hB⟩ := hW
    go_simp
    exact RegionU.does_call (HG.out W hX.is hY.is)
  simp only [Act.put, List.setIfInBounds_toArray, List.set]
  refine wpU_taken (i := 12) rfl (by kernel_rfl) (by kernel_rfl) (by kernel_rfl) (KD2.up W0 b (b + 1) C D m k) ?_
  apply Exists.intro
  refine ⟨Or.inl ⟨rfl, fun W hW => ?hy⟩, ?_⟩
  case hy =>
    obtain ⟨hX, hY, hB⟩ := hW
    go_simp
    try simp only [beq_self_eq_true, bne_self_eq_false, Bool.not_true, Bool.not_false, decide_true]
    exact RegionU.does_value rfl
  simp only [Act.put, List.setIfInBounds_toArray, List.set]
  refine wpU_taken (i := 13) rfl (by kernel_rfl) (by kernel_rfl) (by kernel_rfl) (KD2.up W0 b (b + 1) C D m k) ?_
  apply Exists.intro
  refine ⟨Or.inl ⟨rfl, fun W hW => ?hy⟩, ?_⟩
  case hy =>
    obtain ⟨hX, hY, hB⟩ := hW
    go_simp
    exact RegionU.does_value rfl
  simp only [Act.put, List.setIfInBounds_toArray, List.set]
  refine wpU_taken (i := 14) rfl (by kernel_rfl) (by kernel_rfl) (by kernel_rfl) (KD2.up W0 b (b + 1) C D m k) ?_
  apply Exists.intro
  refine ⟨Or.inl ⟨rfl, fun W hW => ?hy⟩, ?_⟩
  case hy =>
    obtain ⟨hX, hY, hB⟩ := hW
    go_simp
    exact RegionU.does_value rfl
  simp only [Act.put, List.setIfInBounds_toArray, List.set]
  refine wpU_taken (i := 15) rfl (by kernel_rfl) (by kernel_rfl) (by kernel_rfl) (KD2.up W0 b (b + 1) C D m k) ?_
  apply Exists.intro
  refine ⟨Or.inl ⟨rfl, fun W hW => ?hy⟩, ?_⟩
  case hy =>
    obtain ⟨hX, hY, hB⟩ := hW
    exact does_eq (run_load_dfa (.tmp 2) rfl rfl hX)
  simp only [Act.put, List.setIfInBounds_toArray, List.set]
  refine wpU_taken (i := 16) rfl (by kernel_rfl) (by kernel_rfl) (by kernel_rfl) (KD2.up W0 b (b + 1) C D m k) ?_
  apply Exists.intro
  refine ⟨Or.inl ⟨rfl, fun W hW => ?hy⟩, ?_⟩
  case hy =>
    obtain ⟨hX, hY, hB⟩ := hW
    exact does_eq (run_load_dfa (.tmp 2) rfl rfl hX)
  simp only [Act.put, List.setIfInBounds_toArray, List.set]
  refine wpU_taken (i := 17) rfl (by kernel_rfl) (by kernel_rfl) (by kernel_rfl) (KD2.up W0 b (b + 1) C D m k) ?_
  apply Exists.intro
  refine ⟨Or.inl ⟨rfl, fun W hW => ?hy⟩, ?_⟩
  case hy =>
    obtain ⟨hX, hY, hB⟩ := hW
    go_simp
    exact RegionU.does_call (HT.out W hX.is)
  simp only [Act.put, List.setIfInBounds_toArray, List.set]
  refine wpU_taken (i := 18) rfl (by kernel_rfl) (by kernel_rfl) (by kernel_rfl) (KD2.up W0 b (b + 1) C D m k) ?_
  apply Exists.intro
  refine ⟨Or.inl ⟨rfl, fun W hW => ?hy⟩, ?_⟩
  case hy =>
    obtain ⟨hX, hY, hB⟩ := hW
    go_simp
    exact RegionU.does_value rfl
  simp only [Act.put, List.setIfInBounds_toArray, List.set]
  refine wpU_taken (i := 19) rfl (by kernel_rfl) (by kernel_rfl) (by kernel_rfl) (KD2.up W0 b (b + 1) C D m k) ?_
  apply Exists.intro
  refine ⟨Or.inl ⟨rfl, fun W hW => ?hy⟩, ?_⟩
  case hy =>
    obtain ⟨hX, hY, hB⟩ := hW
    go_simp
    exact RegionU.does_value rfl
  simp only [Act.put, List.setIfInBounds_toArray, List.set]
  refine wpU_taken (i := 20) rfl (by kernel_rfl) (by kernel_rfl) (by kernel_rfl) (KD2.up W0 b (b + 1) C D m k) ?_
  apply Exists.intro
  refine ⟨Or.inl ⟨rfl, fun W hW => ?hy⟩, ?_⟩
  case hy =>
    obtain ⟨hX, hY, hB⟩ := hW
    go_simp
    exact RegionU.does_call (knows_any W)
  simp only [Act.put, List.setIfInBounds_toArray, List.set]
  refine wpU_taken (i := 21) rfl (by kernel_rfl) (by kernel_rfl) (by kernel_rfl) (KD2.up W0 b (b + 1) C D m k) ?_
  apply Exists.intro
  refine ⟨Or.inl ⟨rfl, fun W hW => ?hy⟩, ?_⟩
  case hy =>
    obtain ⟨hX, hY, hB⟩ := hW
    go_simp
    exact RegionU.does_value rfl
  simp only [Act.put, List.setIfInBounds_toArray, List.set]
  refine wpU_taken (i := 22) rfl (by kernel_rfl) (by kernel_rfl) (by kernel_rfl) (KD2.up W0 b (b + 1) C D m k) ?_
  apply Exists.intro
  refine ⟨Or.inl ⟨rfl, fun W hW => ?hy⟩, ?_⟩
  case hy =>
    obtain ⟨hX, hY, hB⟩ := hW
    go_simp
    exact RegionU.does_value rfl
  simp only [Act.put, List.setIfInBounds_toArray, List.set]
  refine wpU_done (by kernel_rfl) ?_
  rintro W ⟨-, -, hB⟩
  go_wp2_with fail
  go_ret
  exact ⟨rfl, HB0.out.trans (hB.mono HB0.out.size)⟩
end Go.Proofs.Ytkghnjgioijgpaa.DfaW
