/- Walk of LabelUsed. -/
import Derived.Test.YtlfmkiendaecaaaLabelNames
namespace Go.Proofs.Ytlfmkiendaecaaa.DfaW
set_option linter.unusedVariables false
set_option linter.unusedSimpArgs false
open Go.Proofs.Ytlfmkiendaecaaa.RegionU (Up wpU_taken wpU_one wpU_mono wpU_done wp_region_U does)
open Go.RowKit Go.Maps Go.Proofs.Ytlfmkiendaecaaa.PartM Go.Proofs.Ytlfmkiendaecaaa.PartW Go.Proofs.Ytlfmkiendaecaaa.TxM
theorem Says.bool {e : Ending} {p : Prop} {b : Bool} (h : Says e p) (hb : b = true ↔ p) : e = .returned (.bool b) := by
  rcases h.elim with ⟨rfl, hp⟩ | ⟨rfl, hp⟩
  · rw [hb.2 hp]
  · cases b with
    | false => rfl
    | true => exact absurd (hb.1 rfl) hp
/-- A machine in its box, and all that lay in W0. -/
def KD (W0 : World) (b : Nat) (C : Array Value) (m : Mc) (W : World) : Prop := Bx W b C m ∧ Below W0.heap.size W0 W
theorem KD.up (W0 : World) (b : Nat) (C : Array Value) (m : Mc) : Up (KD W0 b C m) := fun W W' ⟨h1, h2⟩ hr => ⟨h1.below hr, h2.trans (hr.mono h2.size)⟩
/-- A list of texts; a slice of such lists. -/
def UT (l : List ByteArray) (u : Value) (W : World) : Prop := TS W.heap.size W u l
theorem UT.up (l : List ByteArray) (u : Value) : Up (UT l u) := fun W W' h hr => (TS.below h hr).up hr.size
def ULS (ll : List (List ByteArray)) (u : Value) (W : World) : Prop := LS W.heap.size W u ll
theorem ULS.up (ll : List (List ByteArray)) (u : Value) : Up (ULS ll u) := fun W W' h hr => (LS.below h hr).up hr.size
theorem LS.new (w : World) (us : List Value) (ll : List (List ByteArray)) (t : TypeId) (hl : us.length = ll.length) (hm : us.length ≤ maxLen) (h : ∀ i, i < ll.length → ∃ vi, us[i]? = some vi ∧ TS w.heap.size w vi (ll.getD i [])) :
    LS (w.alloc (.cells us.toArray t)).heap.size (w.alloc (.cells us.toArray t)) (.slice (some ⟨w.heap.size, 0, none⟩) us.length us.length) ll := by
  have hb : Below w.heap.size w (w.alloc (.cells us.toArray t)) := (Below.refl _ _).alloc (Nat.le_refl _) _
  refine ⟨us, ⟨_, us.length, rfl, Nat.le_refl _, hm, fun i hi => ⟨w.heap.size, 0, rfl, by simp, ?_⟩⟩, hl, fun i hi => ?_⟩
  · rw [World.cell?_alloc_new, Nat.zero_add]; simp
  · obtain ⟨vi, h1, h2⟩ := h i hi
    exact ⟨vi, h1, (h2.below hb).up hb.size⟩
theorem LS.new3 (w : World) (u1 u2 u3 : Value) (l1 l2 l3 : List ByteArray) (t : TypeId) (h1 : TS w.heap.size w u1 l1) (h2 : TS w.heap.size w u2 l2) (h3 : TS w.heap.size w u3 l3) :
    LS (w.alloc (.cells #[u1, u2, u3] t)).heap.size (w.alloc (.cells #[u1, u2, u3] t)) (.slice (some ⟨w.heap.size, 0, none⟩) 3 3) [l1, l2, l3] :=
  LS.new w [u1, u2, u3] [l1, l2, l3] t rfl (by unfold maxLen; simp) fun i hi => by
    have : i = 0 ∨ i = 1 ∨ i = 2 := by simp at hi; omega
    rcases this with rfl | rfl | rfl
    · exact ⟨u1, rfl, h1⟩
    · exact ⟨u2, rfl, h2⟩
    · exact ⟨u3, rfl, h3⟩
theorem LS.none (B : Nat) (w : World) : LS B w (.slice none 0 0) [] := ⟨[], VS.nil _ _ _, rfl, fun i hi => by simp at hi⟩
theorem used_small (m : Mc) : (usedV m).length ≤ 64 := by
  by_cases h : Ok m
  · have := used_len h; have := h.nms.1; omega
  · rw [usedV_no h]; simp
theorem UsedC.ut {f : FuncId} (H : UsedC f) {C : Array Value} {m : Mc} {U : List ByteArray} (hU : U = usedV m) (W : World) (h : IsM W.heap.size W C m) : Calls Try.prog f #[.agg C] W fun e w' => ∃ u, e = .returned u ∧ UT U u w' ∧ Below W.heap.size W w' :=
  (H W h).mono fun e w' ⟨v, h1, h2, h3⟩ => ⟨v, h1, by rw [hU]; exact h2.is, h3⟩
theorem UnionC.ut {f : FuncId} (H : UnionC f) {ll : List (List ByteArray)} {R : List ByteArray} (hl : ll.flatten.length ≤ 4194303) (hz : ∀ x ∈ ll.flatten, x.size ≤ maxLen) (hR : R = risen ll.flatten) (W : World) (u : Value) (h : LS W.heap.size W u ll) : Calls Try.prog f #[u] W fun e w' => ∃ u, e = .returned u ∧ UT R u w' ∧ Below W.heap.size W w' :=
  (H W h hl hz).mono fun e w' ⟨v, h1, h2, h3⟩ => ⟨v, h1, by rw [hR]; exact h2.is, h3⟩
theorem used_max (m : Mc) : ∀ x ∈ usedV m, x.size ≤ maxLen := fun x hx => by
  by_cases h : Ok m
  · have := name_size (used_ok h ((mem_usedV h).1 hx)); unfold maxLen; omega
  · rw [usedV_no h] at hx; cases hx
set_option maxRecDepth 100000 in
set_option maxHeartbeats 8000000 in
theorem LabelUsed_any (HU : UsedC 8) (HN : UnionC 10) (HKN : KnowsC) {C : Array Value} {m : Mc} {va vb : Value} {la lb : List ByteArray} (w : World) (h : IsM w.heap.size w C m) (hva : TS w.heap.size w va la) (hvb : TS w.heap.size w vb lb) (hla : la.length ≤ 1048576) (hlb : lb.length ≤ 1048576) (hza : ∀ x ∈ la, x.size ≤ maxLen) (hzb : ∀ x ∈ lb, x.size ≤ maxLen) :
    Calls Try.prog 3 #[.agg C, va, vb] w fun e w' => e = .returned (.bool true) ∧ Below w.heap.size w w' := by
  have hx := Bx.new h
  have hb0 : Below w.heap.size w (w.alloc (.cells C 27)) := (Below.refl _ _).alloc (Nat.le_refl _) _
  obtain ⟨U, hU⟩ : ∃ U, U = usedV m := ⟨_, rfl⟩
  have hsm := used_small m
  have H1 := Lib.hid (fun W h => HU.ut (C := C) hU W h)
  have H2 := Lib.hid (fun W h => refUsedC.ut (C := C) hU W h)
  have hfl : [la, lb, U].flatten.length ≤ 4194303 := by rw [hU]; simp; omega
  have hfz : ∀ x ∈ [la, lb, U].flatten, x.size ≤ maxLen := fun x hx => by
    simp only [List.flatten_cons, List.flatten_nil, List.append_nil, List.mem_append] at hx
    rcases hx with hx | hx | hx
    · exact hza x hx
    · exact hzb x hx
    · rw [hU] at hx; exact used_max m x hx
  obtain ⟨R, hR⟩ : ∃ R, R = risen [la, lb, U].flatten := ⟨_, rfl⟩
  have H3 := Lib.hid (fun W u h => HN.ut hfl hfz hR W u h)
  have H4 := Lib.hid (fun W u h => refUnionC.ut hfl hfz hR W u h)
  have H5 := Lib.hid (fun W => HN.ut (ll := []) (R := []) (by simp) (by simp) rfl W _ (LS.none _ _))
  have H6 := Lib.hid (fun W u1 u2 X (h1 : TS W.heap.size W u1 X) (h2 : TS W.heap.size W u2 X) => (Texts_any W (Nat.le_refl _) (Nat.le_refl _) h1 h2).mono fun e w' (x : Says e (X = X) ∧ Dr W w') => And.intro (x.1.bool (b := true) (by simp)) (x.2.below (B := W.heap.size)))
  have HVA := Lib.hid (fun W (hb : Below (w.alloc (.cells C 27)).heap.size (w.alloc (.cells C 27)) W) => ((hva.below (hb0.trans (hb.mono hb0.size))).up (hb0.trans (hb.mono hb0.size)).size))
  have HVB := Lib.hid (fun W (hb : Below (w.alloc (.cells C 27)).heap.size (w.alloc (.cells C 27)) W) => ((hvb.below (hb0.trans (hb.mono hb0.size))).up (hb0.trans (hb.mono hb0.size)).size))
  obtain ⟨aa, ca, rfl, _, _, _⟩ := hva.open
  obtain ⟨ab, cb, rfl, _, _, _⟩ := hvb.open
  obtain ⟨La, hLa⟩ : ∃ n, n = la.length := ⟨_, rfl⟩
  obtain ⟨Lb, hLb⟩ : ∃ n, n = lb.length := ⟨_, rfl⟩
  rw [← hLa] at HVA ⊢
  rw [← hLb] at HVB ⊢
  have HB0 := Lib.hid hb0; have HX := Lib.hid hx
  clear h hx hb0 hva hvb hU hR hfl hfz hza hzb hsm hla hlb hLa hLb
  go_enter Try.func3, Try.ntmps3
  go_wp2_with fail
  obtain ⟨b, hb⟩ : ∃ b, b = w.heap.size := ⟨_, rfl⟩
  rw [← hb] at HX ⊢
  generalize (w.alloc (.cells C 27)) = W0 at *
  have HD := Lib.hid (show KD W0 b C m W0.drew from ⟨HX.out.drew, (Below.refl _ _).drew⟩)
  refine wp_region_U (by kernel_rfl) (KD.up W0 b C m) HD.out ?_
  refine wpU_taken (i := 0) rfl (by kernel_rfl) (by kernel_rfl) (by kernel_rfl) (KD.up W0 b C m) ?_
  apply Exists.intro
  refine ⟨Or.inl ⟨rfl, fun W hW => ?hy⟩, ?_⟩
  case hy =>
    obtain ⟨hX, hB⟩ := hW
    exact does_eq (run_load_dfa (.tmp 3) rfl rfl hX)
  simp only [Act.put, List.setIfInBounds_toArray, List.set]
  refine wpU_taken (i := 2) rfl (by kernel_rfl) (by kernel_rfl) (by kernel_rfl) (KD.up W0 b C m) ?_
  apply Exists.intro
  refine ⟨Or.inl ⟨rfl, fun W hW => ?hy⟩, ?_⟩
  case hy =>
    obtain ⟨hX, hB⟩ := hW
    exact does_eq (run_load_dfa (.tmp 3) rfl rfl hX)
  simp only [Act.put, List.setIfInBounds_toArray, List.set]
  refine wpU_one (i := 1) (by kernel_rfl) rfl rfl (UT U) (UT.up _) (fun W hW => ?hy) ?_
  case hy =>
    obtain ⟨hX, hB⟩ := hW
    go_simp
    exact does_in (H1.out W hX.is)
  intro u1
  simp only [Act.put, List.setIfInBounds_toArray, List.set]
  refine wpU_one (i := 3) (by kernel_rfl) rfl rfl (UT U) (UT.up _) (fun W hW => ?hy) ?_
  case hy =>
    obtain ⟨⟨hX, hB⟩, hu1⟩ := hW
    go_simp
    exact does_in (H2.out W hX.is)
  intro u3
  simp only [Act.put, List.setIfInBounds_toArray, List.set]
  refine wpU_taken (i := 4) rfl (by kernel_rfl) (by kernel_rfl) (by kernel_rfl) (((KD.up W0 b C m).and (UT.up _ u1)).and (UT.up _ u3)) ?_
  apply Exists.intro
  refine ⟨Or.inl ⟨rfl, fun W hW => ?hy⟩, ?_⟩
  case hy =>
    obtain ⟨⟨⟨hX, hB⟩, hu1⟩, hu3⟩ := hW
    go_simp
    exact RegionU.does_call (H6.out W _ _ _ hu1 hu3)
  simp only [Act.put, List.setIfInBounds_toArray, List.set]
  refine wpU_taken (i := 5) rfl (by kernel_rfl) (by kernel_rfl) (by kernel_rfl) (((KD.up W0 b C m).and (UT.up _ u1)).and (UT.up _ u3)) ?_
  apply Exists.intro
  refine ⟨Or.inl ⟨rfl, fun W hW => ?hy⟩, ?_⟩
  case hy =>
    obtain ⟨⟨⟨hX, hB⟩, hu1⟩, hu3⟩ := hW
    go_simp
    exact RegionU.does_value rfl
  simp only [Act.put, List.setIfInBounds_toArray, List.set]
  refine wpU_taken (i := 6) rfl (by kernel_rfl) (by kernel_rfl) (by kernel_rfl) (((KD.up W0 b C m).and (UT.up _ u1)).and (UT.up _ u3)) ?_
  apply Exists.intro
  refine ⟨Or.inl ⟨rfl, fun W hW => ?hy⟩, ?_⟩
  case hy =>
    obtain ⟨⟨⟨hX, hB⟩, hu1⟩, hu3⟩ := hW
    go_simp
    exact RegionU.does_value rfl
  simp only [Act.put, List.setIfInBounds_toArray, List.set]
  refine wpU_taken (i := 7) rfl (by kernel_rfl) (by kernel_rfl) (by kernel_rfl) (((KD.up W0 b C m).and (UT.up _ u1)).and (UT.up _ u3)) ?_
  apply Exists.intro
  refine ⟨Or.inl ⟨rfl, fun W hW => ?hy⟩, ?_⟩
  case hy =>
    obtain ⟨⟨⟨hX, hB⟩, hu1⟩, hu3⟩ := hW
    go_simp
    exact RegionU.does_value rfl
  simp only [Act.put, List.setIfInBounds_toArray, List.set]
  refine wpU_taken (i := 12) rfl (by kernel_rfl) (by kernel_rfl) (by kernel_rfl) (((KD.up W0 b C m).and (UT.up _ u1)).and (UT.up _ u3)) ?_
  apply Exists.intro
  refine ⟨Or.inl ⟨rfl, fun W hW => ?hy⟩, ?_⟩
  case hy =>
    obtain ⟨⟨⟨hX, hB⟩, hu1⟩, hu3⟩ := hW
    go_simp
    exact RegionU.does_value rfl
  simp only [Act.put, List.setIfInBounds_toArray, List.set]
  refine wpU_taken (i := 13) rfl (by kernel_rfl) (by kernel_rfl) (by kernel_rfl) (((KD.up W0 b C m).and (UT.up _ u1)).and (UT.up _ u3)) ?_
  apply Exists.intro
  refine ⟨Or.inl ⟨rfl, fun W hW => ?hy⟩, ?_⟩
  case hy =>
    obtain ⟨⟨⟨hX, hB⟩, hu1⟩, hu3⟩ := hW
    go_simp
    exact RegionU.does_value rfl
  simp only [Act.put, List.setIfInBounds_toArray, List.set]
  refine wpU_taken (i := 8) rfl (by kernel_rfl) (by kernel_rfl) (by kernel_rfl) (((KD.up W0 b C m).and (UT.up _ u1)).and (UT.up _ u3)) ?_
  apply Exists.intro
  refine ⟨Or.inl ⟨rfl, fun W hW => ?hy⟩, ?_⟩
  case hy =>
    obtain ⟨⟨⟨hX, hB⟩, hu1⟩, hu3⟩ := hW
    exact does_eq (run_load_dfa (.tmp 3) rfl rfl hX)
  simp only [Act.put, List.setIfInBounds_toArray, List.set]
  refine wpU_taken (i := 14) rfl (by kernel_rfl) (by kernel_rfl) (by kernel_rfl) (((KD.up W0 b C m).and (UT.up _ u1)).and (UT.up _ u3)) ?_
  apply Exists.intro
  refine ⟨Or.inl ⟨rfl, fun W hW => ?hy⟩, ?_⟩
  case hy =>
    obtain ⟨⟨⟨hX, hB⟩, hu1⟩, hu3⟩ := hW
    exact does_eq (run_load_dfa (.tmp 3) rfl rfl hX)
  simp only [Act.put, List.setIfInBounds_toArray, List.set]
  refine wpU_one (i := 9) (by kernel_rfl) rfl rfl (UT U) (UT.up _) (fun W hW => ?hy) ?_
  case hy =>
    obtain ⟨⟨⟨hX, hB⟩, hu1⟩, hu3⟩ := hW
    go_simp
    exact does_in (H1.out W hX.is)
  intro u9
  simp only [Act.put, List.setIfInBounds_toArray, List.set]
  refine wpU_one (i := 10) (by kernel_rfl) rfl rfl (ULS [la, lb, U]) (ULS.up _) (fun W hW => ?hy) ?_
  case hy =>
    obtain ⟨⟨⟨⟨hX, hB⟩, hu1⟩, hu3⟩, hu9⟩ := hW
    obtain ⟨a9, c9, hf9, _⟩ := TS.open hu9
    rw [hf9] at hu9 ⊢
    go_simp
    exact RegionU.does_made (T := ULS [la, lb, U]) (LS.new3 W _ _ _ _ _ _ _ (HVA.out W hB) (HVB.out W hB) hu9) ((Below.refl _ _).alloc (Nat.le_refl _) _)
  intro u10
  simp only [Act.put, List.setIfInBounds_toArray, List.set]
  refine wpU_one (i := 11) (by kernel_rfl) rfl rfl (UT R) (UT.up _) (fun W hW => ?hy) ?_
  case hy =>
    obtain ⟨⟨⟨⟨⟨hX, hB⟩, hu1⟩, hu3⟩, hu9⟩, hu10⟩ := hW
    go_simp
    exact does_in (H3.out W _ hu10)
  intro u11
  simp only [Act.put, List.setIfInBounds_toArray, List.set]
  refine wpU_one (i := 15) (by kernel_rfl) rfl rfl (UT U) (UT.up _) (fun W hW => ?hy) ?_
  case hy =>
    obtain ⟨⟨⟨⟨⟨⟨hX, hB⟩, hu1⟩, hu3⟩, hu9⟩, hu10⟩, hu11⟩ := hW
    go_simp
    exact does_in (H2.out W hX.is)
  intro u15
  simp only [Act.put, List.setIfInBounds_toArray, List.set]
  refine wpU_one (i := 16) (by kernel_rfl) rfl rfl (ULS [la, lb, U]) (ULS.up _) (fun W hW => ?hy) ?_
  case hy =>
    obtain ⟨⟨⟨⟨⟨⟨⟨hX, hB⟩, hu1⟩, hu3⟩, hu9⟩, hu10⟩, hu11⟩, hu15⟩ := hW
    obtain ⟨a9, c9, hf9, _⟩ := TS.open hu15
    rw [hf9] at hu15 ⊢
    go_simp
    exact RegionU.does_made (T := ULS [la, lb, U]) (LS.new3 W _ _ _ _ _ _ _ (HVA.out W hB) (HVB.out W hB) hu15) ((Below.refl _ _).alloc (Nat.le_refl _) _)
  intro u16
  simp only [Act.put, List.setIfInBounds_toArray, List.set]
  refine wpU_one (i := 17) (by kernel_rfl) rfl rfl (UT R) (UT.up _) (fun W hW => ?hy) ?_
  case hy =>
    obtain ⟨⟨⟨⟨⟨⟨⟨⟨hX, hB⟩, hu1⟩, hu3⟩, hu9⟩, hu10⟩, hu11⟩, hu15⟩, hu16⟩ := hW
    go_simp
    exact does_in (H4.out W _ hu16)
  intro u17
  simp only [Act.put, List.setIfInBounds_toArray, List.set]
  refine wpU_taken (i := 18) rfl (by kernel_rfl) (by kernel_rfl) (by kernel_rfl) (((((((((KD.up W0 b C m).and (UT.up _ u1)).and (UT.up _ u3)).and (UT.up _ u9)).and (ULS.up _ u10)).and (UT.up _ u11)).and (UT.up _ u15)).and (ULS.up _ u16)).and (UT.up _ u17)) ?_
  apply Exists.intro
  refine ⟨Or.inl ⟨rfl, fun W hW => ?hy⟩, ?_⟩
  case hy =>
    obtain ⟨⟨⟨⟨⟨⟨⟨⟨⟨hX, hB⟩, hu1⟩, hu3⟩, hu9⟩, hu10⟩, hu11⟩, hu15⟩, hu16⟩, hu17⟩ := hW
    go_simp
    exact RegionU.does_call (H6.out W _ _ _ hu11 hu17)
  simp only [Act.put, List.setIfInBounds_toArray, List.set]
  refine wpU_taken (i := 19) rfl (by kernel_rfl) (by kernel_rfl) (by kernel_rfl) (((((((((KD.up W0 b C m).and (UT.up _ u1)).and (UT.up _ u3)).and (UT.up _ u9)).and (ULS.up _ u10)).and (UT.up _ u11)).and (UT.up _ u15)).and (ULS.up _ u16)).and (UT.up _ u17)) ?_
  apply Exists.intro
  refine ⟨Or.inl ⟨rfl, fun W hW => ?hy⟩, ?_⟩
  case hy =>
    obtain ⟨⟨⟨⟨⟨⟨⟨⟨⟨hX, hB⟩, hu1⟩, hu3⟩, hu9⟩, hu10⟩, hu11⟩, hu15⟩, hu16⟩, hu17⟩ := hW
    go_simp
    exact RegionU.does_value rfl
  simp only [Act.put, List.setIfInBounds_toArray, List.set]
  refine wpU_taken (i := 20) rfl (by kernel_rfl) (by kernel_rfl) (by kernel_rfl) (((((((((KD.up W0 b C m).and (UT.up _ u1)).and (UT.up _ u3)).and (UT.up _ u9)).and (ULS.up _ u10)).and (UT.up _ u11)).and (UT.up _ u15)).and (ULS.up _ u16)).and (UT.up _ u17)) ?_
  apply Exists.intro
  refine ⟨Or.inl ⟨rfl, fun W hW => ?hy⟩, ?_⟩
  case hy =>
    obtain ⟨⟨⟨⟨⟨⟨⟨⟨⟨hX, hB⟩, hu1⟩, hu3⟩, hu9⟩, hu10⟩, hu11⟩, hu15⟩, hu16⟩, hu17⟩ := hW
    go_simp
    exact RegionU.does_value rfl
  simp only [Act.put, List.setIfInBounds_toArray, List.set]
  refine wpU_one (i := 21) (by kernel_rfl) rfl rfl (UT []) (UT.up _) (fun W hW => ?hy) ?_
  case hy =>
    obtain ⟨⟨⟨⟨⟨⟨⟨⟨⟨hX, hB⟩, hu1⟩, hu3⟩, hu9⟩, hu10⟩, hu11⟩, hu15⟩, hu16⟩, hu17⟩ := hW
    go_simp
    exact does_in (H5.out W)
  intro u21
  simp only [Act.put, List.setIfInBounds_toArray, List.set]
  refine wpU_taken (i := 22) rfl (by kernel_rfl) (by kernel_rfl) (by kernel_rfl) ((((((((((KD.up W0 b C m).and (UT.up _ u1)).and (UT.up _ u3)).and (UT.up _ u9)).and (ULS.up _ u10)).and (UT.up _ u11)).and (UT.up _ u15)).and (ULS.up _ u16)).and (UT.up _ u17)).and (UT.up _ u21)) ?_
  refine ⟨.int .i64 0, Or.inl ⟨rfl, fun W hW => ?hy⟩, ?_⟩
  case hy =>
    obtain ⟨⟨⟨⟨⟨⟨⟨⟨⟨⟨hX, hB⟩, hu1⟩, hu3⟩, hu9⟩, hu10⟩, hu11⟩, hu15⟩, hu16⟩, hu17⟩, hu21⟩ := hW
    obtain ⟨a21, c21, rfl, _⟩ := TS.open hu21
    go_simp
    exact RegionU.does_value rfl
  simp only [Act.put, List.setIfInBounds_toArray, List.set]
  refine wpU_taken (i := 23) rfl (by kernel_rfl) (by kernel_rfl) (by kernel_rfl) ((((((((((KD.up W0 b C m).and (UT.up _ u1)).and (UT.up _ u3)).and (UT.up _ u9)).and (ULS.up _ u10)).and (UT.up _ u11)).and (UT.up _ u15)).and (ULS.up _ u16)).and (UT.up _ u17)).and (UT.up _ u21)) ?_
  apply Exists.intro
  refine ⟨Or.inl ⟨rfl, fun W hW => ?hy⟩, ?_⟩
  case hy =>
    obtain ⟨⟨⟨⟨⟨⟨⟨⟨⟨⟨hX, hB⟩, hu1⟩, hu3⟩, hu9⟩, hu10⟩, hu11⟩, hu15⟩, hu16⟩, hu17⟩, hu21⟩ := hW
    go_simp
    try simp only [beq_self_eq_true, bne_self_eq_false, Bool.not_true, Bool.not_false, decide_true]
    exact RegionU.does_value rfl
  simp only [Act.put, List.setIfInBounds_toArray, List.set]
  refine wpU_taken (i := 24) rfl (by kernel_rfl) (by kernel_rfl) (by kernel_rfl) ((((((((((KD.up W0 b C m).and (UT.up _ u1)).and (UT.up _ u3)).and (UT.up _ u9)).and (ULS.up _ u10)).and (UT.up _ u11)).and (UT.up _ u15)).and (ULS.up _ u16)).and (UT.up _ u17)).and (UT.up _ u21)) ?_
  apply Exists.intro
  refine ⟨Or.inl ⟨rfl, fun W hW => ?hy⟩, ?_⟩
  case hy =>
    obtain ⟨⟨⟨⟨⟨⟨⟨⟨⟨⟨hX, hB⟩, hu1⟩, hu3⟩, hu9⟩, hu10⟩, hu11⟩, hu15⟩, hu16⟩, hu17⟩, hu21⟩ := hW
    go_simp
    exact RegionU.does_value rfl
  simp only [Act.put, List.setIfInBounds_toArray, List.set]
  refine wpU_taken (i := 25) rfl (by kernel_rfl) (by kernel_rfl) (by kernel_rfl) ((((((((((KD.up W0 b C m).and (UT.up _ u1)).and (UT.up _ u3)).and (UT.up _ u9)).and (ULS.up _ u10)).and (UT.up _ u11)).and (UT.up _ u15)).and (ULS.up _ u16)).and (UT.up _ u17)).and (UT.up _ u21)) ?_
  apply Exists.intro
  refine ⟨Or.inl ⟨rfl, fun W hW => ?hy⟩, ?_⟩
  case hy =>
    obtain ⟨⟨⟨⟨⟨⟨⟨⟨⟨⟨hX, hB⟩, hu1⟩, hu3⟩, hu9⟩, hu10⟩, hu11⟩, hu15⟩, hu16⟩, hu17⟩, hu21⟩ := hW
    go_simp
    exact RegionU.does_value rfl
  simp only [Act.put, List.setIfInBounds_toArray, List.set]
  refine wpU_taken (i := 26) rfl (by kernel_rfl) (by kernel_rfl) (by kernel_rfl) ((((((((((KD.up W0 b C m).and (UT.up _ u1)).and (UT.up _ u3)).and (UT.up _ u9)).and (ULS.up _ u10)).and (UT.up _ u11)).and (UT.up _ u15)).and (ULS.up _ u16)).and (UT.up _ u17)).and (UT.up _ u21)) ?_
  apply Exists.intro
  refine ⟨Or.inl ⟨rfl, fun W hW => ?hy⟩, ?_⟩
  case hy =>
    obtain ⟨⟨⟨⟨⟨⟨⟨⟨⟨⟨hX, hB⟩, hu1⟩, hu3⟩, hu9⟩, hu10⟩, hu11⟩, hu15⟩, hu16⟩, hu17⟩, hu21⟩ := hW
    go_simp
    exact RegionU.does_call (HKN W)
  simp only [Act.put, List.setIfInBounds_toArray, List.set]
  refine wpU_taken (i := 27) rfl (by kernel_rfl) (by kernel_rfl) (by kernel_rfl) ((((((((((KD.up W0 b C m).and (UT.up _ u1)).and (UT.up _ u3)).and (UT.up _ u9)).and (ULS.up _ u10)).and (UT.up _ u11)).and (UT.up _ u15)).and (ULS.up _ u16)).and (UT.up _ u17)).and (UT.up _ u21)) ?_
  apply Exists.intro
  refine ⟨Or.inl ⟨rfl, fun W hW => ?hy⟩, ?_⟩
  case hy =>
    obtain ⟨⟨⟨⟨⟨⟨⟨⟨⟨⟨hX, hB⟩, hu1⟩, hu3⟩, hu9⟩, hu10⟩, hu11⟩, hu15⟩, hu16⟩, hu17⟩, hu21⟩ := hW
    go_simp
    exact RegionU.does_value rfl
  simp only [Act.put, List.setIfInBounds_toArray, List.set]
  refine wpU_taken (i := 28) rfl (by kernel_rfl) (by kernel_rfl) (by kernel_rfl) ((((((((((KD.up W0 b C m).and (UT.up _ u1)).and (UT.up _ u3)).and (UT.up _ u9)).and (ULS.up _ u10)).and (UT.up _ u11)).and (UT.up _ u15)).and (ULS.up _ u16)).and (UT.up _ u17)).and (UT.up _ u21)) ?_
  apply Exists.intro
  refine ⟨Or.inl ⟨rfl, fun W hW => ?hy⟩, ?_⟩
  case hy =>
    obtain ⟨⟨⟨⟨⟨⟨⟨⟨⟨⟨hX, hB⟩, hu1⟩, hu3⟩, hu9⟩, hu10⟩, hu11⟩, hu15⟩, hu16⟩, hu17⟩, hu21⟩ := hW
    go_simp
    exact RegionU.does_value rfl
  simp only [Act.put, List.setIfInBounds_toArray, List.set]
  refine wpU_done (by kernel_rfl) ?_
  rintro W ⟨⟨⟨⟨⟨⟨⟨⟨⟨⟨-, hB⟩, -⟩, -⟩, -⟩, -⟩, -⟩, -⟩, -⟩, -⟩, -⟩
  go_wp2_with fail
  go_ret
  exact ⟨rfl, HB0.out.trans (hB.mono HB0.out.size)⟩
end Go.Proofs.Ytlfmkiendaecaaa.DfaW
