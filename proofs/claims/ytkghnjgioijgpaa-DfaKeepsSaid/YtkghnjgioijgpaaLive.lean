/- Walk of Live. -/
import Derived.Test.YtkghnjgioijgpaaAhead2
import Derived.Test.YtkghnjgioijgpaaShelf
import Derived.Sort.OwnSortedInts
namespace Go.Proofs.Ytkghnjgioijgpaa.DfaW
set_option linter.unusedVariables false
set_option linter.unusedSimpArgs false
open Go.Proofs.Ytkghnjgioijgpaa.RegionU (Up wpU_taken wpU_one wpU_mono wpU_done wp_region_U does)
open Go.RowKit Go.Maps Go.Proofs.Ytkghnjgioijgpaa.PartM Go.Proofs.Ytkghnjgioijgpaa.PartW Go.Proofs.Ytkghnjgioijgpaa.DfaM

/-- From which states a row leads to each one. -/
def nbA (m : Mc) : Nat → List Nat := fun s => ((List.range m.lb.length).map (preL (nbM m) m.lb.length)).getD s []
theorem nbA_at (m : Mc) {s : Nat} (hs : s < m.lb.length) : nbA m s = preL (nbM m) m.lb.length s := by simp [nbA, List.getD, hs]
theorem labS_lt {lb : List Int} {x : Nat} (h : x ∈ labS lb) : x < lb.length := by
  unfold labS at h
  rw [List.mem_filter, List.mem_range] at h
  exact h.1
theorem inA (m : Mc) : In (nbA m) (labS m.lb) m.lb.length := ⟨fun x hx => labS_lt hx, fun s hs t ht => by rw [nbA_at m hs] at ht; exact preL_lt ht⟩
/-- The states that can come to a label, as they are met; rising. -/
def finA (m : Mc) : List Nat := fin (nbA m) (labS m.lb) m.lb.length
def liveL (m : Mc) : List Nat := (List.range m.lb.length).filter fun s => decide (s ∈ finA m)
theorem mem_live {m : Mc} {x : Nat} : x ∈ liveL m ↔ x ∈ finA m := by
  unfold liveL
  rw [List.mem_filter, List.mem_range, decide_eq_true_iff]
  exact ⟨fun h => h.2, fun h => ⟨(inA m).lt _ x h, h⟩⟩
theorem range_rising (n : Nat) : (List.range n).Pairwise (· < ·) := List.pairwise_lt_range
theorem live_rising (m : Mc) : (liveL m).Pairwise (· < ·) := (range_rising _).filter _
open Classical in
noncomputable def liveV (m : Mc) : List Nat := if Ok m then liveL m else []
theorem liveV_yes {m : Mc} (h : Ok m) : liveV m = liveL m := if_pos h
theorem liveV_no {m : Mc} (h : ¬ Ok m) : liveV m = [] := if_neg h
theorem sort_live (m : Mc) : ((castL (finA m)).mergeSort fun x y => decide (x ≤ y)) = castL (liveL m) := by
  have h1 : ((finA m).mergeSort fun x y => decide (x ≤ y)).map (fun (x : Nat) => (x : Int)) = ((finA m).map fun (x : Nat) => (x : Int)).mergeSort fun x y => decide (x ≤ y) :=
    List.map_mergeSort fun a _ b _ => by rw [Bool.eq_iff_iff]; simp
  unfold castL
  rw [← h1]
  congr 1
  have hp := List.mergeSort_perm (finA m) fun x y => decide (x ≤ y)
  have hs := List.pairwise_mergeSort (le := fun (x y : Nat) => decide (x ≤ y)) (fun a b c h k => by simp at *; omega) (fun a b => by simp; omega) (finA m)
  have hd : ((finA m).mergeSort fun x y => decide (x ≤ y)).Nodup := hp.nodup_iff.2 fin_nodup
  refine rising_eq ?_ (live_rising m) fun x => by rw [List.mem_mergeSort, mem_live]
  have := List.Pairwise.and hs hd
  refine this.imp fun h => ?_
  have h1 := h.1
  have h2 := h.2
  simp at h1
  omega

/-- What is sorted is the call's own still. -/
theorem Sort_any {w : World} {base : Nat} {v : Value} {l : List Int} (h : OI w base v l) (hl : l.length ≤ 65536) :
    Calls Try.prog 46 #[v] w fun e w' => e = .returned (.tuple #[]) ∧ OI w' base v (l.mergeSort fun x y => decide (x ≤ y)) ∧ Below base w w' := by
  have h' := h
  rcases h.2 with ⟨rfl, h0⟩ | ⟨g, cap, cur, rfl, hg, hh, hn, hc, hs, hx⟩
  · obtain rfl := List.length_eq_zero_iff.1 h0
    refine (Try.slices_Sort_int_none none 0 w).mono ?_
    rintro e w' ⟨rfl, hw⟩
    subst hw
    exact ⟨rfl, by simpa using h', Below.refl _ _⟩
  · have hH := holds_of_blockI hh (by simpa using hx)
    have hb := (Array.getElem?_eq_some_iff.1 hh).1
    refine (Try.slices_Sort_int g 0 cap l w hH hb (by omega)).mono ?_
    rintro e w' ⟨rfl, n, os, rfl⟩
    refine ⟨rfl, ?_, (Below.refl base w).grown (grownBy_sortedI _) (by omega) (fun k e => by cases e; exact hg)⟩
    have := ownsRow_sortedI (n := n) (os := os) (ss := l) (ts := l.mergeSort fun x y => decide (x ≤ y)) (by simp) hg hh hn hc hs
    show World.ownsRow _ base 3 1 _ (l.mergeSort fun x y => decide (x ≤ y)).length _
    rw [List.length_mergeSort]
    exact this

/-- What is known of the parts in the region. -/
def OT (b : Nat) (l : List Int) (u : Value) (W : World) : Prop := OI W b u l
def RT (ll : List (List Int)) (u : Value) (W : World) : Prop := RS W.heap.size W u ll
theorem OT.up (b : Nat) (l : List Int) (u : Value) : Up (OT b l u) := fun W W' h hr => OI.below h hr
theorem RT.up (ll : List (List Int)) (u : Value) : Up (RT ll u) := fun W W' h hr => (RS.below h hr).up hr.size
set_option maxRecDepth 100000 in
set_option maxHeartbeats 4000000 in
theorem Live_any {C : Array Value} {m : Mc} (w : World) (h : IsM w.heap.size w C m) :
    Calls Try.prog 22 #[.agg C] w fun e w' => ∃ v, e = .returned v ∧ OI w' w.heap.size v (castL (liveV m)) ∧ Below w.heap.size w w' := by
  have hx := Bx.new h
  have hb0 : Below w.heap.size w (w.alloc (.cells C 27)) := (Below.refl _ _).alloc (Nat.le_refl _) _
  have HR := Lib.hid (RightD_any (w.alloc (.cells C 27)) hx.is)
  have HX := Lib.hid hx; have HB0 := Lib.hid hb0
  clear h hx hb0
  go_enter Try.func22, Try.ntmps22
  go_wp2_with (refine wpList_load_dfa rfl (.tmp 1) rfl rfl HX.out ?_)
  refine HR.out.mono ?_
  rintro e w1 ⟨hs, hb1⟩
  have HX1 := Lib.hid (HX.out.below hb1)
  have HB1 := Lib.hid (HB0.out.trans (hb1.mono HB0.out.size))
  rcases hs.elim with ⟨rfl, hn⟩ | ⟨rfl, hn⟩
  · have HK := Lib.hid hn
    have HE := Lib.hid (liveV_yes hn)
    clear hs hn hb1
    have HD := Lib.hid (KD.of HX1.out (Below.refl _ _).drew)
    obtain ⟨v1, x1, hv1⟩ := HX1.out.nx
    obtain ⟨v2, x2, hv2⟩ := HX1.out.lb
    rw [← HK.out.leads] at hv1
    have hlen : ∀ f, f < m.lb.length → ∀ t ∈ (leads m).getD f [], t < m.lb.length := fun f hf => HK.out.nb_lt hf
    have HAH := Lib.hid (fun W (hB : Below w1.heap.size w1 W) => ahead_any W ((hv1.below hB).up hB.size) m.lb.length HK.out.leads_len HK.out.lbs.2.1 hlen)
    have HLA := Lib.hid (fun W (hB : Below w1.heap.size w1 W) => labelled_any W ((hv2.below hB).up hB.size) HK.out.lbs.2.1)
    have HRE := Lib.hid (fun W u1 u2 (h1 : OI W w1.heap.size u1 (castL (labS m.lb))) (h2 : RS W.heap.size W u2 (castLL ((List.range m.lb.length).map (preL (nbM m) m.lb.length)))) => reached_any W h1.is h2 (show ((List.range m.lb.length).map (preL (nbM m) m.lb.length)).length = m.lb.length by simp) (inA m) HK.out.zero HK.out.lbs.2.1)
    have HC1 := Lib.hid (fun W (h : Below w1.heap.size w1 W) => (h.cell (p := ⟨w.heap.size, 257, none⟩) HX1.out.ar.lt).trans x1)
    have HC2 := Lib.hid (fun W (h : Below w1.heap.size w1 W) => (h.cell (p := ⟨w.heap.size, 258, none⟩) HX1.out.ar.lt).trans x2)
    obtain ⟨a1, c1, rfl, _, _, _⟩ := hv1.open
    obtain ⟨a2, c2, rfl, _, _, _⟩ := hv2.open
    clear hv1 hv2 hlen x1 x2
    go_wp2_with fail
    refine wp_region_U (by kernel_rfl) (KD.up w1 w.heap.size C m) HD.out ?_
    refine wpU_taken (i := 0) rfl (by kernel_rfl) (by kernel_rfl) (by kernel_rfl) (KD.up w1 w.heap.size C m) ?_
    apply Exists.intro
    refine ⟨Or.inl ⟨rfl, fun W hW => ?hy⟩, ?_⟩
    case hy =>
      obtain ⟨hX, hB⟩ := hW
      go_simp
      exact RegionU.does_value rfl
    simp only [Act.put, List.setIfInBounds_toArray, List.set]
    refine wpU_taken (i := 1) rfl (by kernel_rfl) (by kernel_rfl) (by kernel_rfl) (KD.up w1 w.heap.size C m) ?_
    apply Exists.intro
    refine ⟨Or.inl ⟨rfl, fun W hW => ?hy⟩, ?_⟩
    case hy =>
      obtain ⟨hX, hB⟩ := hW
      have hc := HC2.out W hB
      go_simp
      exact RegionU.does_value rfl
    simp only [Act.put, List.setIfInBounds_toArray, List.set]
    refine wpU_taken (i := 3) rfl (by kernel_rfl) (by kernel_rfl) (by kernel_rfl) (KD.up w1 w.heap.size C m) ?_
    apply Exists.intro
    refine ⟨Or.inl ⟨rfl, fun W hW => ?hy⟩, ?_⟩
    case hy =>
      obtain ⟨hX, hB⟩ := hW
      go_simp
      exact RegionU.does_value rfl
    simp only [Act.put, List.setIfInBounds_toArray, List.set]
    refine wpU_taken (i := 4) rfl (by kernel_rfl) (by kernel_rfl) (by kernel_rfl) (KD.up w1 w.heap.size C m) ?_
    apply Exists.intro
    refine ⟨Or.inl ⟨rfl, fun W hW => ?hy⟩, ?_⟩
    case hy =>
      obtain ⟨hX, hB⟩ := hW
      have hc := HC1.out W hB
      go_simp
      exact RegionU.does_value rfl
    simp only [Act.put, List.setIfInBounds_toArray, List.set]
    refine wpU_one (i := 2) (by kernel_rfl) rfl rfl (OT w1.heap.size (castL (labS m.lb))) (OT.up _ _) (fun W hW => ?hy) ?_
    case hy =>
      obtain ⟨hX, hB⟩ := hW
      go_simp
      exact does_in ((HLA.out W hB).mono fun e w' ⟨v, h, ho, hb⟩ => ⟨v, h, owns_base ho hB.size, hb⟩)
    intro u
    simp only [Act.put, List.setIfInBounds_toArray, List.set]
    refine wpU_one (i := 5) (by kernel_rfl) rfl rfl (RT (castLL ((List.range m.lb.length).map (preL (nbM m) m.lb.length)))) (RT.up _) (fun W hW => ?hy) ?_
    case hy =>
      obtain ⟨⟨hX, hB⟩, hu⟩ := hW
      go_simp
      exact does_in ((HAH.out W hB).mono fun e w' ⟨v, h, ho, hb⟩ => ⟨v, h, ho, hb⟩)
    intro u
    simp only [Act.put, List.setIfInBounds_toArray, List.set]
    refine wpU_one (i := 6) (by kernel_rfl) rfl rfl (OT w1.heap.size (castL (finA m))) (OT.up _ _) (fun W hW => ?hy) ?_
    case hy =>
      obtain ⟨⟨⟨hX, hB⟩, hu⟩, hu2⟩ := hW
      go_simp
      exact does_in ((HRE.out W _ _ hu hu2).mono fun e w' ⟨v, h, ho, hb⟩ => ⟨v, h, owns_base (OI.of_iv ho) hB.size, hb⟩)
    intro u
    simp only [Act.put, List.setIfInBounds_toArray, List.set]
    refine wpU_taken (i := 7) rfl (by kernel_rfl) (by kernel_rfl) (by kernel_rfl) ((((KD.up w1 w.heap.size C m).and (OT.up _ _ _)).and (RT.up _ _)).and (OT.up _ _ _)) ?_
    apply Exists.intro
    refine ⟨Or.inl ⟨rfl, fun W hW => ?hy⟩, ?_⟩
    case hy =>
      obtain ⟨⟨⟨⟨hX, hB⟩, hu⟩, hu2⟩, hu3⟩ := hW
      go_simp
      exact RegionU.does_value rfl
    simp only [Act.put, List.setIfInBounds_toArray, List.set]
    refine wpU_done (by kernel_rfl) ?_
    rintro W ⟨⟨⟨⟨-, hB⟩, -⟩, -⟩, hu⟩
    obtain ⟨a, c, rfl, _, _⟩ := OI.len hu
    have HSO := Lib.hid (Sort_any hu (by rw [castL_len]; have := (inA m).len m.lb.length; have := HK.out.lbs.2.1; exact Nat.le_trans ((inA m).len m.lb.length) HK.out.lbs.2.1))
    have HBW := Lib.hid hB
    clear hu hB
    go_wp2_with fail
    refine HSO.out.mono ?_
    rintro e w3 ⟨rfl, ho, hb⟩
    rw [sort_live] at ho
    have HO := Lib.hid (show OI w3 w.heap.size _ (castL (liveV m)) by rw [HE.out]; exact owns_base ho HB1.out.size)
    have HB3 := Lib.hid (HB1.out.trans ((HBW.out.mono HB1.out.size).trans (hb.mono HB1.out.size)))
    clear ho hb
    go_wp2_with fail
    go_ret
    exact ⟨_, rfl, HO.out, HB3.out⟩
  · have HE := Lib.hid (liveV_no hn)
    clear hs hn hb1
    go_wp2_with fail
    go_ret
    exact ⟨_, rfl, by rw [HE.out]; exact OI.nil _ _, HB1.out⟩
end Go.Proofs.Ytkghnjgioijgpaa.DfaW
