/- Walk of TreeRepeats. -/
import Derived.Test.YtogdjgfgmdphgaaDoorTreeParts
namespace Go.Proofs.YtogdjgfgmdphgaaDoor.TreeW
set_option linter.unusedVariables false
open Go.RowKit Go.Proofs.YtogdjgfgmdphgaaDoor.TreeM
open Go.Proofs.YtogdjgfgmdphgaaDoor.RegionU (Up wpU_taken wpU_one wpU_two wpU_done wp_region_U)
/-- What the regions know of memory: the boxed node, the boxed set, the slice of the one node, its kids, the table, what lay. -/
def C3 (w : World) (A : Nat) (n : Nd) (v : Value) (l : List Tr) (f : Nat → Bool) (W : World) : Prop :=
  NodeAt W A 0 n v ∧ SetW.HoldsS W (A + 1) f ∧ NodeAt W (A + 2) 0 n v ∧ Lies 0 w.heap.size W v l ∧ Env W ∧ Below w.heap.size w W
theorem C3_up (w : World) (A : Nat) (n : Nd) (v : Value) (l : List Tr) (f : Nat → Bool) : Up (C3 w A n v l f) := fun W W' ⟨h1, h2, h3, h4, h5, h6⟩ hr =>
  ⟨h1.below h1.lt hr, h2.below hr, h3.below h3.lt hr, h4.under (hr.mono h6.size), h5.grow hr, h6.trans (hr.mono h6.size)⟩
theorem C3_drew {w : World} {A : Nat} {n : Nd} {v : Value} {l : List Tr} {f : Nat → Bool} {W : World} (h : C3 w A n v l f W) : C3 w A n v l f W.drew := C3_up w A n v l f W _ h (Below.refl _ _).drew
theorem mx_one (n : Nd) (l : List Tr) : mxL [.mk n l] = max l.length (mxL l) := by rw [mxL_cons, mxL_nil, mx]; omega
theorem okR_rep (lo hi : Int) : okR ⟨9, 0, 0, 0, 0, lo, hi⟩ 1 = decide (0 ≤ lo ∧ lo ≤ 1000 ∧ (hi = -1 ∨ (lo ≤ hi ∧ hi ≤ 1000))) := by unfold okR; simp
theorem okR_opt : okR (ofKind 8) 1 = true := by simp [okR, ofKind]
theorem right_leaf (f : Nat → Bool) : right (.mk (leaf f) []) = true := by
  unfold right
  rw [size_mk, sizeL_nil, allR_kids]
  show (_ && (allRL [] && okR (leaf f) 0)) = true
  rw [allRL_nil, okR_leaf]; rfl
theorem six_ways {m : Bool} {lo hi : Int} (h : m = decide (0 ≤ lo ∧ lo ≤ 1000 ∧ (hi = -1 ∨ (lo ≤ hi ∧ hi ≤ 1000)))) : (m = true ∧ 0 ≤ lo ∧ lo ≤ 1000 ∧ (hi == -1) = true) ∨ (m = true ∧ 0 ≤ lo ∧ lo ≤ 1000 ∧ (hi == -1) = false ∧ lo ≤ hi ∧ hi ≤ 1000) ∨ (m = false ∧ ¬ 0 ≤ lo) ∨ (m = false ∧ 0 ≤ lo ∧ ¬ lo ≤ 1000) ∨ (m = false ∧ 0 ≤ lo ∧ lo ≤ 1000 ∧ (hi == -1) = false ∧ ¬ lo ≤ hi) ∨ (m = false ∧ 0 ≤ lo ∧ lo ≤ 1000 ∧ (hi == -1) = false ∧ lo ≤ hi ∧ ¬ hi ≤ 1000) := by
  have e : ∀ b : Bool, (hi == -1) = b ↔ (b = true ↔ hi = -1) := fun b => by cases b <;> simp
  rw [e, e]
  cases m
  · have h' := of_decide_eq_false h.symm
    simp only [true_and, Bool.false_eq_true, false_and, false_or, false_iff]
    omega
  · have h' := of_decide_eq_true h.symm
    simp only [true_and, Bool.true_eq_false, false_and, or_false, true_iff, Bool.false_eq_true, false_iff]
    omega
set_option maxRecDepth 100000 in
set_option maxHeartbeats 40000000 in
theorem TreeRepeats_any (n : Nd) (l : List Tr) (a : Option Addr) (cap : Nat) (lo hi : Int) (f : Nat → Bool) (w : World) (he : Env w) (hmx : l.length ≤ 2199023255552) (hmy : mxL l ≤ 2199023255552) (hL : Lies 0 w.heap.size w (.slice a l.length cap) l) :
    Calls Tryd.prog 6 #[NV n (.slice a l.length cap), .int .i64 lo, .int .i64 hi, SetW.SV f] w fun e w' => e = .returned (.bool true) ∧ Below w.heap.size w w' := by
  obtain ⟨A, hA⟩ : ∃ A, A = w.heap.size := ⟨_, rfl⟩
  have HA := Lib.hid hA; clear hA
  have HSTAR := Lib.hid (fun W (h4 : Lies 0 w.heap.size W (.slice a l.length cap) l) (h6 : Below w.heap.size w W) => (Star_any n l a cap W hmx hmy (lies_now h4 h6)).mono fun _ _ h => h.made)
  have HPLUS := Lib.hid (fun W (h4 : Lies 0 w.heap.size W (.slice a l.length cap) l) (h6 : Below w.heap.size w W) => (Plus_any n l a cap W hmx hmy (lies_now h4 h6)).mono fun _ _ h => h.made)
  have HOPT := Lib.hid (fun W (h4 : Lies 0 w.heap.size W (.slice a l.length cap) l) (h6 : Below w.heap.size w W) => (Opt_any n l a cap W hmx hmy (lies_now h4 h6)).mono fun _ _ h => h.made)
  have HREP := Lib.hid (fun W (h4 : Lies 0 w.heap.size W (.slice a l.length cap) l) (h6 : Below w.heap.size w W) => (Rep_any n l a cap lo hi W hmx hmy (lies_now h4 h6)).mono fun _ _ h => h.made)
  have HRREP := Lib.hid (fun W (h4 : Lies 0 w.heap.size W (.slice a l.length cap) l) (h6 : Below w.heap.size w W) => RRep_any n l a cap lo hi W (lies_now h4 h6))
  have HOF := Lib.hid (fun (K : Int) W (h3 : NodeAt W (A + 2) 0 n (.slice a l.length cap)) (h4 : Lies 0 w.heap.size W (.slice a l.length cap) l) (h6 : Below w.heap.size w W) =>
    ((ROf_any K [.mk n l] (some ⟨A + 2, 0, none⟩) 1 W (fun b => 0 ≤ b ∧ b < W.heap.size) (fun b h => h.2) (by simp) (LiesS.one (lies_now h4 h6) h3 ⟨Nat.zero_le _, h3.lt⟩)).mono fun _ _ h => h.made (fun b h => h.2) :
      Calls Tryd.prog 25 #[.int .i64 K, .slice (some ⟨A + 2, 0, none⟩) 1 1] W (Made (ofKind K) [.mk n l] W)))
  have HEQ := Lib.hid (fun (m : Nd) b1 k1 b2 k2 W (h : Lies 0 W.heap.size W (.slice b1 [Tr.mk n l].length k1) [.mk n l]) (h' : Lies 0 W.heap.size W (.slice b2 [Tr.mk n l].length k2) [.mk n l]) => (by
    have := RSame_any m [.mk n l] b1 k1 m [.mk n l] b2 k2 W h h'
    rw [eqT_self] at this
    exact this : Calls Tryd.prog 11 #[NV m (.slice b1 [Tr.mk n l].length k1), NV m (.slice b2 [Tr.mk n l].length k2)] W fun e w' => e = .returned (.bool true) ∧ Below W.heap.size W w'))
  have HBY := Lib.hid (fun W => Bytes_any f W)
  have HRBY := Lib.hid (fun W => RBytes_any f W)
  have HLEQ := Lib.hid (fun W => (by
    have := RSame_any (leaf f) [] none 0 (leaf f) [] none 0 W (.nil _ _ (fun _ => rfl)) (.nil _ _ (fun _ => rfl))
    rw [eqT_self] at this
    exact this : Calls Tryd.prog 11 #[NV (leaf f) (.slice none 0 0), NV (leaf f) (.slice none 0 0)] W fun e w' => e = .returned (.bool true) ∧ Below W.heap.size W w'))
  have HLR := Lib.hid (fun W (h5 : Env W) => (by
    have := Right_any (leaf f) [] none 0 W h5 (.nil _ _ (fun _ => rfl))
    rw [right_leaf] at this
    exact this : Calls Tryd.prog 7 #[NV (leaf f) (.slice none 0 0)] W fun e w' => e = .returned (.bool true) ∧ Below W.heap.size W w'))
  have HNO := Lib.hid (fun W => (None_any W : Calls Tryd.prog 31 #[] W fun e w' => e = .returned (NV ⟨1, 0, 0, 0, 0, 0, 0⟩ (.slice none 0 0)) ∧ Below W.heap.size W w'))
  have HK := Lib.hid (fun W h => knows_any W h)
  obtain ⟨N, hN⟩ : ∃ N : Nat, N = sizeL l + 1 := ⟨_, rfl⟩
  obtain ⟨z, hz⟩ : ∃ z : Int, z = wrap64 (N : Int) := ⟨_, rfl⟩
  obtain ⟨z1, hz1⟩ : ∃ z1 : Int, z1 = wrap64 ((N + 1 : Nat) : Int) := ⟨_, rfl⟩
  have hadd : IntKind.i64.wrap (z + 1) = z1 := by rw [hz, hz1, ← wrap_step, IntKind.wrap_i64]; unfold wrap64; omega
  have HSX := Lib.hid (fun W (h4 : Lies 0 w.heap.size W (.slice a l.length cap) l) (h6 : Below w.heap.size w W) => (by
    rw [hz, hN]; exact Size_any n l a cap W (lies_now h4 h6) : Calls Tryd.prog 9 #[NV n (.slice a l.length cap)] W fun e W' => e = .returned (.int .i64 z) ∧ Below W.heap.size W W'))
  have HSZ1 := Lib.hid (fun b1 k1 W (h : Lies 0 W.heap.size W (.slice b1 [Tr.mk n l].length k1) [.mk n l]) => (by
    have h := Size_any (ofKind 6) [.mk n l] b1 k1 W h
    rw [sizeL_cons, sizeL_nil, size_mk, Nat.add_zero] at h
    rw [hz1, hN]; exact h : Calls Tryd.prog 9 #[NV (ofKind 6) (.slice b1 [Tr.mk n l].length k1)] W fun e W' => e = .returned (.int .i64 z1) ∧ Below W.heap.size W W'))
  obtain ⟨b, hb⟩ : ∃ b, b = right (.mk n l) := ⟨_, rfl⟩
  obtain ⟨m, hm⟩ : ∃ m, m = okR ⟨9, 0, 0, 0, 0, lo, hi⟩ 1 := ⟨_, rfl⟩
  obtain ⟨d, hd⟩ : ∃ d, d = decide (z < 4096) := ⟨_, rfl⟩
  have hsmall : b = true → z = (N : Int) ∧ N ≤ 4096 := fun h => by
    rw [h] at hb
    have := right_size hb.symm
    rw [size_mk] at this
    refine ⟨?_, by omega⟩
    rw [hz]; exact IntWalk.wrap64_in _ (by omega)
  have hr8 : right (.mk (ofKind 8) [.mk n l]) = (b && d) := by
    rw [right_one, okR_opt, Bool.and_true, ← hb]
    cases hbb : b
    · rfl
    · obtain ⟨e1, e2⟩ := hsmall hbb
      rw [hd, e1, size_mk, ← hN]; congr 1; first | (rw [decide_eq_decide]; omega) | (congr 1; rw [decide_eq_decide]; omega)
  have hr9 : right (.mk ⟨9, 0, 0, 0, 0, lo, hi⟩ [.mk n l]) = (b && (d && m)) := by
    rw [right_one, ← hb, ← hm]
    cases hbb : b
    · rfl
    · obtain ⟨e1, e2⟩ := hsmall hbb
      rw [hd, e1, size_mk, ← hN]; congr 1; first | (rw [decide_eq_decide]; omega) | (congr 1; rw [decide_eq_decide]; omega)
  have HRX := Lib.hid (fun W (h4 : Lies 0 w.heap.size W (.slice a l.length cap) l) (h5 : Env W) (h6 : Below w.heap.size w W) => (by
    rw [hb]; exact Right_any n l a cap W h5 (lies_now h4 h6) : Calls Tryd.prog 7 #[NV n (.slice a l.length cap)] W fun e W' => e = .returned (.bool b) ∧ Below W.heap.size W W'))
  have HR8 := Lib.hid (fun b1 k1 W (h5 : Env W) (h : Lies 0 W.heap.size W (.slice b1 [Tr.mk n l].length k1) [.mk n l]) => (by
    rw [← hr8]; exact Right_any (ofKind 8) [.mk n l] b1 k1 W h5 h : Calls Tryd.prog 7 #[NV (ofKind 8) (.slice b1 [Tr.mk n l].length k1)] W fun e W' => e = .returned (.bool (b && d)) ∧ Below W.heap.size W W'))
  have HR9 := Lib.hid (fun b1 k1 W (h5 : Env W) (h : Lies 0 W.heap.size W (.slice b1 [Tr.mk n l].length k1) [.mk n l]) => (by
    rw [← hr9]; exact Right_any ⟨9, 0, 0, 0, 0, lo, hi⟩ [.mk n l] b1 k1 W h5 h : Calls Tryd.prog 7 #[NV ⟨9, 0, 0, 0, 0, lo, hi⟩ (.slice b1 [Tr.mk n l].length k1)] W fun e W' => e = .returned (.bool (b && (d && m))) ∧ Below W.heap.size W W'))
  rw [okR_rep] at hm
  have HM := Lib.hid hm; have HD := Lib.hid hd
  have HE := Lib.hid he; have HL := Lib.hid hL
  clear he hL hmx hmy hN hz hz1 hb hm hd hsmall hr8 hr9
  go_enter Tryd.func6, Tryd.ntmps6
  go_wp2_with fail
  have hb0 : Below w.heap.size w (((w.alloc (.cells #[.int .i64 n.K, .int .u64 n.a, .int .u64 n.b, .int .u64 n.c, .int .u64 n.d, .slice a l.length cap, .int .i64 n.L, .int .i64 n.H] 28)).alloc (.cells #[.int .u64 (SetM.wd f 0), .int .u64 (SetM.wd f 1), .int .u64 (SetM.wd f 2), .int .u64 (SetM.wd f 3)] 25)).alloc (.cells #[.int .i64 n.K, .int .u64 n.a, .int .u64 n.b, .int .u64 n.c, .int .u64 n.d, .slice a l.length cap, .int .i64 n.L, .int .i64 n.H] 28)) := (((Below.refl _ _).alloc (Nat.le_refl _) _).alloc (by simp) _).alloc (by simp; omega) _
  have hN := ((NodeAt.new w n (.slice a l.length cap) 28).below (by simp) ((Below.refl _ _).alloc (Nat.le_refl _) (.cells #[.int .u64 (SetM.wd f 0), .int .u64 (SetM.wd f 1), .int .u64 (SetM.wd f 2), .int .u64 (SetM.wd f 3)] 25))).below (by simp; omega) ((Below.refl _ _).alloc (Nat.le_refl _) (.cells #[.int .i64 n.K, .int .u64 n.a, .int .u64 n.b, .int .u64 n.c, .int .u64 n.d, .slice a l.length cap, .int .i64 n.L, .int .i64 n.H] 28))
  have hF := (SetW.HoldsS.new (w.alloc (.cells #[.int .i64 n.K, .int .u64 n.a, .int .u64 n.b, .int .u64 n.c, .int .u64 n.d, .slice a l.length cap, .int .i64 n.L, .int .i64 n.H] 28)) f 25).alloc (.cells #[.int .i64 n.K, .int .u64 n.a, .int .u64 n.b, .int .u64 n.c, .int .u64 n.d, .slice a l.length cap, .int .i64 n.L, .int .i64 n.H] 28)
  have hX := NodeAt.new ((w.alloc (.cells #[.int .i64 n.K, .int .u64 n.a, .int .u64 n.b, .int .u64 n.c, .int .u64 n.d, .slice a l.length cap, .int .i64 n.L, .int .i64 n.H] 28)).alloc (.cells #[.int .u64 (SetM.wd f 0), .int .u64 (SetM.wd f 1), .int .u64 (SetM.wd f 2), .int .u64 (SetM.wd f 3)] 25)) n (.slice a l.length cap) 28
  simp only [World.size_alloc] at hF hX
  generalize (((w.alloc (.cells #[.int .i64 n.K, .int .u64 n.a, .int .u64 n.b, .int .u64 n.c, .int .u64 n.d, .slice a l.length cap, .int .i64 n.L, .int .i64 n.H] 28)).alloc (.cells #[.int .u64 (SetM.wd f 0), .int .u64 (SetM.wd f 1), .int .u64 (SetM.wd f 2), .int .u64 (SetM.wd f 3)] 25)).alloc (.cells #[.int .i64 n.K, .int .u64 n.a, .int .u64 n.b, .int .u64 n.c, .int .u64 n.d, .slice a l.length cap, .int .i64 n.L, .int .i64 n.H] 28)) = W0 at *
  rw [← HA.out] at hN hF hX ⊢
  have hC : C3 w A n (.slice a l.length cap) l f W0.drew := C3_drew ⟨hN, hF, hX, HL.out.under hb0, HE.out.grow hb0, hb0⟩
  have HU := Lib.hid (C3_up w A n (.slice a l.length cap) l f)
  clear hb0 hN hF hX
  refine wp_region_U (C := C3 w A n (.slice a l.length cap) l f) (by kernel_rfl) HU.out hC ?_
  clear hC
  refine wpU_taken (i := 0) rfl (by kernel_rfl) (by kernel_rfl) (by kernel_rfl) HU.out ?_
  apply Exists.intro
  refine ⟨Or.inl ⟨rfl, fun W hW => ?hy⟩, ?_⟩
  case hy =>
    obtain ⟨h1, h2, h3, h4, h5, h6⟩ := hW
    have x0 := h1.c0; have x1 := h1.c1; have x2 := h1.c2; have x3 := h1.c3; have x4 := h1.c4; have x5 := h1.c5; have x6 := h1.c6; have x7 := h1.c7
    go_simp
    exact RegionU.does_value rfl
  simp only [Act.put, List.setIfInBounds_toArray, List.set]
  refine wpU_taken (i := 2) rfl (by kernel_rfl) (by kernel_rfl) (by kernel_rfl) HU.out ?_
  apply Exists.intro
  refine ⟨Or.inl ⟨rfl, fun W hW => ?hy⟩, ?_⟩
  case hy =>
    obtain ⟨h1, h2, h3, h4, h5, h6⟩ := hW
    go_simp
    exact RegionU.does_value rfl
  simp only [Act.put, List.setIfInBounds_toArray, List.set]
  refine wpU_one (i := 1) (by kernel_rfl) rfl rfl (IsT (ofKind 6) [.mk n l]) (isT_up (ofKind 6) [.mk n l]) (fun W hW => ?hy) ?_
  case hy =>
    obtain ⟨h1, h2, h3, h4, h5, h6⟩ := hW
    go_simp
    exact does_tree (HSTAR.out W h4 h6)
  intro u
  simp only [Act.put, List.setIfInBounds_toArray, List.set]
  refine wpU_one (i := 3) (by kernel_rfl) rfl rfl (IsT (ofKind 6) [.mk n l]) (isT_up (ofKind 6) [.mk n l]) (fun W hW => ?hy) ?_
  case hy =>
    obtain ⟨⟨h1, h2, h3, h4, h5, h6⟩, b1, k1, hu1, hl1⟩ := hW
    go_simp
    exact does_tree (HOF.out 6 W h3 h4 h6)
  intro u
  simp only [Act.put, List.setIfInBounds_toArray, List.set]
  refine wpU_taken (i := 4) rfl (by kernel_rfl) (by kernel_rfl) (by kernel_rfl) ((HU.out.and (isT_up _ _ _)).and (isT_up _ _ _)) ?_
  apply Exists.intro
  refine ⟨Or.inl ⟨rfl, fun W hW => ?hy⟩, ?_⟩
  case hy =>
    obtain ⟨⟨⟨h1, h2, h3, h4, h5, h6⟩, b1, k1, hu1, hl1⟩, b2, k2, hu2, hl2⟩ := hW
    go_simp
    exact RegionU.does_call (HEQ.out (ofKind 6) b1 k1 b2 k2 W hl1 hl2)
  simp only [Act.put, List.setIfInBounds_toArray, List.set]
  refine RegionU.wpU_mono _ _ _ _ _ (fun W h => h.1.1) ?_
  refine wpU_taken (i := 5) rfl (by kernel_rfl) (by kernel_rfl) (by kernel_rfl) HU.out ?_
  apply Exists.intro
  refine ⟨Or.inl ⟨rfl, fun W hW => ?hy⟩, ?_⟩
  case hy =>
    obtain ⟨h1, h2, h3, h4, h5, h6⟩ := hW
    go_simp
    try simp only [beq_self_eq_true, bne_self_eq_false, Bool.not_true, Bool.not_false, Bool.or_false, Bool.and_true]
    exact RegionU.does_value rfl
  simp only [Act.put, List.setIfInBounds_toArray, List.set]
  refine wpU_taken (i := 6) rfl (by kernel_rfl) (by kernel_rfl) (by kernel_rfl) HU.out ?_
  apply Exists.intro
  refine ⟨Or.inl ⟨rfl, fun W hW => ?hy⟩, ?_⟩
  case hy =>
    obtain ⟨h1, h2, h3, h4, h5, h6⟩ := hW
    go_simp
    exact RegionU.does_value rfl
  simp only [Act.put, List.setIfInBounds_toArray, List.set]
  refine wpU_taken (i := 7) rfl (by kernel_rfl) (by kernel_rfl) (by kernel_rfl) HU.out ?_
  apply Exists.intro
  refine ⟨Or.inl ⟨rfl, fun W hW => ?hy⟩, ?_⟩
  case hy =>
    obtain ⟨h1, h2, h3, h4, h5, h6⟩ := hW
    have x0 := h1.c0; have x1 := h1.c1; have x2 := h1.c2; have x3 := h1.c3; have x4 := h1.c4; have x5 := h1.c5; have x6 := h1.c6; have x7 := h1.c7
    go_simp
    exact RegionU.does_value rfl
  simp only [Act.put, List.setIfInBounds_toArray, List.set]
  refine wpU_taken (i := 9) rfl (by kernel_rfl) (by kernel_rfl) (by kernel_rfl) HU.out ?_
  apply Exists.intro
  refine ⟨Or.inl ⟨rfl, fun W hW => ?hy⟩, ?_⟩
  case hy =>
    obtain ⟨h1, h2, h3, h4, h5, h6⟩ := hW
    go_simp
    exact RegionU.does_value rfl
  simp only [Act.put, List.setIfInBounds_toArray, List.set]
  refine wpU_one (i := 8) (by kernel_rfl) rfl rfl (IsT (ofKind 7) [.mk n l]) (isT_up (ofKind 7) [.mk n l]) (fun W hW => ?hy) ?_
  case hy =>
    obtain ⟨h1, h2, h3, h4, h5, h6⟩ := hW
    go_simp
    exact does_tree (HPLUS.out W h4 h6)
  intro u
  simp only [Act.put, List.setIfInBounds_toArray, List.set]
  refine wpU_one (i := 10) (by kernel_rfl) rfl rfl (IsT (ofKind 7) [.mk n l]) (isT_up (ofKind 7) [.mk n l]) (fun W hW => ?hy) ?_
  case hy =>
    obtain ⟨⟨h1, h2, h3, h4, h5, h6⟩, b1, k1, hu1, hl1⟩ := hW
    go_simp
    exact does_tree (HOF.out 7 W h3 h4 h6)
  intro u
  simp only [Act.put, List.setIfInBounds_toArray, List.set]
  refine wpU_taken (i := 11) rfl (by kernel_rfl) (by kernel_rfl) (by kernel_rfl) ((HU.out.and (isT_up _ _ _)).and (isT_up _ _ _)) ?_
  apply Exists.intro
  refine ⟨Or.inl ⟨rfl, fun W hW => ?hy⟩, ?_⟩
  case hy =>
    obtain ⟨⟨⟨h1, h2, h3, h4, h5, h6⟩, b1, k1, hu1, hl1⟩, b2, k2, hu2, hl2⟩ := hW
    go_simp
    exact RegionU.does_call (HEQ.out (ofKind 7) b1 k1 b2 k2 W hl1 hl2)
  simp only [Act.put, List.setIfInBounds_toArray, List.set]
  refine RegionU.wpU_mono _ _ _ _ _ (fun W h => h.1.1) ?_
  refine wpU_taken (i := 12) rfl (by kernel_rfl) (by kernel_rfl) (by kernel_rfl) HU.out ?_
  apply Exists.intro
  refine ⟨Or.inl ⟨rfl, fun W hW => ?hy⟩, ?_⟩
  case hy =>
    obtain ⟨h1, h2, h3, h4, h5, h6⟩ := hW
    go_simp
    try simp only [beq_self_eq_true, bne_self_eq_false, Bool.not_true, Bool.not_false, Bool.or_false, Bool.and_true]
    exact RegionU.does_value rfl
  simp only [Act.put, List.setIfInBounds_toArray, List.set]
  refine wpU_taken (i := 13) rfl (by kernel_rfl) (by kernel_rfl) (by kernel_rfl) HU.out ?_
  apply Exists.intro
  refine ⟨Or.inl ⟨rfl, fun W hW => ?hy⟩, ?_⟩
  case hy =>
    obtain ⟨h1, h2, h3, h4, h5, h6⟩ := hW
    go_simp
    exact RegionU.does_value rfl
  simp only [Act.put, List.setIfInBounds_toArray, List.set]
  refine wpU_taken (i := 14) rfl (by kernel_rfl) (by kernel_rfl) (by kernel_rfl) HU.out ?_
  apply Exists.intro
  refine ⟨Or.inl ⟨rfl, fun W hW => ?hy⟩, ?_⟩
  case hy =>
    obtain ⟨h1, h2, h3, h4, h5, h6⟩ := hW
    go_simp
    exact RegionU.does_value rfl
  simp only [Act.put, List.setIfInBounds_toArray, List.set]
  refine wpU_taken (i := 15) rfl (by kernel_rfl) (by kernel_rfl) (by kernel_rfl) HU.out ?_
  apply Exists.intro
  refine ⟨Or.inl ⟨rfl, fun W hW => ?hy⟩, ?_⟩
  case hy =>
    obtain ⟨h1, h2, h3, h4, h5, h6⟩ := hW
    have x0 := h1.c0; have x1 := h1.c1; have x2 := h1.c2; have x3 := h1.c3; have x4 := h1.c4; have x5 := h1.c5; have x6 := h1.c6; have x7 := h1.c7
    go_simp
    exact RegionU.does_value rfl
  simp only [Act.put, List.setIfInBounds_toArray, List.set]
  refine wpU_taken (i := 17) rfl (by kernel_rfl) (by kernel_rfl) (by kernel_rfl) HU.out ?_
  apply Exists.intro
  refine ⟨Or.inl ⟨rfl, fun W hW => ?hy⟩, ?_⟩
  case hy =>
    obtain ⟨h1, h2, h3, h4, h5, h6⟩ := hW
    go_simp
    exact RegionU.does_value rfl
  simp only [Act.put, List.setIfInBounds_toArray, List.set]
  refine wpU_one (i := 16) (by kernel_rfl) rfl rfl (IsT (ofKind 8) [.mk n l]) (isT_up (ofKind 8) [.mk n l]) (fun W hW => ?hy) ?_
  case hy =>
    obtain ⟨h1, h2, h3, h4, h5, h6⟩ := hW
    go_simp
    exact does_tree (HOPT.out W h4 h6)
  intro u
  simp only [Act.put, List.setIfInBounds_toArray, List.set]
  refine wpU_one (i := 18) (by kernel_rfl) rfl rfl (IsT (ofKind 8) [.mk n l]) (isT_up (ofKind 8) [.mk n l]) (fun W hW => ?hy) ?_
  case hy =>
    obtain ⟨⟨h1, h2, h3, h4, h5, h6⟩, b1, k1, hu1, hl1⟩ := hW
    go_simp
    exact does_tree (HOF.out 8 W h3 h4 h6)
  intro u
  simp only [Act.put, List.setIfInBounds_toArray, List.set]
  refine wpU_taken (i := 19) rfl (by kernel_rfl) (by kernel_rfl) (by kernel_rfl) ((HU.out.and (isT_up _ _ _)).and (isT_up _ _ _)) ?_
  apply Exists.intro
  refine ⟨Or.inl ⟨rfl, fun W hW => ?hy⟩, ?_⟩
  case hy =>
    obtain ⟨⟨⟨h1, h2, h3, h4, h5, h6⟩, b1, k1, hu1, hl1⟩, b2, k2, hu2, hl2⟩ := hW
    go_simp
    exact RegionU.does_call (HEQ.out (ofKind 8) b1 k1 b2 k2 W hl1 hl2)
  simp only [Act.put, List.setIfInBounds_toArray, List.set]
  refine RegionU.wpU_mono _ _ _ _ _ (fun W h => h.1.1) ?_
  refine wpU_taken (i := 20) rfl (by kernel_rfl) (by kernel_rfl) (by kernel_rfl) HU.out ?_
  apply Exists.intro
  refine ⟨Or.inl ⟨rfl, fun W hW => ?hy⟩, ?_⟩
  case hy =>
    obtain ⟨h1, h2, h3, h4, h5, h6⟩ := hW
    go_simp
    try simp only [beq_self_eq_true, bne_self_eq_false, Bool.not_true, Bool.not_false, Bool.or_false, Bool.and_true]
    exact RegionU.does_value rfl
  simp only [Act.put, List.setIfInBounds_toArray, List.set]
  refine wpU_taken (i := 21) rfl (by kernel_rfl) (by kernel_rfl) (by kernel_rfl) HU.out ?_
  apply Exists.intro
  refine ⟨Or.inl ⟨rfl, fun W hW => ?hy⟩, ?_⟩
  case hy =>
    obtain ⟨h1, h2, h3, h4, h5, h6⟩ := hW
    go_simp
    exact RegionU.does_value rfl
  simp only [Act.put, List.setIfInBounds_toArray, List.set]
  refine wpU_taken (i := 22) rfl (by kernel_rfl) (by kernel_rfl) (by kernel_rfl) HU.out ?_
  apply Exists.intro
  refine ⟨Or.inl ⟨rfl, fun W hW => ?hy⟩, ?_⟩
  case hy =>
    obtain ⟨h1, h2, h3, h4, h5, h6⟩ := hW
    go_simp
    exact RegionU.does_value rfl
  simp only [Act.put, List.setIfInBounds_toArray, List.set]
  refine wpU_taken (i := 23) rfl (by kernel_rfl) (by kernel_rfl) (by kernel_rfl) HU.out ?_
  apply Exists.intro
  refine ⟨Or.inl ⟨rfl, fun W hW => ?hy⟩, ?_⟩
  case hy =>
    obtain ⟨h1, h2, h3, h4, h5, h6⟩ := hW
    have x0 := h1.c0; have x1 := h1.c1; have x2 := h1.c2; have x3 := h1.c3; have x4 := h1.c4; have x5 := h1.c5; have x6 := h1.c6; have x7 := h1.c7
    go_simp
    exact RegionU.does_value rfl
  simp only [Act.put, List.setIfInBounds_toArray, List.set]
  refine wpU_taken (i := 24) rfl (by kernel_rfl) (by kernel_rfl) (by kernel_rfl) HU.out ?_
  apply Exists.intro
  refine ⟨Or.inl ⟨rfl, fun W hW => ?hy⟩, ?_⟩
  case hy =>
    obtain ⟨h1, h2, h3, h4, h5, h6⟩ := hW
    go_simp
    exact RegionU.does_value rfl
  simp only [Act.put, List.setIfInBounds_toArray, List.set]
  refine wpU_taken (i := 25) rfl (by kernel_rfl) (by kernel_rfl) (by kernel_rfl) HU.out ?_
  apply Exists.intro
  refine ⟨Or.inl ⟨rfl, fun W hW => ?hy⟩, ?_⟩
  case hy =>
    obtain ⟨h1, h2, h3, h4, h5, h6⟩ := hW
    go_simp
    exact RegionU.does_value rfl
  simp only [Act.put, List.setIfInBounds_toArray, List.set]
  refine wpU_taken (i := 27) rfl (by kernel_rfl) (by kernel_rfl) (by kernel_rfl) HU.out ?_
  apply Exists.intro
  refine ⟨Or.inl ⟨rfl, fun W hW => ?hy⟩, ?_⟩
  case hy =>
    obtain ⟨h1, h2, h3, h4, h5, h6⟩ := hW
    have x0 := h1.c0; have x1 := h1.c1; have x2 := h1.c2; have x3 := h1.c3; have x4 := h1.c4; have x5 := h1.c5; have x6 := h1.c6; have x7 := h1.c7
    go_simp
    exact RegionU.does_value rfl
  simp only [Act.put, List.setIfInBounds_toArray, List.set]
  refine wpU_taken (i := 28) rfl (by kernel_rfl) (by kernel_rfl) (by kernel_rfl) HU.out ?_
  apply Exists.intro
  refine ⟨Or.inl ⟨rfl, fun W hW => ?hy⟩, ?_⟩
  case hy =>
    obtain ⟨h1, h2, h3, h4, h5, h6⟩ := hW
    go_simp
    exact RegionU.does_value rfl
  simp only [Act.put, List.setIfInBounds_toArray, List.set]
  refine wpU_taken (i := 29) rfl (by kernel_rfl) (by kernel_rfl) (by kernel_rfl) HU.out ?_
  apply Exists.intro
  refine ⟨Or.inl ⟨rfl, fun W hW => ?hy⟩, ?_⟩
  case hy =>
    obtain ⟨h1, h2, h3, h4, h5, h6⟩ := hW
    go_simp
    exact RegionU.does_value rfl
  simp only [Act.put, List.setIfInBounds_toArray, List.set]
  refine wpU_one (i := 26) (by kernel_rfl) rfl rfl (IsT ⟨9, 0, 0, 0, 0, lo, hi⟩ [.mk n l]) (isT_up ⟨9, 0, 0, 0, 0, lo, hi⟩ [.mk n l]) (fun W hW => ?hy) ?_
  case hy =>
    obtain ⟨h1, h2, h3, h4, h5, h6⟩ := hW
    go_simp
    exact does_tree (HREP.out W h4 h6)
  intro u
  simp only [Act.put, List.setIfInBounds_toArray, List.set]
  refine wpU_one (i := 30) (by kernel_rfl) rfl rfl (IsT ⟨9, 0, 0, 0, 0, lo, hi⟩ [.mk n l]) (isT_up ⟨9, 0, 0, 0, 0, lo, hi⟩ [.mk n l]) (fun W hW => ?hy) ?_
  case hy =>
    obtain ⟨⟨h1, h2, h3, h4, h5, h6⟩, b1, k1, hu1, hl1⟩ := hW
    go_simp
    exact does_tree (HRREP.out W h4 h6)
  intro u
  simp only [Act.put, List.setIfInBounds_toArray, List.set]
  refine wpU_taken (i := 31) rfl (by kernel_rfl) (by kernel_rfl) (by kernel_rfl) ((HU.out.and (isT_up _ _ _)).and (isT_up _ _ _)) ?_
  apply Exists.intro
  refine ⟨Or.inl ⟨rfl, fun W hW => ?hy⟩, ?_⟩
  case hy =>
    obtain ⟨⟨⟨h1, h2, h3, h4, h5, h6⟩, b1, k1, hu1, hl1⟩, b2, k2, hu2, hl2⟩ := hW
    go_simp
    exact RegionU.does_call (HEQ.out ⟨9, 0, 0, 0, 0, lo, hi⟩ b1 k1 b2 k2 W hl1 hl2)
  simp only [Act.put, List.setIfInBounds_toArray, List.set]
  refine RegionU.wpU_mono _ _ _ _ _ (fun W h => h.1.1) ?_
  refine wpU_taken (i := 32) rfl (by kernel_rfl) (by kernel_rfl) (by kernel_rfl) HU.out ?_
  apply Exists.intro
  refine ⟨Or.inl ⟨rfl, fun W hW => ?hy⟩, ?_⟩
  case hy =>
    obtain ⟨h1, h2, h3, h4, h5, h6⟩ := hW
    go_simp
    try simp only [beq_self_eq_true, bne_self_eq_false, Bool.not_true, Bool.not_false, Bool.or_false, Bool.and_true]
    exact RegionU.does_value rfl
  simp only [Act.put, List.setIfInBounds_toArray, List.set]
  refine wpU_taken (i := 33) rfl (by kernel_rfl) (by kernel_rfl) (by kernel_rfl) HU.out ?_
  apply Exists.intro
  refine ⟨Or.inl ⟨rfl, fun W hW => ?hy⟩, ?_⟩
  case hy =>
    obtain ⟨h1, h2, h3, h4, h5, h6⟩ := hW
    go_simp
    exact RegionU.does_value rfl
  simp only [Act.put, List.setIfInBounds_toArray, List.set]
  refine wpU_done (by kernel_rfl) ?_
  clear W0
  intro W0 hW
  have hC := C3_drew hW
  clear hW
  go_wp2_with fail
  refine wp_region_U (C := C3 w A n (.slice a l.length cap) l f) (by kernel_rfl) HU.out hC ?_
  clear hC
  refine wpU_taken (i := 0) rfl (by kernel_rfl) (by kernel_rfl) (by kernel_rfl) HU.out ?_
  apply Exists.intro
  refine ⟨Or.inl ⟨rfl, fun W hW => ?hy⟩, ?_⟩
  case hy =>
    obtain ⟨h1, h2, h3, h4, h5, h6⟩ := hW
    have y0 := h2.c0; have y1 := h2.c1; have y2 := h2.c2; have y3 := h2.c3
    go_simp
    exact RegionU.does_value rfl
  simp only [Act.put, List.setIfInBounds_toArray, List.set]
  refine wpU_taken (i := 2) rfl (by kernel_rfl) (by kernel_rfl) (by kernel_rfl) HU.out ?_
  apply Exists.intro
  refine ⟨Or.inl ⟨rfl, fun W hW => ?hy⟩, ?_⟩
  case hy =>
    obtain ⟨h1, h2, h3, h4, h5, h6⟩ := hW
    have y0 := h2.c0; have y1 := h2.c1; have y2 := h2.c2; have y3 := h2.c3
    go_simp
    exact RegionU.does_value rfl
  simp only [Act.put, List.setIfInBounds_toArray, List.set]
  refine wpU_taken (i := 1) rfl (by kernel_rfl) (by kernel_rfl) (by kernel_rfl) HU.out ?_
  apply Exists.intro
  refine ⟨Or.inl ⟨rfl, fun W hW => ?hy⟩, ?_⟩
  case hy =>
    obtain ⟨h1, h2, h3, h4, h5, h6⟩ := hW
    go_simp
    exact RegionU.does_call (HBY.out W)
  simp only [Act.put, List.setIfInBounds_toArray, List.set]
  refine wpU_taken (i := 3) rfl (by kernel_rfl) (by kernel_rfl) (by kernel_rfl) HU.out ?_
  apply Exists.intro
  refine ⟨Or.inl ⟨rfl, fun W hW => ?hy⟩, ?_⟩
  case hy =>
    obtain ⟨h1, h2, h3, h4, h5, h6⟩ := hW
    go_simp
    exact RegionU.does_call (HRBY.out W)
  simp only [Act.put, List.setIfInBounds_toArray, List.set]
  refine wpU_taken (i := 4) rfl (by kernel_rfl) (by kernel_rfl) (by kernel_rfl) HU.out ?_
  apply Exists.intro
  refine ⟨Or.inl ⟨rfl, fun W hW => ?hy⟩, ?_⟩
  case hy =>
    obtain ⟨h1, h2, h3, h4, h5, h6⟩ := hW
    go_simp
    exact RegionU.does_call (HLEQ.out W)
  simp only [Act.put, List.setIfInBounds_toArray, List.set]
  refine wpU_taken (i := 5) rfl (by kernel_rfl) (by kernel_rfl) (by kernel_rfl) HU.out ?_
  apply Exists.intro
  refine ⟨Or.inl ⟨rfl, fun W hW => ?hy⟩, ?_⟩
  case hy =>
    obtain ⟨h1, h2, h3, h4, h5, h6⟩ := hW
    go_simp
    try simp only [beq_self_eq_true, bne_self_eq_false, Bool.not_true, Bool.not_false, Bool.or_false, Bool.and_true]
    exact RegionU.does_value rfl
  simp only [Act.put, List.setIfInBounds_toArray, List.set]
  refine wpU_taken (i := 6) rfl (by kernel_rfl) (by kernel_rfl) (by kernel_rfl) HU.out ?_
  apply Exists.intro
  refine ⟨Or.inl ⟨rfl, fun W hW => ?hy⟩, ?_⟩
  case hy =>
    obtain ⟨h1, h2, h3, h4, h5, h6⟩ := hW
    go_simp
    exact RegionU.does_value rfl
  simp only [Act.put, List.setIfInBounds_toArray, List.set]
  refine wpU_taken (i := 7) rfl (by kernel_rfl) (by kernel_rfl) (by kernel_rfl) HU.out ?_
  apply Exists.intro
  refine ⟨Or.inl ⟨rfl, fun W hW => ?hy⟩, ?_⟩
  case hy =>
    obtain ⟨h1, h2, h3, h4, h5, h6⟩ := hW
    have y0 := h2.c0; have y1 := h2.c1; have y2 := h2.c2; have y3 := h2.c3
    go_simp
    exact RegionU.does_value rfl
  simp only [Act.put, List.setIfInBounds_toArray, List.set]
  refine wpU_taken (i := 8) rfl (by kernel_rfl) (by kernel_rfl) (by kernel_rfl) HU.out ?_
  apply Exists.intro
  refine ⟨Or.inl ⟨rfl, fun W hW => ?hy⟩, ?_⟩
  case hy =>
    obtain ⟨h1, h2, h3, h4, h5, h6⟩ := hW
    go_simp
    exact RegionU.does_call (HBY.out W)
  simp only [Act.put, List.setIfInBounds_toArray, List.set]
  refine wpU_taken (i := 9) rfl (by kernel_rfl) (by kernel_rfl) (by kernel_rfl) HU.out ?_
  apply Exists.intro
  refine ⟨Or.inl ⟨rfl, fun W hW => ?hy⟩, ?_⟩
  case hy =>
    obtain ⟨h1, h2, h3, h4, h5, h6⟩ := hW
    go_simp
    exact RegionU.does_call (HLR.out W h5)
  simp only [Act.put, List.setIfInBounds_toArray, List.set]
  refine wpU_taken (i := 10) rfl (by kernel_rfl) (by kernel_rfl) (by kernel_rfl) HU.out ?_
  apply Exists.intro
  refine ⟨Or.inl ⟨rfl, fun W hW => ?hy⟩, ?_⟩
  case hy =>
    obtain ⟨h1, h2, h3, h4, h5, h6⟩ := hW
    go_simp
    try simp only [beq_self_eq_true, bne_self_eq_false, Bool.not_true, Bool.not_false, Bool.or_false, Bool.and_true]
    exact RegionU.does_value rfl
  simp only [Act.put, List.setIfInBounds_toArray, List.set]
  refine wpU_taken (i := 11) rfl (by kernel_rfl) (by kernel_rfl) (by kernel_rfl) HU.out ?_
  apply Exists.intro
  refine ⟨Or.inl ⟨rfl, fun W hW => ?hy⟩, ?_⟩
  case hy =>
    obtain ⟨h1, h2, h3, h4, h5, h6⟩ := hW
    go_simp
    exact RegionU.does_value rfl
  simp only [Act.put, List.setIfInBounds_toArray, List.set]
  refine wpU_taken (i := 12) rfl (by kernel_rfl) (by kernel_rfl) (by kernel_rfl) HU.out ?_
  apply Exists.intro
  refine ⟨Or.inl ⟨rfl, fun W hW => ?hy⟩, ?_⟩
  case hy =>
    obtain ⟨h1, h2, h3, h4, h5, h6⟩ := hW
    go_simp
    exact RegionU.does_value rfl
  simp only [Act.put, List.setIfInBounds_toArray, List.set]
  refine wpU_taken (i := 13) rfl (by kernel_rfl) (by kernel_rfl) (by kernel_rfl) HU.out ?_
  apply Exists.intro
  refine ⟨Or.inl ⟨rfl, fun W hW => ?hy⟩, ?_⟩
  case hy =>
    obtain ⟨h1, h2, h3, h4, h5, h6⟩ := hW
    go_simp
    exact RegionU.does_call (HNO.out W)
  simp only [Act.put, List.setIfInBounds_toArray, List.set]
  refine wpU_taken (i := 14) rfl (by kernel_rfl) (by kernel_rfl) (by kernel_rfl) HU.out ?_
  apply Exists.intro
  refine ⟨Or.inl ⟨rfl, fun W hW => ?hy⟩, ?_⟩
  case hy =>
    obtain ⟨h1, h2, h3, h4, h5, h6⟩ := hW
    go_simp
    exact RegionU.does_value rfl
  simp only [Act.put, List.setIfInBounds_toArray, List.set]
  refine wpU_taken (i := 15) rfl (by kernel_rfl) (by kernel_rfl) (by kernel_rfl) HU.out ?_
  apply Exists.intro
  refine ⟨Or.inl ⟨rfl, fun W hW => ?hy⟩, ?_⟩
  case hy =>
    obtain ⟨h1, h2, h3, h4, h5, h6⟩ := hW
    go_simp
    exact RegionU.does_value rfl
  simp only [Act.put, List.setIfInBounds_toArray, List.set]
  refine wpU_taken (i := 16) rfl (by kernel_rfl) (by kernel_rfl) (by kernel_rfl) HU.out ?_
  apply Exists.intro
  refine ⟨Or.inl ⟨rfl, fun W hW => ?hy⟩, ?_⟩
  case hy =>
    obtain ⟨h1, h2, h3, h4, h5, h6⟩ := hW
    go_simp
    exact RegionU.does_value rfl
  simp only [Act.put, List.setIfInBounds_toArray, List.set]
  refine wpU_done (by kernel_rfl) ?_
  clear W0
  intro W0 hW
  obtain ⟨h1, h2, h3, h4, h5, h6⟩ := hW
  have HH := Lib.hid h4; have HB := Lib.hid h6; have HC0 := Lib.hid (show C3 w A n (.slice a l.length cap) l f W0 from ⟨h1, h2, h3, h4, h5, h6⟩)
  have x0 := h1.c0; have x1 := h1.c1; have x2 := h1.c2; have x3 := h1.c3; have x4 := h1.c4; have x5 := h1.c5; have x6 := h1.c6; have x7 := h1.c7
  clear h1 h2 h3 h4 h5 h6
  go_wp2_with fail
  refine (HSX.out W0 HH.out HB.out).mono ?_
  rintro e W1 ⟨rfl, hb1⟩
  have hC := C3_drew (HU.out W0 W1 HC0.out hb1)
  clear HH HB HC0 hb1 x0 x1 x2 x3 x4 x5 x6 x7
  cases b
  · simp only [Bool.false_and] at HR8 HR9
    go_wp2_with fail
    refine wp_region_U (C := C3 w A n (.slice a l.length cap) l f) (by kernel_rfl) HU.out hC ?_
    clear hC
    refine wpU_taken (i := 0) rfl (by kernel_rfl) (by kernel_rfl) (by kernel_rfl) HU.out ?_
    apply Exists.intro
    refine ⟨Or.inl ⟨rfl, fun W hW => ?hy⟩, ?_⟩
    case hy =>
      obtain ⟨h1, h2, h3, h4, h5, h6⟩ := hW
      have x0 := h1.c0; have x1 := h1.c1; have x2 := h1.c2; have x3 := h1.c3; have x4 := h1.c4; have x5 := h1.c5; have x6 := h1.c6; have x7 := h1.c7
      go_simp
      exact RegionU.does_value rfl
    simp only [Act.put, List.setIfInBounds_toArray, List.set]
    refine wpU_taken (i := 3) rfl (by kernel_rfl) (by kernel_rfl) (by kernel_rfl) HU.out ?_
    apply Exists.intro
    refine ⟨Or.inl ⟨rfl, fun W hW => ?hy⟩, ?_⟩
    case hy =>
      obtain ⟨h1, h2, h3, h4, h5, h6⟩ := hW
      go_simp
      exact RegionU.does_value rfl
    simp only [Act.put, List.setIfInBounds_toArray, List.set]
    refine wpU_taken (i := 4) rfl (by kernel_rfl) (by kernel_rfl) (by kernel_rfl) HU.out ?_
    apply Exists.intro
    refine ⟨Or.inl ⟨rfl, fun W hW => ?hy⟩, ?_⟩
    case hy =>
      obtain ⟨h1, h2, h3, h4, h5, h6⟩ := hW
      go_simp
      exact RegionU.does_value rfl
    simp only [Act.put, List.setIfInBounds_toArray, List.set]
    refine wpU_one (i := 1) (by kernel_rfl) rfl rfl (IsT (ofKind 6) [.mk n l]) (isT_up (ofKind 6) [.mk n l]) (fun W hW => ?hy) ?_
    case hy =>
      obtain ⟨h1, h2, h3, h4, h5, h6⟩ := hW
      go_simp
      exact does_tree (HSTAR.out W h4 h6)
    intro u
    simp only [Act.put, List.setIfInBounds_toArray, List.set]
    refine wpU_taken (i := 2) rfl (by kernel_rfl) (by kernel_rfl) (by kernel_rfl) (HU.out.and (isT_up _ _ _)) ?_
    apply Exists.intro
    refine ⟨Or.inl ⟨rfl, fun W hW => ?hy⟩, ?_⟩
    case hy =>
      obtain ⟨⟨h1, h2, h3, h4, h5, h6⟩, b1, k1, hu1, hl1⟩ := hW
      go_simp
      exact RegionU.does_call (HSZ1.out b1 k1 W hl1)
    simp only [Act.put, List.setIfInBounds_toArray, List.set]
    refine RegionU.wpU_mono _ _ _ _ _ (fun W h => h.1) ?_
    refine wpU_taken (i := 5) rfl (by kernel_rfl) (by kernel_rfl) (by kernel_rfl) HU.out ?_
    apply Exists.intro
    refine ⟨Or.inl ⟨rfl, fun W hW => ?hy⟩, ?_⟩
    case hy =>
      obtain ⟨h1, h2, h3, h4, h5, h6⟩ := hW
      go_simp
      try simp only [beq_self_eq_true, bne_self_eq_false, Bool.not_true, Bool.not_false, Bool.or_false, Bool.and_true]
      exact RegionU.does_value rfl
    simp only [Act.put, List.setIfInBounds_toArray, List.set]
    refine wpU_taken (i := 6) rfl (by kernel_rfl) (by kernel_rfl) (by kernel_rfl) HU.out ?_
    apply Exists.intro
    refine ⟨Or.inl ⟨rfl, fun W hW => ?hy⟩, ?_⟩
    case hy =>
      obtain ⟨h1, h2, h3, h4, h5, h6⟩ := hW
      go_simp
      exact RegionU.does_value rfl
    simp only [Act.put, List.setIfInBounds_toArray, List.set]
    refine wpU_taken (i := 7) rfl (by kernel_rfl) (by kernel_rfl) (by kernel_rfl) HU.out ?_
    apply Exists.intro
    refine ⟨Or.inl ⟨rfl, fun W hW => ?hy⟩, ?_⟩
    case hy =>
      obtain ⟨h1, h2, h3, h4, h5, h6⟩ := hW
      have x0 := h1.c0; have x1 := h1.c1; have x2 := h1.c2; have x3 := h1.c3; have x4 := h1.c4; have x5 := h1.c5; have x6 := h1.c6; have x7 := h1.c7
      go_simp
      exact RegionU.does_value rfl
    simp only [Act.put, List.setIfInBounds_toArray, List.set]
    refine wpU_taken (i := 10) rfl (by kernel_rfl) (by kernel_rfl) (by kernel_rfl) HU.out ?_
    apply Exists.intro
    refine ⟨Or.inl ⟨rfl, fun W hW => ?hy⟩, ?_⟩
    case hy =>
      obtain ⟨h1, h2, h3, h4, h5, h6⟩ := hW
      have x0 := h1.c0; have x1 := h1.c1; have x2 := h1.c2; have x3 := h1.c3; have x4 := h1.c4; have x5 := h1.c5; have x6 := h1.c6; have x7 := h1.c7
      go_simp
      exact RegionU.does_value rfl
    simp only [Act.put, List.setIfInBounds_toArray, List.set]
    refine wpU_one (i := 8) (by kernel_rfl) rfl rfl (IsT (ofKind 8) [.mk n l]) (isT_up (ofKind 8) [.mk n l]) (fun W hW => ?hy) ?_
    case hy =>
      obtain ⟨h1, h2, h3, h4, h5, h6⟩ := hW
      go_simp
      exact does_tree (HOPT.out W h4 h6)
    intro u
    simp only [Act.put, List.setIfInBounds_toArray, List.set]
    refine wpU_taken (i := 9) rfl (by kernel_rfl) (by kernel_rfl) (by kernel_rfl) (HU.out.and (isT_up _ _ _)) ?_
    apply Exists.intro
    refine ⟨Or.inl ⟨rfl, fun W hW => ?hy⟩, ?_⟩
    case hy =>
      obtain ⟨⟨h1, h2, h3, h4, h5, h6⟩, b1, k1, hu1, hl1⟩ := hW
      go_simp
      exact RegionU.does_call (HR8.out b1 k1 W h5 hl1)
    simp only [Act.put, List.setIfInBounds_toArray, List.set]
    refine RegionU.wpU_mono _ _ _ _ _ (fun W h => h.1) ?_
    refine wpU_taken (i := 11) rfl (by kernel_rfl) (by kernel_rfl) (by kernel_rfl) HU.out ?_
    apply Exists.intro
    refine ⟨Or.inl ⟨rfl, fun W hW => ?hy⟩, ?_⟩
    case hy =>
      obtain ⟨h1, h2, h3, h4, h5, h6⟩ := hW
      go_simp
      exact RegionU.does_call (HRX.out W h4 h5 h6)
    simp only [Act.put, List.setIfInBounds_toArray, List.set]
    refine wpU_taken (i := 12) rfl (by kernel_rfl) (by kernel_rfl) (by kernel_rfl) HU.out ?_
    apply Exists.intro
    refine ⟨Or.inl ⟨rfl, fun W hW => ?hy⟩, ?_⟩
    case hy =>
      obtain ⟨h1, h2, h3, h4, h5, h6⟩ := hW
      go_simp
      exact RegionU.does_value rfl
    simp only [Act.put, List.setIfInBounds_toArray, List.set]
    refine wpU_taken (i := 13) rfl (by kernel_rfl) (by kernel_rfl) (by kernel_rfl) HU.out ?_
    apply Exists.intro
    refine ⟨Or.inr ⟨rfl, rfl⟩, ?_⟩
    simp only [Act.put, List.setIfInBounds_toArray, List.set]
    refine wpU_taken (i := 14) rfl (by kernel_rfl) (by kernel_rfl) (by kernel_rfl) HU.out ?_
    apply Exists.intro
    refine ⟨Or.inr ⟨rfl, rfl⟩, ?_⟩
    simp only [Act.put, List.setIfInBounds_toArray, List.set]
    refine wpU_taken (i := 15) rfl (by kernel_rfl) (by kernel_rfl) (by kernel_rfl) HU.out ?_
    apply Exists.intro
    refine ⟨Or.inl ⟨rfl, fun W hW => ?hy⟩, ?_⟩
    case hy =>
      obtain ⟨h1, h2, h3, h4, h5, h6⟩ := hW
      go_simp
      exact RegionU.does_value rfl
    simp only [Act.put, List.setIfInBounds_toArray, List.set]
    refine wpU_taken (i := 16) rfl (by kernel_rfl) (by kernel_rfl) (by kernel_rfl) HU.out ?_
    apply Exists.intro
    refine ⟨Or.inl ⟨rfl, fun W hW => ?hy⟩, ?_⟩
    case hy =>
      obtain ⟨h1, h2, h3, h4, h5, h6⟩ := hW
      go_simp
      try simp only [beq_self_eq_true, bne_self_eq_false, Bool.not_true, Bool.not_false, Bool.or_false, Bool.and_true]
      exact RegionU.does_value rfl
    simp only [Act.put, List.setIfInBounds_toArray, List.set]
    refine wpU_taken (i := 17) rfl (by kernel_rfl) (by kernel_rfl) (by kernel_rfl) HU.out ?_
    apply Exists.intro
    refine ⟨Or.inl ⟨rfl, fun W hW => ?hy⟩, ?_⟩
    case hy =>
      obtain ⟨h1, h2, h3, h4, h5, h6⟩ := hW
      go_simp
      exact RegionU.does_value rfl
    simp only [Act.put, List.setIfInBounds_toArray, List.set]
    refine wpU_done (by kernel_rfl) ?_
    clear W1
    intro W1 hW
    have hC2 := C3_drew hW
    clear hW
    have ways : (m = true ∧ 0 ≤ lo ∧ lo ≤ 1000 ∧ (hi == -1) = true) ∨ (m = true ∧ 0 ≤ lo ∧ lo ≤ 1000 ∧ (hi == -1) = false ∧ lo ≤ hi ∧ hi ≤ 1000) ∨ (m = false ∧ ¬ 0 ≤ lo) ∨ (m = false ∧ 0 ≤ lo ∧ ¬ lo ≤ 1000) ∨ (m = false ∧ 0 ≤ lo ∧ lo ≤ 1000 ∧ (hi == -1) = false ∧ ¬ lo ≤ hi) ∨ (m = false ∧ 0 ≤ lo ∧ lo ≤ 1000 ∧ (hi == -1) = false ∧ lo ≤ hi ∧ ¬ hi ≤ 1000) := six_ways HM.out
    clear HM
    rcases ways with ⟨rfl, p1, p2, e1⟩ | ⟨rfl, p1, p2, e1, p4, p5⟩ | ⟨rfl, p1⟩ | ⟨rfl, p1, p2⟩ | ⟨rfl, p1, p2, e1, p4⟩ | ⟨rfl, p1, p2, e1, p4, p5⟩
    all_goals
      try simp only [Bool.true_and, Bool.false_and, Bool.and_true, Bool.and_false] at HR9
      go_wp2_with fail
      refine wp_region_U (C := C3 w A n (.slice a l.length cap) l f) (by kernel_rfl) HU.out hC2 ?_
      clear hC2
      refine wpU_taken (i := 0) rfl (by kernel_rfl) (by kernel_rfl) (by kernel_rfl) HU.out ?_
      apply Exists.intro
      refine ⟨Or.inl ⟨rfl, fun W hW => ?hy⟩, ?_⟩
      case hy =>
        obtain ⟨h1, h2, h3, h4, h5, h6⟩ := hW
        have x0 := h1.c0; have x1 := h1.c1; have x2 := h1.c2; have x3 := h1.c3; have x4 := h1.c4; have x5 := h1.c5; have x6 := h1.c6; have x7 := h1.c7
        go_simp
        exact RegionU.does_value rfl
      simp only [Act.put, List.setIfInBounds_toArray, List.set]
      refine wpU_taken (i := 1) rfl (by kernel_rfl) (by kernel_rfl) (by kernel_rfl) HU.out ?_
      apply Exists.intro
      refine ⟨Or.inl ⟨rfl, fun W hW => ?hy⟩, ?_⟩
      case hy =>
        obtain ⟨h1, h2, h3, h4, h5, h6⟩ := hW
        go_simp
        exact RegionU.does_value rfl
      simp only [Act.put, List.setIfInBounds_toArray, List.set]
      refine wpU_taken (i := 2) rfl (by kernel_rfl) (by kernel_rfl) (by kernel_rfl) HU.out ?_
      apply Exists.intro
      refine ⟨Or.inl ⟨rfl, fun W hW => ?hy⟩, ?_⟩
      case hy =>
        obtain ⟨h1, h2, h3, h4, h5, h6⟩ := hW
        go_simp
        exact RegionU.does_value rfl
      simp only [Act.put, List.setIfInBounds_toArray, List.set]
      refine wpU_taken (i := 5) rfl (by kernel_rfl) (by kernel_rfl) (by kernel_rfl) HU.out ?_
      apply Exists.intro
      refine ⟨Or.inl ⟨rfl, fun W hW => ?hy⟩, ?_⟩
      case hy =>
        obtain ⟨h1, h2, h3, h4, h5, h6⟩ := hW
        have x0 := h1.c0; have x1 := h1.c1; have x2 := h1.c2; have x3 := h1.c3; have x4 := h1.c4; have x5 := h1.c5; have x6 := h1.c6; have x7 := h1.c7
        go_simp
        exact RegionU.does_value rfl
      simp only [Act.put, List.setIfInBounds_toArray, List.set]
      refine wpU_one (i := 3) (by kernel_rfl) rfl rfl (IsT ⟨9, 0, 0, 0, 0, lo, hi⟩ [.mk n l]) (isT_up ⟨9, 0, 0, 0, 0, lo, hi⟩ [.mk n l]) (fun W hW => ?hy) ?_
      case hy =>
        obtain ⟨h1, h2, h3, h4, h5, h6⟩ := hW
        go_simp
        exact does_tree (HREP.out W h4 h6)
      intro u
      simp only [Act.put, List.setIfInBounds_toArray, List.set]
      refine wpU_taken (i := 4) rfl (by kernel_rfl) (by kernel_rfl) (by kernel_rfl) (HU.out.and (isT_up _ _ _)) ?_
      apply Exists.intro
      refine ⟨Or.inl ⟨rfl, fun W hW => ?hy⟩, ?_⟩
      case hy =>
        obtain ⟨⟨h1, h2, h3, h4, h5, h6⟩, b1, k1, hu1, hl1⟩ := hW
        go_simp
        exact RegionU.does_call (HR9.out b1 k1 W h5 hl1)
      simp only [Act.put, List.setIfInBounds_toArray, List.set]
      refine RegionU.wpU_mono _ _ _ _ _ (fun W h => h.1) ?_
      refine wpU_taken (i := 6) rfl (by kernel_rfl) (by kernel_rfl) (by kernel_rfl) HU.out ?_
      apply Exists.intro
      refine ⟨Or.inl ⟨rfl, fun W hW => ?hy⟩, ?_⟩
      case hy =>
        obtain ⟨h1, h2, h3, h4, h5, h6⟩ := hW
        go_simp
        exact RegionU.does_call (HRX.out W h4 h5 h6)
      simp only [Act.put, List.setIfInBounds_toArray, List.set]
      refine wpU_taken (i := 7) rfl (by kernel_rfl) (by kernel_rfl) (by kernel_rfl) HU.out ?_
      apply Exists.intro
      refine ⟨Or.inl ⟨rfl, fun W hW => ?hy⟩, ?_⟩
      case hy =>
        obtain ⟨h1, h2, h3, h4, h5, h6⟩ := hW
        go_simp
        exact RegionU.does_value rfl
      simp only [Act.put, List.setIfInBounds_toArray, List.set]
      refine wpU_taken (i := 8) rfl (by kernel_rfl) (by kernel_rfl) (by kernel_rfl) HU.out ?_
      apply Exists.intro
      refine ⟨Or.inr ⟨rfl, rfl⟩, ?_⟩
      simp only [Act.put, List.setIfInBounds_toArray, List.set]
      refine wpU_taken (i := 9) rfl (by kernel_rfl) (by kernel_rfl) (by kernel_rfl) HU.out ?_
      apply Exists.intro
      refine ⟨Or.inr ⟨rfl, rfl⟩, ?_⟩
      simp only [Act.put, List.setIfInBounds_toArray, List.set]
      refine wpU_taken (i := 10) rfl (by kernel_rfl) (by kernel_rfl) (by kernel_rfl) HU.out ?_
      apply Exists.intro
      refine ⟨Or.inl ⟨rfl, fun W hW => ?hy⟩, ?_⟩
      case hy =>
        obtain ⟨h1, h2, h3, h4, h5, h6⟩ := hW
        go_simp
        exact RegionU.does_value rfl
      simp only [Act.put, List.setIfInBounds_toArray, List.set]
      refine wpU_taken (i := 11) rfl (by kernel_rfl) (by kernel_rfl) (by kernel_rfl) HU.out ?_
      apply Exists.intro
      refine ⟨Or.inl ⟨rfl, fun W hW => ?hy⟩, ?_⟩
      case hy =>
        obtain ⟨h1, h2, h3, h4, h5, h6⟩ := hW
        go_simp
        exact RegionU.does_value rfl
      simp only [Act.put, List.setIfInBounds_toArray, List.set]
      refine wpU_taken (i := 12) rfl (by kernel_rfl) (by kernel_rfl) (by kernel_rfl) HU.out ?_
      apply Exists.intro
      refine ⟨Or.inr ⟨rfl, rfl⟩, ?_⟩
      simp only [Act.put, List.setIfInBounds_toArray, List.set]
      refine wpU_taken (i := 13) rfl (by kernel_rfl) (by kernel_rfl) (by kernel_rfl) HU.out ?_
      apply Exists.intro
      refine ⟨Or.inl ⟨rfl, fun W hW => ?hy⟩, ?_⟩
      case hy =>
        obtain ⟨h1, h2, h3, h4, h5, h6⟩ := hW
        go_simp
        exact RegionU.does_value rfl
      simp only [Act.put, List.setIfInBounds_toArray, List.set]
      refine wpU_taken (i := 14) rfl (by kernel_rfl) (by kernel_rfl) (by kernel_rfl) HU.out ?_
      apply Exists.intro
      refine ⟨Or.inl ⟨rfl, fun W hW => ?hy⟩, ?_⟩
      case hy =>
        obtain ⟨h1, h2, h3, h4, h5, h6⟩ := hW
        go_simp
        try simp only [beq_self_eq_true, bne_self_eq_false, Bool.not_true, Bool.not_false, Bool.or_false, Bool.and_true]
        exact RegionU.does_value rfl
      simp only [Act.put, List.setIfInBounds_toArray, List.set]
      refine wpU_taken (i := 15) rfl (by kernel_rfl) (by kernel_rfl) (by kernel_rfl) HU.out ?_
      apply Exists.intro
      refine ⟨Or.inl ⟨rfl, fun W hW => ?hy⟩, ?_⟩
      case hy =>
        obtain ⟨h1, h2, h3, h4, h5, h6⟩ := hW
        go_simp
        exact RegionU.does_value rfl
      simp only [Act.put, List.setIfInBounds_toArray, List.set]
      refine wpU_taken (i := 16) rfl (by kernel_rfl) (by kernel_rfl) (by kernel_rfl) HU.out ?_
      apply Exists.intro
      refine ⟨Or.inl ⟨rfl, fun W hW => ?hy⟩, ?_⟩
      case hy =>
        obtain ⟨h1, h2, h3, h4, h5, h6⟩ := hW
        go_simp
        exact RegionU.does_call (HK.out W h5)
      simp only [Act.put, List.setIfInBounds_toArray, List.set]
      refine wpU_taken (i := 17) rfl (by kernel_rfl) (by kernel_rfl) (by kernel_rfl) HU.out ?_
      apply Exists.intro
      refine ⟨Or.inl ⟨rfl, fun W hW => ?hy⟩, ?_⟩
      case hy =>
        obtain ⟨h1, h2, h3, h4, h5, h6⟩ := hW
        go_simp
        exact RegionU.does_value rfl
      simp only [Act.put, List.setIfInBounds_toArray, List.set]
      refine wpU_taken (i := 18) rfl (by kernel_rfl) (by kernel_rfl) (by kernel_rfl) HU.out ?_
      apply Exists.intro
      refine ⟨Or.inl ⟨rfl, fun W hW => ?hy⟩, ?_⟩
      case hy =>
        obtain ⟨h1, h2, h3, h4, h5, h6⟩ := hW
        go_simp
        exact RegionU.does_value rfl
      simp only [Act.put, List.setIfInBounds_toArray, List.set]
      refine wpU_done (by kernel_rfl) ?_
      intro W hW
      obtain ⟨h1, h2, h3, h4, h5, h6⟩ := hW
      go_wp2_with fail
      go_ret
      exact ⟨rfl, h6⟩
  · cases d
    · simp only [Bool.true_and, Bool.false_and] at HR8 HR9
      have hdz : decide (z < 4096) = false := HD.out.symm
      go_wp2_with fail
      refine wp_region_U (C := C3 w A n (.slice a l.length cap) l f) (by kernel_rfl) HU.out hC ?_
      clear hC
      refine wpU_taken (i := 0) rfl (by kernel_rfl) (by kernel_rfl) (by kernel_rfl) HU.out ?_
      apply Exists.intro
      refine ⟨Or.inl ⟨rfl, fun W hW => ?hy⟩, ?_⟩
      case hy =>
        obtain ⟨h1, h2, h3, h4, h5, h6⟩ := hW
        have x0 := h1.c0; have x1 := h1.c1; have x2 := h1.c2; have x3 := h1.c3; have x4 := h1.c4; have x5 := h1.c5; have x6 := h1.c6; have x7 := h1.c7
        go_simp
        exact RegionU.does_value rfl
      simp only [Act.put, List.setIfInBounds_toArray, List.set]
      refine wpU_taken (i := 3) rfl (by kernel_rfl) (by kernel_rfl) (by kernel_rfl) HU.out ?_
      apply Exists.intro
      refine ⟨Or.inl ⟨rfl, fun W hW => ?hy⟩, ?_⟩
      case hy =>
        obtain ⟨h1, h2, h3, h4, h5, h6⟩ := hW
        go_simp
        exact RegionU.does_value rfl
      simp only [Act.put, List.setIfInBounds_toArray, List.set]
      refine wpU_taken (i := 4) rfl (by kernel_rfl) (by kernel_rfl) (by kernel_rfl) HU.out ?_
      apply Exists.intro
      refine ⟨Or.inl ⟨rfl, fun W hW => ?hy⟩, ?_⟩
      case hy =>
        obtain ⟨h1, h2, h3, h4, h5, h6⟩ := hW
        go_simp
        exact RegionU.does_value rfl
      simp only [Act.put, List.setIfInBounds_toArray, List.set]
      refine wpU_one (i := 1) (by kernel_rfl) rfl rfl (IsT (ofKind 6) [.mk n l]) (isT_up (ofKind 6) [.mk n l]) (fun W hW => ?hy) ?_
      case hy =>
        obtain ⟨h1, h2, h3, h4, h5, h6⟩ := hW
        go_simp
        exact does_tree (HSTAR.out W h4 h6)
      intro u
      simp only [Act.put, List.setIfInBounds_toArray, List.set]
      refine wpU_taken (i := 2) rfl (by kernel_rfl) (by kernel_rfl) (by kernel_rfl) (HU.out.and (isT_up _ _ _)) ?_
      apply Exists.intro
      refine ⟨Or.inl ⟨rfl, fun W hW => ?hy⟩, ?_⟩
      case hy =>
        obtain ⟨⟨h1, h2, h3, h4, h5, h6⟩, b1, k1, hu1, hl1⟩ := hW
        go_simp
        exact RegionU.does_call (HSZ1.out b1 k1 W hl1)
      simp only [Act.put, List.setIfInBounds_toArray, List.set]
      refine RegionU.wpU_mono _ _ _ _ _ (fun W h => h.1) ?_
      refine wpU_taken (i := 5) rfl (by kernel_rfl) (by kernel_rfl) (by kernel_rfl) HU.out ?_
      apply Exists.intro
      refine ⟨Or.inl ⟨rfl, fun W hW => ?hy⟩, ?_⟩
      case hy =>
        obtain ⟨h1, h2, h3, h4, h5, h6⟩ := hW
        go_simp
        try simp only [beq_self_eq_true, bne_self_eq_false, Bool.not_true, Bool.not_false, Bool.or_false, Bool.and_true]
        exact RegionU.does_value rfl
      simp only [Act.put, List.setIfInBounds_toArray, List.set]
      refine wpU_taken (i := 6) rfl (by kernel_rfl) (by kernel_rfl) (by kernel_rfl) HU.out ?_
      apply Exists.intro
      refine ⟨Or.inl ⟨rfl, fun W hW => ?hy⟩, ?_⟩
      case hy =>
        obtain ⟨h1, h2, h3, h4, h5, h6⟩ := hW
        go_simp
        exact RegionU.does_value rfl
      simp only [Act.put, List.setIfInBounds_toArray, List.set]
      refine wpU_taken (i := 7) rfl (by kernel_rfl) (by kernel_rfl) (by kernel_rfl) HU.out ?_
      apply Exists.intro
      refine ⟨Or.inl ⟨rfl, fun W hW => ?hy⟩, ?_⟩
      case hy =>
        obtain ⟨h1, h2, h3, h4, h5, h6⟩ := hW
        have x0 := h1.c0; have x1 := h1.c1; have x2 := h1.c2; have x3 := h1.c3; have x4 := h1.c4; have x5 := h1.c5; have x6 := h1.c6; have x7 := h1.c7
        go_simp
        exact RegionU.does_value rfl
      simp only [Act.put, List.setIfInBounds_toArray, List.set]
      refine wpU_taken (i := 10) rfl (by kernel_rfl) (by kernel_rfl) (by kernel_rfl) HU.out ?_
      apply Exists.intro
      refine ⟨Or.inl ⟨rfl, fun W hW => ?hy⟩, ?_⟩
      case hy =>
        obtain ⟨h1, h2, h3, h4, h5, h6⟩ := hW
        have x0 := h1.c0; have x1 := h1.c1; have x2 := h1.c2; have x3 := h1.c3; have x4 := h1.c4; have x5 := h1.c5; have x6 := h1.c6; have x7 := h1.c7
        go_simp
        exact RegionU.does_value rfl
      simp only [Act.put, List.setIfInBounds_toArray, List.set]
      refine wpU_one (i := 8) (by kernel_rfl) rfl rfl (IsT (ofKind 8) [.mk n l]) (isT_up (ofKind 8) [.mk n l]) (fun W hW => ?hy) ?_
      case hy =>
        obtain ⟨h1, h2, h3, h4, h5, h6⟩ := hW
        go_simp
        exact does_tree (HOPT.out W h4 h6)
      intro u
      simp only [Act.put, List.setIfInBounds_toArray, List.set]
      refine wpU_taken (i := 9) rfl (by kernel_rfl) (by kernel_rfl) (by kernel_rfl) (HU.out.and (isT_up _ _ _)) ?_
      apply Exists.intro
      refine ⟨Or.inl ⟨rfl, fun W hW => ?hy⟩, ?_⟩
      case hy =>
        obtain ⟨⟨h1, h2, h3, h4, h5, h6⟩, b1, k1, hu1, hl1⟩ := hW
        go_simp
        exact RegionU.does_call (HR8.out b1 k1 W h5 hl1)
      simp only [Act.put, List.setIfInBounds_toArray, List.set]
      refine RegionU.wpU_mono _ _ _ _ _ (fun W h => h.1) ?_
      refine wpU_taken (i := 11) rfl (by kernel_rfl) (by kernel_rfl) (by kernel_rfl) HU.out ?_
      apply Exists.intro
      refine ⟨Or.inl ⟨rfl, fun W hW => ?hy⟩, ?_⟩
      case hy =>
        obtain ⟨h1, h2, h3, h4, h5, h6⟩ := hW
        go_simp
        exact RegionU.does_call (HRX.out W h4 h5 h6)
      simp only [Act.put, List.setIfInBounds_toArray, List.set]
      refine wpU_taken (i := 12) rfl (by kernel_rfl) (by kernel_rfl) (by kernel_rfl) HU.out ?_
      apply Exists.intro
      refine ⟨Or.inl ⟨rfl, fun W hW => ?hy⟩, ?_⟩
      case hy =>
        obtain ⟨h1, h2, h3, h4, h5, h6⟩ := hW
        go_simp
        exact RegionU.does_value rfl
      simp only [Act.put, List.setIfInBounds_toArray, List.set]
      refine wpU_taken (i := 13) rfl (by kernel_rfl) (by kernel_rfl) (by kernel_rfl) HU.out ?_
      apply Exists.intro
      refine ⟨Or.inl ⟨rfl, fun W hW => ?hy⟩, ?_⟩
      case hy =>
        obtain ⟨h1, h2, h3, h4, h5, h6⟩ := hW
        go_simp
        exact RegionU.does_value rfl
      simp only [Act.put, List.setIfInBounds_toArray, List.set]
      refine wpU_taken (i := 14) rfl (by kernel_rfl) (by kernel_rfl) (by kernel_rfl) HU.out ?_
      apply Exists.intro
      refine ⟨Or.inl ⟨rfl, fun W hW => ?hy⟩, ?_⟩
      case hy =>
        obtain ⟨h1, h2, h3, h4, h5, h6⟩ := hW
        go_simp
        exact RegionU.does_value rfl
      simp only [Act.put, List.setIfInBounds_toArray, List.set]
      refine wpU_taken (i := 15) rfl (by kernel_rfl) (by kernel_rfl) (by kernel_rfl) HU.out ?_
      apply Exists.intro
      refine ⟨Or.inl ⟨rfl, fun W hW => ?hy⟩, ?_⟩
      case hy =>
        obtain ⟨h1, h2, h3, h4, h5, h6⟩ := hW
        go_simp
        exact RegionU.does_value rfl
      simp only [Act.put, List.setIfInBounds_toArray, List.set]
      refine wpU_taken (i := 16) rfl (by kernel_rfl) (by kernel_rfl) (by kernel_rfl) HU.out ?_
      apply Exists.intro
      refine ⟨Or.inl ⟨rfl, fun W hW => ?hy⟩, ?_⟩
      case hy =>
        obtain ⟨h1, h2, h3, h4, h5, h6⟩ := hW
        go_simp
        try simp only [beq_self_eq_true, bne_self_eq_false, Bool.not_true, Bool.not_false, Bool.or_false, Bool.and_true]
        exact RegionU.does_value rfl
      simp only [Act.put, List.setIfInBounds_toArray, List.set]
      refine wpU_taken (i := 17) rfl (by kernel_rfl) (by kernel_rfl) (by kernel_rfl) HU.out ?_
      apply Exists.intro
      refine ⟨Or.inl ⟨rfl, fun W hW => ?hy⟩, ?_⟩
      case hy =>
        obtain ⟨h1, h2, h3, h4, h5, h6⟩ := hW
        go_simp
        exact RegionU.does_value rfl
      simp only [Act.put, List.setIfInBounds_toArray, List.set]
      refine wpU_done (by kernel_rfl) ?_
      clear W1
      intro W1 hW
      have hC2 := C3_drew hW
      clear hW
      have ways : (m = true ∧ 0 ≤ lo ∧ lo ≤ 1000 ∧ (hi == -1) = true) ∨ (m = true ∧ 0 ≤ lo ∧ lo ≤ 1000 ∧ (hi == -1) = false ∧ lo ≤ hi ∧ hi ≤ 1000) ∨ (m = false ∧ ¬ 0 ≤ lo) ∨ (m = false ∧ 0 ≤ lo ∧ ¬ lo ≤ 1000) ∨ (m = false ∧ 0 ≤ lo ∧ lo ≤ 1000 ∧ (hi == -1) = false ∧ ¬ lo ≤ hi) ∨ (m = false ∧ 0 ≤ lo ∧ lo ≤ 1000 ∧ (hi == -1) = false ∧ lo ≤ hi ∧ ¬ hi ≤ 1000) := six_ways HM.out
      clear HM
      rcases ways with ⟨rfl, p1, p2, e1⟩ | ⟨rfl, p1, p2, e1, p4, p5⟩ | ⟨rfl, p1⟩ | ⟨rfl, p1, p2⟩ | ⟨rfl, p1, p2, e1, p4⟩ | ⟨rfl, p1, p2, e1, p4, p5⟩
      all_goals
        try simp only [Bool.true_and, Bool.false_and, Bool.and_true, Bool.and_false] at HR9
        go_wp2_with fail
        refine wp_region_U (C := C3 w A n (.slice a l.length cap) l f) (by kernel_rfl) HU.out hC2 ?_
        clear hC2
        refine wpU_taken (i := 0) rfl (by kernel_rfl) (by kernel_rfl) (by kernel_rfl) HU.out ?_
        apply Exists.intro
        refine ⟨Or.inl ⟨rfl, fun W hW => ?hy⟩, ?_⟩
        case hy =>
          obtain ⟨h1, h2, h3, h4, h5, h6⟩ := hW
          have x0 := h1.c0; have x1 := h1.c1; have x2 := h1.c2; have x3 := h1.c3; have x4 := h1.c4; have x5 := h1.c5; have x6 := h1.c6; have x7 := h1.c7
          go_simp
          exact RegionU.does_value rfl
        simp only [Act.put, List.setIfInBounds_toArray, List.set]
        refine wpU_taken (i := 1) rfl (by kernel_rfl) (by kernel_rfl) (by kernel_rfl) HU.out ?_
        apply Exists.intro
        refine ⟨Or.inl ⟨rfl, fun W hW => ?hy⟩, ?_⟩
        case hy =>
          obtain ⟨h1, h2, h3, h4, h5, h6⟩ := hW
          go_simp
          exact RegionU.does_value rfl
        simp only [Act.put, List.setIfInBounds_toArray, List.set]
        refine wpU_taken (i := 2) rfl (by kernel_rfl) (by kernel_rfl) (by kernel_rfl) HU.out ?_
        apply Exists.intro
        refine ⟨Or.inl ⟨rfl, fun W hW => ?hy⟩, ?_⟩
        case hy =>
          obtain ⟨h1, h2, h3, h4, h5, h6⟩ := hW
          go_simp
          exact RegionU.does_value rfl
        simp only [Act.put, List.setIfInBounds_toArray, List.set]
        refine wpU_taken (i := 5) rfl (by kernel_rfl) (by kernel_rfl) (by kernel_rfl) HU.out ?_
        apply Exists.intro
        refine ⟨Or.inl ⟨rfl, fun W hW => ?hy⟩, ?_⟩
        case hy =>
          obtain ⟨h1, h2, h3, h4, h5, h6⟩ := hW
          have x0 := h1.c0; have x1 := h1.c1; have x2 := h1.c2; have x3 := h1.c3; have x4 := h1.c4; have x5 := h1.c5; have x6 := h1.c6; have x7 := h1.c7
          go_simp
          exact RegionU.does_value rfl
        simp only [Act.put, List.setIfInBounds_toArray, List.set]
        refine wpU_one (i := 3) (by kernel_rfl) rfl rfl (IsT ⟨9, 0, 0, 0, 0, lo, hi⟩ [.mk n l]) (isT_up ⟨9, 0, 0, 0, 0, lo, hi⟩ [.mk n l]) (fun W hW => ?hy) ?_
        case hy =>
          obtain ⟨h1, h2, h3, h4, h5, h6⟩ := hW
          go_simp
          exact does_tree (HREP.out W h4 h6)
        intro u
        simp only [Act.put, List.setIfInBounds_toArray, List.set]
        refine wpU_taken (i := 4) rfl (by kernel_rfl) (by kernel_rfl) (by kernel_rfl) (HU.out.and (isT_up _ _ _)) ?_
        apply Exists.intro
        refine ⟨Or.inl ⟨rfl, fun W hW => ?hy⟩, ?_⟩
        case hy =>
          obtain ⟨⟨h1, h2, h3, h4, h5, h6⟩, b1, k1, hu1, hl1⟩ := hW
          go_simp
          exact RegionU.does_call (HR9.out b1 k1 W h5 hl1)
        simp only [Act.put, List.setIfInBounds_toArray, List.set]
        refine RegionU.wpU_mono _ _ _ _ _ (fun W h => h.1) ?_
        refine wpU_taken (i := 6) rfl (by kernel_rfl) (by kernel_rfl) (by kernel_rfl) HU.out ?_
        apply Exists.intro
        refine ⟨Or.inl ⟨rfl, fun W hW => ?hy⟩, ?_⟩
        case hy =>
          obtain ⟨h1, h2, h3, h4, h5, h6⟩ := hW
          go_simp
          exact RegionU.does_call (HRX.out W h4 h5 h6)
        simp only [Act.put, List.setIfInBounds_toArray, List.set]
        refine wpU_taken (i := 7) rfl (by kernel_rfl) (by kernel_rfl) (by kernel_rfl) HU.out ?_
        apply Exists.intro
        refine ⟨Or.inl ⟨rfl, fun W hW => ?hy⟩, ?_⟩
        case hy =>
          obtain ⟨h1, h2, h3, h4, h5, h6⟩ := hW
          go_simp
          exact RegionU.does_value rfl
        simp only [Act.put, List.setIfInBounds_toArray, List.set]
        refine wpU_taken (i := 8) rfl (by kernel_rfl) (by kernel_rfl) (by kernel_rfl) HU.out ?_
        apply Exists.intro
        refine ⟨Or.inl ⟨rfl, fun W hW => ?hy⟩, ?_⟩
        case hy =>
          obtain ⟨h1, h2, h3, h4, h5, h6⟩ := hW
          go_simp
          exact RegionU.does_value rfl
        simp only [Act.put, List.setIfInBounds_toArray, List.set]
        refine wpU_taken (i := 9) rfl (by kernel_rfl) (by kernel_rfl) (by kernel_rfl) HU.out ?_
        apply Exists.intro
        refine ⟨Or.inl ⟨rfl, fun W hW => ?hy⟩, ?_⟩
        case hy =>
          obtain ⟨h1, h2, h3, h4, h5, h6⟩ := hW
          go_simp
          exact RegionU.does_value rfl
        simp only [Act.put, List.setIfInBounds_toArray, List.set]
        refine wpU_taken (i := 10) rfl (by kernel_rfl) (by kernel_rfl) (by kernel_rfl) HU.out ?_
        apply Exists.intro
        refine ⟨Or.inl ⟨rfl, fun W hW => ?hy⟩, ?_⟩
        case hy =>
          obtain ⟨h1, h2, h3, h4, h5, h6⟩ := hW
          go_simp
          exact RegionU.does_value rfl
        simp only [Act.put, List.setIfInBounds_toArray, List.set]
        refine wpU_taken (i := 11) rfl (by kernel_rfl) (by kernel_rfl) (by kernel_rfl) HU.out ?_
        apply Exists.intro
        refine ⟨Or.inl ⟨rfl, fun W hW => ?hy⟩, ?_⟩
        case hy =>
          obtain ⟨h1, h2, h3, h4, h5, h6⟩ := hW
          go_simp
          exact RegionU.does_value rfl
        simp only [Act.put, List.setIfInBounds_toArray, List.set]
        refine wpU_taken (i := 12) rfl (by kernel_rfl) (by kernel_rfl) (by kernel_rfl) HU.out ?_
        apply Exists.intro
        refine ⟨Or.inr ⟨rfl, rfl⟩, ?_⟩
        simp only [Act.put, List.setIfInBounds_toArray, List.set]
        refine wpU_taken (i := 13) rfl (by kernel_rfl) (by kernel_rfl) (by kernel_rfl) HU.out ?_
        apply Exists.intro
        refine ⟨Or.inl ⟨rfl, fun W hW => ?hy⟩, ?_⟩
        case hy =>
          obtain ⟨h1, h2, h3, h4, h5, h6⟩ := hW
          go_simp
          exact RegionU.does_value rfl
        simp only [Act.put, List.setIfInBounds_toArray, List.set]
        refine wpU_taken (i := 14) rfl (by kernel_rfl) (by kernel_rfl) (by kernel_rfl) HU.out ?_
        apply Exists.intro
        refine ⟨Or.inl ⟨rfl, fun W hW => ?hy⟩, ?_⟩
        case hy =>
          obtain ⟨h1, h2, h3, h4, h5, h6⟩ := hW
          go_simp
          try simp only [beq_self_eq_true, bne_self_eq_false, Bool.not_true, Bool.not_false, Bool.or_false, Bool.and_true]
          exact RegionU.does_value rfl
        simp only [Act.put, List.setIfInBounds_toArray, List.set]
        refine wpU_taken (i := 15) rfl (by kernel_rfl) (by kernel_rfl) (by kernel_rfl) HU.out ?_
        apply Exists.intro
        refine ⟨Or.inl ⟨rfl, fun W hW => ?hy⟩, ?_⟩
        case hy =>
          obtain ⟨h1, h2, h3, h4, h5, h6⟩ := hW
          go_simp
          exact RegionU.does_value rfl
        simp only [Act.put, List.setIfInBounds_toArray, List.set]
        refine wpU_taken (i := 16) rfl (by kernel_rfl) (by kernel_rfl) (by kernel_rfl) HU.out ?_
        apply Exists.intro
        refine ⟨Or.inl ⟨rfl, fun W hW => ?hy⟩, ?_⟩
        case hy =>
          obtain ⟨h1, h2, h3, h4, h5, h6⟩ := hW
          go_simp
          exact RegionU.does_call (HK.out W h5)
        simp only [Act.put, List.setIfInBounds_toArray, List.set]
        refine wpU_taken (i := 17) rfl (by kernel_rfl) (by kernel_rfl) (by kernel_rfl) HU.out ?_
        apply Exists.intro
        refine ⟨Or.inl ⟨rfl, fun W hW => ?hy⟩, ?_⟩
        case hy =>
          obtain ⟨h1, h2, h3, h4, h5, h6⟩ := hW
          go_simp
          exact RegionU.does_value rfl
        simp only [Act.put, List.setIfInBounds_toArray, List.set]
        refine wpU_taken (i := 18) rfl (by kernel_rfl) (by kernel_rfl) (by kernel_rfl) HU.out ?_
        apply Exists.intro
        refine ⟨Or.inl ⟨rfl, fun W hW => ?hy⟩, ?_⟩
        case hy =>
          obtain ⟨h1, h2, h3, h4, h5, h6⟩ := hW
          go_simp
          exact RegionU.does_value rfl
        simp only [Act.put, List.setIfInBounds_toArray, List.set]
        refine wpU_done (by kernel_rfl) ?_
        intro W hW
        obtain ⟨h1, h2, h3, h4, h5, h6⟩ := hW
        go_wp2_with fail
        go_ret
        exact ⟨rfl, h6⟩
    · simp only [Bool.true_and] at HR8 HR9
      have hdz : decide (z < 4096) = true := HD.out.symm
      go_wp2_with fail
      refine wp_region_U (C := C3 w A n (.slice a l.length cap) l f) (by kernel_rfl) HU.out hC ?_
      clear hC
      refine wpU_taken (i := 0) rfl (by kernel_rfl) (by kernel_rfl) (by kernel_rfl) HU.out ?_
      apply Exists.intro
      refine ⟨Or.inl ⟨rfl, fun W hW => ?hy⟩, ?_⟩
      case hy =>
        obtain ⟨h1, h2, h3, h4, h5, h6⟩ := hW
        have x0 := h1.c0; have x1 := h1.c1; have x2 := h1.c2; have x3 := h1.c3; have x4 := h1.c4; have x5 := h1.c5; have x6 := h1.c6; have x7 := h1.c7
        go_simp
        exact RegionU.does_value rfl
      simp only [Act.put, List.setIfInBounds_toArray, List.set]
      refine wpU_taken (i := 3) rfl (by kernel_rfl) (by kernel_rfl) (by kernel_rfl) HU.out ?_
      apply Exists.intro
      refine ⟨Or.inl ⟨rfl, fun W hW => ?hy⟩, ?_⟩
      case hy =>
        obtain ⟨h1, h2, h3, h4, h5, h6⟩ := hW
        go_simp
        exact RegionU.does_value rfl
      simp only [Act.put, List.setIfInBounds_toArray, List.set]
      refine wpU_taken (i := 4) rfl (by kernel_rfl) (by kernel_rfl) (by kernel_rfl) HU.out ?_
      apply Exists.intro
      refine ⟨Or.inl ⟨rfl, fun W hW => ?hy⟩, ?_⟩
      case hy =>
        obtain ⟨h1, h2, h3, h4, h5, h6⟩ := hW
        go_simp
        exact RegionU.does_value rfl
      simp only [Act.put, List.setIfInBounds_toArray, List.set]
      refine wpU_one (i := 1) (by kernel_rfl) rfl rfl (IsT (ofKind 6) [.mk n l]) (isT_up (ofKind 6) [.mk n l]) (fun W hW => ?hy) ?_
      case hy =>
        obtain ⟨h1, h2, h3, h4, h5, h6⟩ := hW
        go_simp
        exact does_tree (HSTAR.out W h4 h6)
      intro u
      simp only [Act.put, List.setIfInBounds_toArray, List.set]
      refine wpU_taken (i := 2) rfl (by kernel_rfl) (by kernel_rfl) (by kernel_rfl) (HU.out.and (isT_up _ _ _)) ?_
      apply Exists.intro
      refine ⟨Or.inl ⟨rfl, fun W hW => ?hy⟩, ?_⟩
      case hy =>
        obtain ⟨⟨h1, h2, h3, h4, h5, h6⟩, b1, k1, hu1, hl1⟩ := hW
        go_simp
        exact RegionU.does_call (HSZ1.out b1 k1 W hl1)
      simp only [Act.put, List.setIfInBounds_toArray, List.set]
      refine RegionU.wpU_mono _ _ _ _ _ (fun W h => h.1) ?_
      refine wpU_taken (i := 5) rfl (by kernel_rfl) (by kernel_rfl) (by kernel_rfl) HU.out ?_
      apply Exists.intro
      refine ⟨Or.inl ⟨rfl, fun W hW => ?hy⟩, ?_⟩
      case hy =>
        obtain ⟨h1, h2, h3, h4, h5, h6⟩ := hW
        go_simp
        try simp only [beq_self_eq_true, bne_self_eq_false, Bool.not_true, Bool.not_false, Bool.or_false, Bool.and_true]
        exact RegionU.does_value rfl
      simp only [Act.put, List.setIfInBounds_toArray, List.set]
      refine wpU_taken (i := 6) rfl (by kernel_rfl) (by kernel_rfl) (by kernel_rfl) HU.out ?_
      apply Exists.intro
      refine ⟨Or.inl ⟨rfl, fun W hW => ?hy⟩, ?_⟩
      case hy =>
        obtain ⟨h1, h2, h3, h4, h5, h6⟩ := hW
        go_simp
        exact RegionU.does_value rfl
      simp only [Act.put, List.setIfInBounds_toArray, List.set]
      refine wpU_taken (i := 7) rfl (by kernel_rfl) (by kernel_rfl) (by kernel_rfl) HU.out ?_
      apply Exists.intro
      refine ⟨Or.inl ⟨rfl, fun W hW => ?hy⟩, ?_⟩
      case hy =>
        obtain ⟨h1, h2, h3, h4, h5, h6⟩ := hW
        have x0 := h1.c0; have x1 := h1.c1; have x2 := h1.c2; have x3 := h1.c3; have x4 := h1.c4; have x5 := h1.c5; have x6 := h1.c6; have x7 := h1.c7
        go_simp
        exact RegionU.does_value rfl
      simp only [Act.put, List.setIfInBounds_toArray, List.set]
      refine wpU_taken (i := 10) rfl (by kernel_rfl) (by kernel_rfl) (by kernel_rfl) HU.out ?_
      apply Exists.intro
      refine ⟨Or.inl ⟨rfl, fun W hW => ?hy⟩, ?_⟩
      case hy =>
        obtain ⟨h1, h2, h3, h4, h5, h6⟩ := hW
        have x0 := h1.c0; have x1 := h1.c1; have x2 := h1.c2; have x3 := h1.c3; have x4 := h1.c4; have x5 := h1.c5; have x6 := h1.c6; have x7 := h1.c7
        go_simp
        exact RegionU.does_value rfl
      simp only [Act.put, List.setIfInBounds_toArray, List.set]
      refine wpU_one (i := 8) (by kernel_rfl) rfl rfl (IsT (ofKind 8) [.mk n l]) (isT_up (ofKind 8) [.mk n l]) (fun W hW => ?hy) ?_
      case hy =>
        obtain ⟨h1, h2, h3, h4, h5, h6⟩ := hW
        go_simp
        exact does_tree (HOPT.out W h4 h6)
      intro u
      simp only [Act.put, List.setIfInBounds_toArray, List.set]
      refine wpU_taken (i := 9) rfl (by kernel_rfl) (by kernel_rfl) (by kernel_rfl) (HU.out.and (isT_up _ _ _)) ?_
      apply Exists.intro
      refine ⟨Or.inl ⟨rfl, fun W hW => ?hy⟩, ?_⟩
      case hy =>
        obtain ⟨⟨h1, h2, h3, h4, h5, h6⟩, b1, k1, hu1, hl1⟩ := hW
        go_simp
        exact RegionU.does_call (HR8.out b1 k1 W h5 hl1)
      simp only [Act.put, List.setIfInBounds_toArray, List.set]
      refine RegionU.wpU_mono _ _ _ _ _ (fun W h => h.1) ?_
      refine wpU_taken (i := 11) rfl (by kernel_rfl) (by kernel_rfl) (by kernel_rfl) HU.out ?_
      apply Exists.intro
      refine ⟨Or.inl ⟨rfl, fun W hW => ?hy⟩, ?_⟩
      case hy =>
        obtain ⟨h1, h2, h3, h4, h5, h6⟩ := hW
        go_simp
        exact RegionU.does_call (HRX.out W h4 h5 h6)
      simp only [Act.put, List.setIfInBounds_toArray, List.set]
      refine wpU_taken (i := 12) rfl (by kernel_rfl) (by kernel_rfl) (by kernel_rfl) HU.out ?_
      apply Exists.intro
      refine ⟨Or.inl ⟨rfl, fun W hW => ?hy⟩, ?_⟩
      case hy =>
        obtain ⟨h1, h2, h3, h4, h5, h6⟩ := hW
        go_simp
        exact RegionU.does_value rfl
      simp only [Act.put, List.setIfInBounds_toArray, List.set]
      refine wpU_taken (i := 13) rfl (by kernel_rfl) (by kernel_rfl) (by kernel_rfl) HU.out ?_
      apply Exists.intro
      refine ⟨Or.inl ⟨rfl, fun W hW => ?hy⟩, ?_⟩
      case hy =>
        obtain ⟨h1, h2, h3, h4, h5, h6⟩ := hW
        go_simp
        exact RegionU.does_value rfl
      simp only [Act.put, List.setIfInBounds_toArray, List.set]
      refine wpU_taken (i := 14) rfl (by kernel_rfl) (by kernel_rfl) (by kernel_rfl) HU.out ?_
      apply Exists.intro
      refine ⟨Or.inl ⟨rfl, fun W hW => ?hy⟩, ?_⟩
      case hy =>
        obtain ⟨h1, h2, h3, h4, h5, h6⟩ := hW
        go_simp
        exact RegionU.does_value rfl
      simp only [Act.put, List.setIfInBounds_toArray, List.set]
      refine wpU_taken (i := 15) rfl (by kernel_rfl) (by kernel_rfl) (by kernel_rfl) HU.out ?_
      apply Exists.intro
      refine ⟨Or.inl ⟨rfl, fun W hW => ?hy⟩, ?_⟩
      case hy =>
        obtain ⟨h1, h2, h3, h4, h5, h6⟩ := hW
        go_simp
        exact RegionU.does_value rfl
      simp only [Act.put, List.setIfInBounds_toArray, List.set]
      refine wpU_taken (i := 16) rfl (by kernel_rfl) (by kernel_rfl) (by kernel_rfl) HU.out ?_
      apply Exists.intro
      refine ⟨Or.inl ⟨rfl, fun W hW => ?hy⟩, ?_⟩
      case hy =>
        obtain ⟨h1, h2, h3, h4, h5, h6⟩ := hW
        go_simp
        try simp only [beq_self_eq_true, bne_self_eq_false, Bool.not_true, Bool.not_false, Bool.or_false, Bool.and_true]
        exact RegionU.does_value rfl
      simp only [Act.put, List.setIfInBounds_toArray, List.set]
      refine wpU_taken (i := 17) rfl (by kernel_rfl) (by kernel_rfl) (by kernel_rfl) HU.out ?_
      apply Exists.intro
      refine ⟨Or.inl ⟨rfl, fun W hW => ?hy⟩, ?_⟩
      case hy =>
        obtain ⟨h1, h2, h3, h4, h5, h6⟩ := hW
        go_simp
        exact RegionU.does_value rfl
      simp only [Act.put, List.setIfInBounds_toArray, List.set]
      refine wpU_done (by kernel_rfl) ?_
      clear W1
      intro W1 hW
      have hC2 := C3_drew hW
      clear hW
      have ways : (m = true ∧ 0 ≤ lo ∧ lo ≤ 1000 ∧ (hi == -1) = true) ∨ (m = true ∧ 0 ≤ lo ∧ lo ≤ 1000 ∧ (hi == -1) = false ∧ lo ≤ hi ∧ hi ≤ 1000) ∨ (m = false ∧ ¬ 0 ≤ lo) ∨ (m = false ∧ 0 ≤ lo ∧ ¬ lo ≤ 1000) ∨ (m = false ∧ 0 ≤ lo ∧ lo ≤ 1000 ∧ (hi == -1) = false ∧ ¬ lo ≤ hi) ∨ (m = false ∧ 0 ≤ lo ∧ lo ≤ 1000 ∧ (hi == -1) = false ∧ lo ≤ hi ∧ ¬ hi ≤ 1000) := six_ways HM.out
      clear HM
      rcases ways with ⟨rfl, p1, p2, e1⟩ | ⟨rfl, p1, p2, e1, p4, p5⟩ | ⟨rfl, p1⟩ | ⟨rfl, p1, p2⟩ | ⟨rfl, p1, p2, e1, p4⟩ | ⟨rfl, p1, p2, e1, p4, p5⟩
      all_goals
        try simp only [Bool.true_and, Bool.false_and, Bool.and_true, Bool.and_false] at HR9
        go_wp2_with fail
        refine wp_region_U (C := C3 w A n (.slice a l.length cap) l f) (by kernel_rfl) HU.out hC2 ?_
        clear hC2
        refine wpU_taken (i := 0) rfl (by kernel_rfl) (by kernel_rfl) (by kernel_rfl) HU.out ?_
        apply Exists.intro
        refine ⟨Or.inl ⟨rfl, fun W hW => ?hy⟩, ?_⟩
        case hy =>
          obtain ⟨h1, h2, h3, h4, h5, h6⟩ := hW
          have x0 := h1.c0; have x1 := h1.c1; have x2 := h1.c2; have x3 := h1.c3; have x4 := h1.c4; have x5 := h1.c5; have x6 := h1.c6; have x7 := h1.c7
          go_simp
          exact RegionU.does_value rfl
        simp only [Act.put, List.setIfInBounds_toArray, List.set]
        refine wpU_taken (i := 1) rfl (by kernel_rfl) (by kernel_rfl) (by kernel_rfl) HU.out ?_
        apply Exists.intro
        refine ⟨Or.inl ⟨rfl, fun W hW => ?hy⟩, ?_⟩
        case hy =>
          obtain ⟨h1, h2, h3, h4, h5, h6⟩ := hW
          go_simp
          exact RegionU.does_value rfl
        simp only [Act.put, List.setIfInBounds_toArray, List.set]
        refine wpU_taken (i := 2) rfl (by kernel_rfl) (by kernel_rfl) (by kernel_rfl) HU.out ?_
        apply Exists.intro
        refine ⟨Or.inl ⟨rfl, fun W hW => ?hy⟩, ?_⟩
        case hy =>
          obtain ⟨h1, h2, h3, h4, h5, h6⟩ := hW
          go_simp
          exact RegionU.does_value rfl
        simp only [Act.put, List.setIfInBounds_toArray, List.set]
        refine wpU_taken (i := 5) rfl (by kernel_rfl) (by kernel_rfl) (by kernel_rfl) HU.out ?_
        apply Exists.intro
        refine ⟨Or.inl ⟨rfl, fun W hW => ?hy⟩, ?_⟩
        case hy =>
          obtain ⟨h1, h2, h3, h4, h5, h6⟩ := hW
          have x0 := h1.c0; have x1 := h1.c1; have x2 := h1.c2; have x3 := h1.c3; have x4 := h1.c4; have x5 := h1.c5; have x6 := h1.c6; have x7 := h1.c7
          go_simp
          exact RegionU.does_value rfl
        simp only [Act.put, List.setIfInBounds_toArray, List.set]
        refine wpU_one (i := 3) (by kernel_rfl) rfl rfl (IsT ⟨9, 0, 0, 0, 0, lo, hi⟩ [.mk n l]) (isT_up ⟨9, 0, 0, 0, 0, lo, hi⟩ [.mk n l]) (fun W hW => ?hy) ?_
        case hy =>
          obtain ⟨h1, h2, h3, h4, h5, h6⟩ := hW
          go_simp
          exact does_tree (HREP.out W h4 h6)
        intro u
        simp only [Act.put, List.setIfInBounds_toArray, List.set]
        refine wpU_taken (i := 4) rfl (by kernel_rfl) (by kernel_rfl) (by kernel_rfl) (HU.out.and (isT_up _ _ _)) ?_
        apply Exists.intro
        refine ⟨Or.inl ⟨rfl, fun W hW => ?hy⟩, ?_⟩
        case hy =>
          obtain ⟨⟨h1, h2, h3, h4, h5, h6⟩, b1, k1, hu1, hl1⟩ := hW
          go_simp
          exact RegionU.does_call (HR9.out b1 k1 W h5 hl1)
        simp only [Act.put, List.setIfInBounds_toArray, List.set]
        refine RegionU.wpU_mono _ _ _ _ _ (fun W h => h.1) ?_
        refine wpU_taken (i := 6) rfl (by kernel_rfl) (by kernel_rfl) (by kernel_rfl) HU.out ?_
        apply Exists.intro
        refine ⟨Or.inl ⟨rfl, fun W hW => ?hy⟩, ?_⟩
        case hy =>
          obtain ⟨h1, h2, h3, h4, h5, h6⟩ := hW
          go_simp
          exact RegionU.does_call (HRX.out W h4 h5 h6)
        simp only [Act.put, List.setIfInBounds_toArray, List.set]
        refine wpU_taken (i := 7) rfl (by kernel_rfl) (by kernel_rfl) (by kernel_rfl) HU.out ?_
        apply Exists.intro
        refine ⟨Or.inl ⟨rfl, fun W hW => ?hy⟩, ?_⟩
        case hy =>
          obtain ⟨h1, h2, h3, h4, h5, h6⟩ := hW
          go_simp
          exact RegionU.does_value rfl
        simp only [Act.put, List.setIfInBounds_toArray, List.set]
        refine wpU_taken (i := 8) rfl (by kernel_rfl) (by kernel_rfl) (by kernel_rfl) HU.out ?_
        apply Exists.intro
        refine ⟨Or.inl ⟨rfl, fun W hW => ?hy⟩, ?_⟩
        case hy =>
          obtain ⟨h1, h2, h3, h4, h5, h6⟩ := hW
          go_simp
          exact RegionU.does_value rfl
        simp only [Act.put, List.setIfInBounds_toArray, List.set]
        refine wpU_taken (i := 9) rfl (by kernel_rfl) (by kernel_rfl) (by kernel_rfl) HU.out ?_
        apply Exists.intro
        refine ⟨Or.inl ⟨rfl, fun W hW => ?hy⟩, ?_⟩
        case hy =>
          obtain ⟨h1, h2, h3, h4, h5, h6⟩ := hW
          go_simp
          exact RegionU.does_value rfl
        simp only [Act.put, List.setIfInBounds_toArray, List.set]
        refine wpU_taken (i := 10) rfl (by kernel_rfl) (by kernel_rfl) (by kernel_rfl) HU.out ?_
        apply Exists.intro
        refine ⟨Or.inl ⟨rfl, fun W hW => ?hy⟩, ?_⟩
        case hy =>
          obtain ⟨h1, h2, h3, h4, h5, h6⟩ := hW
          go_simp
          exact RegionU.does_value rfl
        simp only [Act.put, List.setIfInBounds_toArray, List.set]
        refine wpU_taken (i := 11) rfl (by kernel_rfl) (by kernel_rfl) (by kernel_rfl) HU.out ?_
        apply Exists.intro
        refine ⟨Or.inl ⟨rfl, fun W hW => ?hy⟩, ?_⟩
        case hy =>
          obtain ⟨h1, h2, h3, h4, h5, h6⟩ := hW
          go_simp
          exact RegionU.does_value rfl
        simp only [Act.put, List.setIfInBounds_toArray, List.set]
        refine wpU_taken (i := 12) rfl (by kernel_rfl) (by kernel_rfl) (by kernel_rfl) HU.out ?_
        apply Exists.intro
        refine ⟨Or.inl ⟨rfl, fun W hW => ?hy⟩, ?_⟩
        case hy =>
          obtain ⟨h1, h2, h3, h4, h5, h6⟩ := hW
          go_simp
          exact RegionU.does_value rfl
        simp only [Act.put, List.setIfInBounds_toArray, List.set]
        refine wpU_taken (i := 13) rfl (by kernel_rfl) (by kernel_rfl) (by kernel_rfl) HU.out ?_
        apply Exists.intro
        refine ⟨Or.inl ⟨rfl, fun W hW => ?hy⟩, ?_⟩
        case hy =>
          obtain ⟨h1, h2, h3, h4, h5, h6⟩ := hW
          go_simp
          exact RegionU.does_value rfl
        simp only [Act.put, List.setIfInBounds_toArray, List.set]
        refine wpU_taken (i := 14) rfl (by kernel_rfl) (by kernel_rfl) (by kernel_rfl) HU.out ?_
        apply Exists.intro
        refine ⟨Or.inl ⟨rfl, fun W hW => ?hy⟩, ?_⟩
        case hy =>
          obtain ⟨h1, h2, h3, h4, h5, h6⟩ := hW
          go_simp
          try simp only [beq_self_eq_true, bne_self_eq_false, Bool.not_true, Bool.not_false, Bool.or_false, Bool.and_true]
          exact RegionU.does_value rfl
        simp only [Act.put, List.setIfInBounds_toArray, List.set]
        refine wpU_taken (i := 15) rfl (by kernel_rfl) (by kernel_rfl) (by kernel_rfl) HU.out ?_
        apply Exists.intro
        refine ⟨Or.inl ⟨rfl, fun W hW => ?hy⟩, ?_⟩
        case hy =>
          obtain ⟨h1, h2, h3, h4, h5, h6⟩ := hW
          go_simp
          exact RegionU.does_value rfl
        simp only [Act.put, List.setIfInBounds_toArray, List.set]
        refine wpU_taken (i := 16) rfl (by kernel_rfl) (by kernel_rfl) (by kernel_rfl) HU.out ?_
        apply Exists.intro
        refine ⟨Or.inl ⟨rfl, fun W hW => ?hy⟩, ?_⟩
        case hy =>
          obtain ⟨h1, h2, h3, h4, h5, h6⟩ := hW
          go_simp
          exact RegionU.does_call (HK.out W h5)
        simp only [Act.put, List.setIfInBounds_toArray, List.set]
        refine wpU_taken (i := 17) rfl (by kernel_rfl) (by kernel_rfl) (by kernel_rfl) HU.out ?_
        apply Exists.intro
        refine ⟨Or.inl ⟨rfl, fun W hW => ?hy⟩, ?_⟩
        case hy =>
          obtain ⟨h1, h2, h3, h4, h5, h6⟩ := hW
          go_simp
          exact RegionU.does_value rfl
        simp only [Act.put, List.setIfInBounds_toArray, List.set]
        refine wpU_taken (i := 18) rfl (by kernel_rfl) (by kernel_rfl) (by kernel_rfl) HU.out ?_
        apply Exists.intro
        refine ⟨Or.inl ⟨rfl, fun W hW => ?hy⟩, ?_⟩
        case hy =>
          obtain ⟨h1, h2, h3, h4, h5, h6⟩ := hW
          go_simp
          exact RegionU.does_value rfl
        simp only [Act.put, List.setIfInBounds_toArray, List.set]
        refine wpU_done (by kernel_rfl) ?_
        intro W hW
        obtain ⟨h1, h2, h3, h4, h5, h6⟩ := hW
        go_wp2_with fail
        go_ret
        exact ⟨rfl, h6⟩
end Go.Proofs.YtogdjgfgmdphgaaDoor.TreeW
