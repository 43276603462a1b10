/- Walk of TreeSame. -/
import Derived.Test.YtogdjgfgmdphgaaDoorKnows
import Derived.Test.YtogdjgfgmdphgaaDoorRegionU
namespace Go.Proofs.YtogdjgfgmdphgaaDoor.TreeW
set_option linter.unusedVariables false
open Go.RowKit Go.Proofs.YtogdjgfgmdphgaaDoor.TreeM
open Go.Proofs.YtogdjgfgmdphgaaDoor.RegionU (Up wpU_taken wpU_one wpU_two wpU_done wp_region_U)
/-- What the region knows of memory: two boxed nodes, their kids, the table, what lay. -/
def C2 (w : World) (A : Nat) (n : Nd) (v : Value) (l : List Tr) (n' : Nd) (v' : Value) (l' : List Tr) (W : World) : Prop :=
  NodeAt W A 0 n v ∧ NodeAt W (A + 1) 0 n' v' ∧ Lies 0 w.heap.size W v l ∧ Lies 0 w.heap.size W v' l' ∧ Env W ∧ Below w.heap.size w W
theorem C2_up (w : World) (A : Nat) (n : Nd) (v : Value) (l : List Tr) (n' : Nd) (v' : Value) (l' : List Tr) : Up (C2 w A n v l n' v' l') := fun W W' ⟨h1, h2, h3, h4, h5, h6⟩ hr =>
  ⟨h1.below h1.lt hr, h2.below h2.lt hr, h3.under (hr.mono h6.size), h4.under (hr.mono h6.size), h5.grow hr, h6.trans (hr.mono h6.size)⟩
theorem lies_now {w W : World} {v : Value} {l : List Tr} (h : Lies 0 w.heap.size W v l) (hb : Below w.heap.size w W) : Lies 0 W.heap.size W v l := h.mono (Nat.le_refl _) hb.size
theorem Env.drew {W : World} (h : Env W) : Env W.drew := h
set_option maxRecDepth 100000 in
set_option maxHeartbeats 8000000 in
theorem TreeSame_any (n : Nd) (l : List Tr) (a : Option Addr) (cap : Nat) (n' : Nd) (l' : List Tr) (a' : Option Addr) (cap' : Nat) (w : World) (he : Env w) (hL : Lies 0 w.heap.size w (.slice a l.length cap) l) (hL' : Lies 0 w.heap.size w (.slice a' l'.length cap') l') :
    Calls Tryd.prog 4 #[NV n (.slice a l.length cap), NV n' (.slice a' l'.length cap')] w fun e w' => e = .returned (.bool true) ∧ Below w.heap.size w w' := by
  obtain ⟨e, heq⟩ : ∃ e, e = eqT (.mk n l) (.mk n' l') := ⟨_, rfl⟩
  have hS : ∀ W, Lies 0 w.heap.size W (.slice a l.length cap) l → Lies 0 w.heap.size W (.slice a' l'.length cap') l' → Below w.heap.size w W → Calls Tryd.prog 16 #[NV n (.slice a l.length cap), NV n' (.slice a' l'.length cap')] W fun x w' => x = .returned (.bool e) ∧ Below W.heap.size W w' := fun W h h' hb => by
    rw [heq]; exact Same_any n l a cap n' l' a' cap' W (lies_now h hb) (lies_now h' hb)
  have hR : ∀ W, Lies 0 w.heap.size W (.slice a l.length cap) l → Lies 0 w.heap.size W (.slice a' l'.length cap') l' → Below w.heap.size w W → Calls Tryd.prog 11 #[NV n (.slice a l.length cap), NV n' (.slice a' l'.length cap')] W fun x w' => x = .returned (.bool e) ∧ Below W.heap.size W w' := fun W h h' hb => by
    rw [heq]; exact RSame_any n l a cap n' l' a' cap' W (lies_now h hb) (lies_now h' hb)
  have hT : ∀ W, Lies 0 w.heap.size W (.slice a l.length cap) l → Lies 0 w.heap.size W (.slice a' l'.length cap') l' → Below w.heap.size w W → Calls Tryd.prog 16 #[NV n' (.slice a' l'.length cap'), NV n (.slice a l.length cap)] W fun x w' => x = .returned (.bool e) ∧ Below W.heap.size W w' := fun W h h' hb => by
    rw [heq, eqT_comm]; exact Same_any n' l' a' cap' n l a cap W (lies_now h' hb) (lies_now h hb)
  have hSS : ∀ W, Lies 0 w.heap.size W (.slice a l.length cap) l → Below w.heap.size w W → Calls Tryd.prog 16 #[NV n (.slice a l.length cap), NV n (.slice a l.length cap)] W fun x w' => x = .returned (.bool true) ∧ Below W.heap.size W w' := fun W h hb => by
    have := Same_any n l a cap n l a cap W (lies_now h hb) (lies_now h hb)
    rw [eqT_self] at this; exact this
  have HS := Lib.hid hS; have HR := Lib.hid hR; have HT := Lib.hid hT; have HSS := Lib.hid hSS; have HK := Lib.hid (fun W h => knows_any W h)
  have HE := Lib.hid he; have HL := Lib.hid hL; have HL' := Lib.hid hL'
  clear heq hS hR hT hSS he hL hL'
  obtain ⟨A, hA⟩ : ∃ A, A = w.heap.size := ⟨_, rfl⟩
  have HA := Lib.hid hA; clear hA
  go_enter Tryd.func4, Tryd.ntmps4
  go_wp2_with fail
  have hb0 : Below w.heap.size w ((w.alloc (.cells #[.int .i64 n.K, .int .u64 n.a, .int .u64 n.b, .int .u64 n.c, .int .u64 n.d, .slice a l.length cap, .int .i64 n.L, .int .i64 n.H] 28)).alloc (.cells #[.int .i64 n'.K, .int .u64 n'.a, .int .u64 n'.b, .int .u64 n'.c, .int .u64 n'.d, .slice a' l'.length cap', .int .i64 n'.L, .int .i64 n'.H] 28)) := ((Below.refl _ _).alloc (Nat.le_refl _) _).alloc (by simp) _
  have hN := (NodeAt.new w n (.slice a l.length cap) 28).below (by simp) ((Below.refl _ _).alloc (Nat.le_refl _) (.cells #[.int .i64 n'.K, .int .u64 n'.a, .int .u64 n'.b, .int .u64 n'.c, .int .u64 n'.d, .slice a' l'.length cap', .int .i64 n'.L, .int .i64 n'.H] 28))
  have hN' := NodeAt.new (w.alloc (.cells #[.int .i64 n.K, .int .u64 n.a, .int .u64 n.b, .int .u64 n.c, .int .u64 n.d, .slice a l.length cap, .int .i64 n.L, .int .i64 n.H] 28)) n' (.slice a' l'.length cap') 28
  simp only [World.size_alloc] at hN'
  generalize ((w.alloc (.cells #[.int .i64 n.K, .int .u64 n.a, .int .u64 n.b, .int .u64 n.c, .int .u64 n.d, .slice a l.length cap, .int .i64 n.L, .int .i64 n.H] 28)).alloc (.cells #[.int .i64 n'.K, .int .u64 n'.a, .int .u64 n'.b, .int .u64 n'.c, .int .u64 n'.d, .slice a' l'.length cap', .int .i64 n'.L, .int .i64 n'.H] 28)) = W0 at *
  rw [← HA.out] at hN hN' ⊢
  have hC : C2 w A n (.slice a l.length cap) l n' (.slice a' l'.length cap') l' W0.drew := ⟨hN.keep fun _ => rfl, hN'.keep fun _ => rfl, (HL.out.under hb0).under (Below.refl _ _).drew, (HL'.out.under hb0).under (Below.refl _ _).drew, (HE.out.grow hb0).drew, hb0.drew⟩
  have HU := Lib.hid (C2_up w A n (.slice a l.length cap) l n' (.slice a' l'.length cap') l')
  clear hb0 hN hN'
  refine wp_region_U (C := C2 w A n (.slice a l.length cap) l n' (.slice a' l'.length cap') l') (by kernel_rfl) HU.out hC ?_
  clear hC
  refine wpU_taken (i := 0) rfl (by kernel_rfl) (by kernel_rfl) (by kernel_rfl) HU.out ?_
  apply Exists.intro
  refine ⟨Or.inl ⟨rfl, fun W hW => ?hy⟩, ?_⟩
  case hy =>
    obtain ⟨h1, h2, h3, h4, h5, h6⟩ := hW
    have x0 := h1.c0; have x1 := h1.c1; have x2 := h1.c2; have x3 := h1.c3; have x4 := h1.c4; have x5 := h1.c5; have x6 := h1.c6; have x7 := h1.c7
    go_simp
    exact RegionU.does_value rfl
  simp only [Act.put, List.setIfInBounds_toArray, List.set]
  refine wpU_taken (i := 1) rfl (by kernel_rfl) (by kernel_rfl) (by kernel_rfl) HU.out ?_
  apply Exists.intro
  refine ⟨Or.inl ⟨rfl, fun W hW => ?hy⟩, ?_⟩
  case hy =>
    obtain ⟨h1, h2, h3, h4, h5, h6⟩ := hW
    have y0 := h2.c0; have y1 := h2.c1; have y2 := h2.c2; have y3 := h2.c3; have y4 := h2.c4; have y5 := h2.c5; have y6 := h2.c6; have y7 := h2.c7
    go_simp
    exact RegionU.does_value rfl
  simp only [Act.put, List.setIfInBounds_toArray, List.set]
  refine wpU_taken (i := 3) rfl (by kernel_rfl) (by kernel_rfl) (by kernel_rfl) HU.out ?_
  apply Exists.intro
  refine ⟨Or.inl ⟨rfl, fun W hW => ?hy⟩, ?_⟩
  case hy =>
    obtain ⟨h1, h2, h3, h4, h5, h6⟩ := hW
    have x0 := h1.c0; have x1 := h1.c1; have x2 := h1.c2; have x3 := h1.c3; have x4 := h1.c4; have x5 := h1.c5; have x6 := h1.c6; have x7 := h1.c7
    go_simp
    exact RegionU.does_value rfl
  simp only [Act.put, List.setIfInBounds_toArray, List.set]
  refine wpU_taken (i := 4) rfl (by kernel_rfl) (by kernel_rfl) (by kernel_rfl) HU.out ?_
  apply Exists.intro
  refine ⟨Or.inl ⟨rfl, fun W hW => ?hy⟩, ?_⟩
  case hy =>
    obtain ⟨h1, h2, h3, h4, h5, h6⟩ := hW
    have y0 := h2.c0; have y1 := h2.c1; have y2 := h2.c2; have y3 := h2.c3; have y4 := h2.c4; have y5 := h2.c5; have y6 := h2.c6; have y7 := h2.c7
    go_simp
    exact RegionU.does_value rfl
  simp only [Act.put, List.setIfInBounds_toArray, List.set]
  refine wpU_taken (i := 2) rfl (by kernel_rfl) (by kernel_rfl) (by kernel_rfl) HU.out ?_
  apply Exists.intro
  refine ⟨Or.inl ⟨rfl, fun W hW => ?hy⟩, ?_⟩
  case hy =>
    obtain ⟨h1, h2, h3, h4, h5, h6⟩ := hW
    go_simp
    exact RegionU.does_call (HS.out W h3 h4 h6)
  simp only [Act.put, List.setIfInBounds_toArray, List.set]
  refine wpU_taken (i := 5) rfl (by kernel_rfl) (by kernel_rfl) (by kernel_rfl) HU.out ?_
  apply Exists.intro
  refine ⟨Or.inl ⟨rfl, fun W hW => ?hy⟩, ?_⟩
  case hy =>
    obtain ⟨h1, h2, h3, h4, h5, h6⟩ := hW
    go_simp
    exact RegionU.does_call (HR.out W h3 h4 h6)
  simp only [Act.put, List.setIfInBounds_toArray, List.set]
  refine wpU_taken (i := 6) rfl (by kernel_rfl) (by kernel_rfl) (by kernel_rfl) HU.out ?_
  apply Exists.intro
  refine ⟨Or.inl ⟨rfl, fun W hW => ?hy⟩, ?_⟩
  case hy =>
    obtain ⟨h1, h2, h3, h4, h5, h6⟩ := hW
    go_simp
    try simp only [beq_self_eq_true, bne_self_eq_false, Bool.not_true, Bool.not_false, Bool.or_false, Bool.and_true]
    exact RegionU.does_value rfl
  simp only [Act.put, List.setIfInBounds_toArray, List.set]
  refine wpU_taken (i := 7) rfl (by kernel_rfl) (by kernel_rfl) (by kernel_rfl) HU.out ?_
  apply Exists.intro
  refine ⟨Or.inl ⟨rfl, fun W hW => ?hy⟩, ?_⟩
  case hy =>
    obtain ⟨h1, h2, h3, h4, h5, h6⟩ := hW
    go_simp
    exact RegionU.does_value rfl
  simp only [Act.put, List.setIfInBounds_toArray, List.set]
  refine wpU_taken (i := 8) rfl (by kernel_rfl) (by kernel_rfl) (by kernel_rfl) HU.out ?_
  apply Exists.intro
  refine ⟨Or.inl ⟨rfl, fun W hW => ?hy⟩, ?_⟩
  case hy =>
    obtain ⟨h1, h2, h3, h4, h5, h6⟩ := hW
    have x0 := h1.c0; have x1 := h1.c1; have x2 := h1.c2; have x3 := h1.c3; have x4 := h1.c4; have x5 := h1.c5; have x6 := h1.c6; have x7 := h1.c7
    go_simp
    exact RegionU.does_value rfl
  simp only [Act.put, List.setIfInBounds_toArray, List.set]
  refine wpU_taken (i := 9) rfl (by kernel_rfl) (by kernel_rfl) (by kernel_rfl) HU.out ?_
  apply Exists.intro
  refine ⟨Or.inl ⟨rfl, fun W hW => ?hy⟩, ?_⟩
  case hy =>
    obtain ⟨h1, h2, h3, h4, h5, h6⟩ := hW
    have x0 := h1.c0; have x1 := h1.c1; have x2 := h1.c2; have x3 := h1.c3; have x4 := h1.c4; have x5 := h1.c5; have x6 := h1.c6; have x7 := h1.c7
    go_simp
    exact RegionU.does_value rfl
  simp only [Act.put, List.setIfInBounds_toArray, List.set]
  refine wpU_taken (i := 10) rfl (by kernel_rfl) (by kernel_rfl) (by kernel_rfl) HU.out ?_
  apply Exists.intro
  refine ⟨Or.inl ⟨rfl, fun W hW => ?hy⟩, ?_⟩
  case hy =>
    obtain ⟨h1, h2, h3, h4, h5, h6⟩ := hW
    go_simp
    exact RegionU.does_call (HSS.out W h3 h6)
  simp only [Act.put, List.setIfInBounds_toArray, List.set]
  refine wpU_taken (i := 11) rfl (by kernel_rfl) (by kernel_rfl) (by kernel_rfl) HU.out ?_
  apply Exists.intro
  refine ⟨Or.inl ⟨rfl, fun W hW => ?hy⟩, ?_⟩
  case hy =>
    obtain ⟨h1, h2, h3, h4, h5, h6⟩ := hW
    go_simp
    exact RegionU.does_value rfl
  simp only [Act.put, List.setIfInBounds_toArray, List.set]
  refine wpU_taken (i := 12) rfl (by kernel_rfl) (by kernel_rfl) (by kernel_rfl) HU.out ?_
  apply Exists.intro
  refine ⟨Or.inl ⟨rfl, fun W hW => ?hy⟩, ?_⟩
  case hy =>
    obtain ⟨h1, h2, h3, h4, h5, h6⟩ := hW
    go_simp
    exact RegionU.does_value rfl
  simp only [Act.put, List.setIfInBounds_toArray, List.set]
  refine wpU_taken (i := 13) rfl (by kernel_rfl) (by kernel_rfl) (by kernel_rfl) HU.out ?_
  apply Exists.intro
  refine ⟨Or.inl ⟨rfl, fun W hW => ?hy⟩, ?_⟩
  case hy =>
    obtain ⟨h1, h2, h3, h4, h5, h6⟩ := hW
    have y0 := h2.c0; have y1 := h2.c1; have y2 := h2.c2; have y3 := h2.c3; have y4 := h2.c4; have y5 := h2.c5; have y6 := h2.c6; have y7 := h2.c7
    go_simp
    exact RegionU.does_value rfl
  simp only [Act.put, List.setIfInBounds_toArray, List.set]
  refine wpU_taken (i := 14) rfl (by kernel_rfl) (by kernel_rfl) (by kernel_rfl) HU.out ?_
  apply Exists.intro
  refine ⟨Or.inl ⟨rfl, fun W hW => ?hy⟩, ?_⟩
  case hy =>
    obtain ⟨h1, h2, h3, h4, h5, h6⟩ := hW
    have x0 := h1.c0; have x1 := h1.c1; have x2 := h1.c2; have x3 := h1.c3; have x4 := h1.c4; have x5 := h1.c5; have x6 := h1.c6; have x7 := h1.c7
    go_simp
    exact RegionU.does_value rfl
  simp only [Act.put, List.setIfInBounds_toArray, List.set]
  refine wpU_taken (i := 15) rfl (by kernel_rfl) (by kernel_rfl) (by kernel_rfl) HU.out ?_
  apply Exists.intro
  refine ⟨Or.inl ⟨rfl, fun W hW => ?hy⟩, ?_⟩
  case hy =>
    obtain ⟨h1, h2, h3, h4, h5, h6⟩ := hW
    go_simp
    exact RegionU.does_call (HT.out W h3 h4 h6)
  simp only [Act.put, List.setIfInBounds_toArray, List.set]
  refine wpU_taken (i := 16) rfl (by kernel_rfl) (by kernel_rfl) (by kernel_rfl) HU.out ?_
  apply Exists.intro
  refine ⟨Or.inl ⟨rfl, fun W hW => ?hy⟩, ?_⟩
  case hy =>
    obtain ⟨h1, h2, h3, h4, h5, h6⟩ := hW
    have x0 := h1.c0; have x1 := h1.c1; have x2 := h1.c2; have x3 := h1.c3; have x4 := h1.c4; have x5 := h1.c5; have x6 := h1.c6; have x7 := h1.c7
    go_simp
    exact RegionU.does_value rfl
  simp only [Act.put, List.setIfInBounds_toArray, List.set]
  refine wpU_taken (i := 17) rfl (by kernel_rfl) (by kernel_rfl) (by kernel_rfl) HU.out ?_
  apply Exists.intro
  refine ⟨Or.inl ⟨rfl, fun W hW => ?hy⟩, ?_⟩
  case hy =>
    obtain ⟨h1, h2, h3, h4, h5, h6⟩ := hW
    have y0 := h2.c0; have y1 := h2.c1; have y2 := h2.c2; have y3 := h2.c3; have y4 := h2.c4; have y5 := h2.c5; have y6 := h2.c6; have y7 := h2.c7
    go_simp
    exact RegionU.does_value rfl
  simp only [Act.put, List.setIfInBounds_toArray, List.set]
  refine wpU_taken (i := 18) rfl (by kernel_rfl) (by kernel_rfl) (by kernel_rfl) HU.out ?_
  apply Exists.intro
  refine ⟨Or.inl ⟨rfl, fun W hW => ?hy⟩, ?_⟩
  case hy =>
    obtain ⟨h1, h2, h3, h4, h5, h6⟩ := hW
    go_simp
    exact RegionU.does_call (HS.out W h3 h4 h6)
  simp only [Act.put, List.setIfInBounds_toArray, List.set]
  refine wpU_taken (i := 19) rfl (by kernel_rfl) (by kernel_rfl) (by kernel_rfl) HU.out ?_
  apply Exists.intro
  refine ⟨Or.inl ⟨rfl, fun W hW => ?hy⟩, ?_⟩
  case hy =>
    obtain ⟨h1, h2, h3, h4, h5, h6⟩ := hW
    go_simp
    try simp only [beq_self_eq_true, bne_self_eq_false, Bool.not_true, Bool.not_false, Bool.or_false, Bool.and_true]
    exact RegionU.does_value rfl
  simp only [Act.put, List.setIfInBounds_toArray, List.set]
  refine wpU_taken (i := 20) rfl (by kernel_rfl) (by kernel_rfl) (by kernel_rfl) HU.out ?_
  apply Exists.intro
  refine ⟨Or.inl ⟨rfl, fun W hW => ?hy⟩, ?_⟩
  case hy =>
    obtain ⟨h1, h2, h3, h4, h5, h6⟩ := hW
    go_simp
    exact RegionU.does_value rfl
  simp only [Act.put, List.setIfInBounds_toArray, List.set]
  refine wpU_taken (i := 21) rfl (by kernel_rfl) (by kernel_rfl) (by kernel_rfl) HU.out ?_
  apply Exists.intro
  refine ⟨Or.inl ⟨rfl, fun W hW => ?hy⟩, ?_⟩
  case hy =>
    obtain ⟨h1, h2, h3, h4, h5, h6⟩ := hW
    go_simp
    exact RegionU.does_value rfl
  simp only [Act.put, List.setIfInBounds_toArray, List.set]
  refine wpU_taken (i := 22) rfl (by kernel_rfl) (by kernel_rfl) (by kernel_rfl) HU.out ?_
  apply Exists.intro
  refine ⟨Or.inl ⟨rfl, fun W hW => ?hy⟩, ?_⟩
  case hy =>
    obtain ⟨h1, h2, h3, h4, h5, h6⟩ := hW
    go_simp
    exact RegionU.does_call (HK.out W h5)
  simp only [Act.put, List.setIfInBounds_toArray, List.set]
  refine wpU_taken (i := 23) rfl (by kernel_rfl) (by kernel_rfl) (by kernel_rfl) HU.out ?_
  apply Exists.intro
  refine ⟨Or.inl ⟨rfl, fun W hW => ?hy⟩, ?_⟩
  case hy =>
    obtain ⟨h1, h2, h3, h4, h5, h6⟩ := hW
    go_simp
    exact RegionU.does_value rfl
  simp only [Act.put, List.setIfInBounds_toArray, List.set]
  refine wpU_taken (i := 24) rfl (by kernel_rfl) (by kernel_rfl) (by kernel_rfl) HU.out ?_
  apply Exists.intro
  refine ⟨Or.inl ⟨rfl, fun W hW => ?hy⟩, ?_⟩
  case hy =>
    obtain ⟨h1, h2, h3, h4, h5, h6⟩ := hW
    go_simp
    exact RegionU.does_value rfl
  simp only [Act.put, List.setIfInBounds_toArray, List.set]
  refine wpU_done (by kernel_rfl) ?_
  intro W hW
  obtain ⟨h1, h2, h3, h4, h5, h6⟩ := hW
  go_wp2_with fail
  go_ret
  exact ⟨rfl, h6⟩
end Go.Proofs.YtogdjgfgmdphgaaDoor.TreeW
