/- Walks: what makes trees. -/
import Derived.Test.YtogdjgfgmdphgaaDoorCopy
namespace Go.Proofs.YtogdjgfgmdphgaaDoor.TreeW
set_option linter.unusedVariables false
open Go.RowKit Go.Proofs.YtogdjgfgmdphgaaDoor.TreeM
theorem Lies.fresh {lo hi : Nat} {w w' : World} {v u : Value} {l : List Tr} {R : Nat} {n : Nd} (h : Lies lo hi w v l) (hR : R < lo) (hh : hi ≤ w.heap.size) : Lies R (put8 w R 0 n u).heap.size (put8 w R 0 n u) v l := by
  refine (h.off (.inl hR) _ _ _).mono (by omega) ?_
  rw [size_put8]; exact hh
theorem zero_new (w : World) : Open (w.alloc (.cells #[.int .i64 0, .int .u64 0, .int .u64 0, .int .u64 0, .int .u64 0, .slice none 0 0, .int .i64 0, .int .i64 0] 28)) w.heap.size 8 := Open.new w zero (.slice none 0 0)

theorem above_any (K : Int) (l : List Tr) (a : Option Addr) (cap : Nat) (w : World) (hmx : l.length ≤ 2199023255552) (hmy : mxL l ≤ 2199023255552) (hL : Lies 0 w.heap.size w (.slice a l.length cap) l) :
    Calls Tryd.prog 41 #[.int .i64 K, .slice a l.length cap] w (IsCopy (ofKind K) l w) := by
  obtain ⟨B, hB⟩ : ∃ B, B = w.heap.size := ⟨_, rfl⟩
  have HB := Lib.hid hB; clear hB
  have HL := Lib.hid hL; clear hL
  have hb0 := (Below.refl w.heap.size w).alloc (Nat.le_refl _) (.cells #[.int .i64 0, .int .u64 0, .int .u64 0, .int .u64 0, .int .u64 0, .slice none 0 0, .int .i64 0, .int .i64 0] 28)
  have HO := Lib.hid (zero_new w)
  have hs0 : (w.alloc (.cells #[.int .i64 0, .int .u64 0, .int .u64 0, .int .u64 0, .int .u64 0, .slice none 0 0, .int .i64 0, .int .i64 0] 28)).heap.size = w.heap.size + 1 := by simp
  have HC := Lib.hid (Copy_to _ (ofKind K) l a cap _ (Nat.le_refl _) hmx hmy (HL.out.grow hb0))
  have HB0 := Lib.hid hb0; have HS0 := Lib.hid hs0; clear hb0 hs0
  go_enter Tryd.func41, Tryd.ntmps41
  go_wp2_with fail
  refine HC.out.mono ?_
  rintro e w1 ⟨a1, c1, rfl, hL1, hb1⟩
  have hO := HO.out.below HO.out.lt hb1
  have hb2 := HB0.out.trans (hb1.mono HB0.out.size)
  rw [HS0.out, ← HB.out] at hL1
  rw [← HB.out] at hO
  have HO1 := Lib.hid hO; have HL1 := Lib.hid hL1; have HB2 := Lib.hid hb2
  obtain ⟨u0', e0⟩ := hO.cell (0) (by omega)
  obtain ⟨u1', e1⟩ := hO.cell (1) (by omega)
  obtain ⟨u2', e2⟩ := hO.cell (2) (by omega)
  obtain ⟨u3', e3⟩ := hO.cell (3) (by omega)
  obtain ⟨u4', e4⟩ := hO.cell (4) (by omega)
  obtain ⟨u5', e5⟩ := hO.cell (5) (by omega)
  obtain ⟨u6', e6⟩ := hO.cell (6) (by omega)
  obtain ⟨u7', e7⟩ := hO.cell (7) (by omega)
  have z0 := hO.frozen (0); have z1 := hO.frozen (1); have z2 := hO.frozen (2); have z3 := hO.frozen (3); have z4 := hO.frozen (4); have z5 := hO.frozen (5); have z6 := hO.frozen (6); have z7 := hO.frozen (7)
  clear hO hL1 hb1 HO HC HB0 HS0 hb2
  rw [← HB.out]
  go_wp2_with fail
  have hq := put8_node HO1.out 0 (by omega) (ofKind K) (.slice a1 l.length c1)
  exact bodyPost_ret (v := NV (ofKind K) (.slice a1 l.length c1)) (by simp [results, Tryd.results41, go_sem, hq.c0, hq.c1, hq.c2, hq.c3, hq.c4, hq.c5, hq.c6, hq.c7]) rfl ⟨_, _, rfl, by rw [← HB.out]; exact HL1.out.fresh (w' := w) (by omega) (Nat.le_refl _), below_put8 HB2.out (by rw [HB.out]; exact Nat.le_refl _) _ _ _⟩

theorem None_any (w : World) : Calls Tryd.prog 31 #[] w fun e w' => e = .returned (NV (ofKind 1) (.slice none 0 0)) ∧ Below w.heap.size w w' := by
  go_enter Tryd.func31, Tryd.ntmps31
  go_wp2_with fail
  exact bodyPost_ret (v := NV (ofKind 1) (.slice none 0 0)) (by simp [results, Tryd.results31, go_sem, ofKind]) rfl ⟨rfl, (Below.refl _ _).alloc (Nat.le_refl _) _⟩

theorem Empty_any (w : World) : Calls Tryd.prog 35 #[] w fun e w' => e = .returned (NV (ofKind 2) (.slice none 0 0)) ∧ Below w.heap.size w w' := by
  go_enter Tryd.func35, Tryd.ntmps35
  go_wp2_with fail
  exact bodyPost_ret (v := NV (ofKind 2) (.slice none 0 0)) (by simp [results, Tryd.results35, go_sem, ofKind]) rfl ⟨rfl, (Below.refl _ _).alloc (Nat.le_refl _) _⟩

/-- A node that says a set. -/
def leaf (f : Nat → Bool) : Nd := ⟨3, SetM.wd f 0, SetM.wd f 1, SetM.wd f 2, SetM.wd f 3, 0, 0⟩

theorem Bytes_any (f : Nat → Bool) (w : World) : Calls Tryd.prog 30 #[SetW.SV f] w fun e w' => e = .returned (NV (leaf f) (.slice none 0 0)) ∧ Below w.heap.size w w' := by
  go_enter Tryd.func30, Tryd.ntmps30
  go_wp2_with fail
  exact bodyPost_ret (v := NV (leaf f) (.slice none 0 0)) (by simp [results, Tryd.results30, go_sem, leaf]) rfl ⟨rfl, ((Below.refl _ _).alloc (Nat.le_refl _) _).alloc (by simp) _⟩

theorem RBytes_any (f : Nat → Bool) (w : World) : Calls Tryd.prog 17 #[SetW.SV f] w fun e w' => e = .returned (NV (leaf f) (.slice none 0 0)) ∧ Below w.heap.size w w' := by
  go_enter Tryd.func17, Tryd.ntmps17
  go_wp2_with fail
  exact bodyPost_ret (v := NV (leaf f) (.slice none 0 0)) (by simp [results, Tryd.results17, go_sem, leaf]) rfl ⟨rfl, ((Below.refl _ _).alloc (Nat.le_refl _) _).alloc (by simp) _⟩

theorem Star_any (n : Nd) (l : List Tr) (a : Option Addr) (cap : Nat) (w : World) (hmx : l.length ≤ 2199023255552) (hmy : mxL l ≤ 2199023255552) (hL : Lies 0 w.heap.size w (.slice a l.length cap) l) :
    Calls Tryd.prog 24 #[NV n (.slice a l.length cap)] w (IsCopy (ofKind 6) [.mk n l] w) := by
  obtain ⟨B, hB⟩ : ∃ B, B = w.heap.size := ⟨_, rfl⟩
  have HB := Lib.hid hB; clear hB
  have hb0 := (((Below.refl w.heap.size w).alloc (Nat.le_refl _) (.cells #[.int .i64 n.K, .int .u64 n.a, .int .u64 n.b, .int .u64 n.c, .int .u64 n.d, .slice a l.length cap, .int .i64 n.L, .int .i64 n.H] 28)).alloc (by simp) (.cells #[.int .i64 0, .int .u64 0, .int .u64 0, .int .u64 0, .int .u64 0, .slice none 0 0, .int .i64 0, .int .i64 0] 28)).alloc (by simp; omega) (.cells #[.int .i64 n.K, .int .u64 n.a, .int .u64 n.b, .int .u64 n.c, .int .u64 n.d, .slice a l.length cap, .int .i64 n.L, .int .i64 n.H] 28)
  have hO := (zero_new (w.alloc (.cells #[.int .i64 n.K, .int .u64 n.a, .int .u64 n.b, .int .u64 n.c, .int .u64 n.d, .slice a l.length cap, .int .i64 n.L, .int .i64 n.H] 28))).below (by simp) ((Below.refl _ _).alloc (Nat.le_refl _) (.cells #[.int .i64 n.K, .int .u64 n.a, .int .u64 n.b, .int .u64 n.c, .int .u64 n.d, .slice a l.length cap, .int .i64 n.L, .int .i64 n.H] 28))
  have hX := NodeAt.new ((w.alloc (.cells #[.int .i64 n.K, .int .u64 n.a, .int .u64 n.b, .int .u64 n.c, .int .u64 n.d, .slice a l.length cap, .int .i64 n.L, .int .i64 n.H] 28)).alloc (.cells #[.int .i64 0, .int .u64 0, .int .u64 0, .int .u64 0, .int .u64 0, .slice none 0 0, .int .i64 0, .int .i64 0] 28)) n (.slice a l.length cap) 28
  have hL1 := hL.grow hb0
  have hs1 : (w.alloc (.cells #[.int .i64 n.K, .int .u64 n.a, .int .u64 n.b, .int .u64 n.c, .int .u64 n.d, .slice a l.length cap, .int .i64 n.L, .int .i64 n.H] 28)).heap.size = w.heap.size + 1 := by simp
  have hs2 : ((w.alloc (.cells #[.int .i64 n.K, .int .u64 n.a, .int .u64 n.b, .int .u64 n.c, .int .u64 n.d, .slice a l.length cap, .int .i64 n.L, .int .i64 n.H] 28)).alloc (.cells #[.int .i64 0, .int .u64 0, .int .u64 0, .int .u64 0, .int .u64 0, .slice none 0 0, .int .i64 0, .int .i64 0] 28)).heap.size = w.heap.size + 2 := by simp
  have hs3 : (((w.alloc (.cells #[.int .i64 n.K, .int .u64 n.a, .int .u64 n.b, .int .u64 n.c, .int .u64 n.d, .slice a l.length cap, .int .i64 n.L, .int .i64 n.H] 28)).alloc (.cells #[.int .i64 0, .int .u64 0, .int .u64 0, .int .u64 0, .int .u64 0, .slice none 0 0, .int .i64 0, .int .i64 0] 28)).alloc (.cells #[.int .i64 n.K, .int .u64 n.a, .int .u64 n.b, .int .u64 n.c, .int .u64 n.d, .slice a l.length cap, .int .i64 n.L, .int .i64 n.H] 28)).heap.size = w.heap.size + 3 := by simp
  rw [hs1] at hO
  rw [hs2] at hX
  have HC := Lib.hid (above_any 6 [.mk n l] _ 1 _ (by simp) (by rw [mxL_cons, mxL_nil, mx]; omega) (LiesS.one hL1 hX ⟨by omega, by omega⟩))
  have HB0 := Lib.hid hb0; have HS3 := Lib.hid hs3; have HO := Lib.hid hO
  clear hb0 hs1 hs2 hs3 hO hX hL1 hL
  go_enter Tryd.func24, Tryd.ntmps24
  go_wp2_with fail
  refine HC.out.mono ?_
  rintro e w1 ⟨a1, c1, rfl, hL1, hb1⟩
  have hO := HO.out.below HO.out.lt hb1
  have hb2 := HB0.out.trans (hb1.mono HB0.out.size)
  rw [HS3.out, ← HB.out] at hL1
  rw [← HB.out] at hO
  have HO1 := Lib.hid hO; have HL1 := Lib.hid hL1; have HB2 := Lib.hid hb2
  obtain ⟨u0', e0⟩ := hO.cell (0) (by omega)
  obtain ⟨u1', e1⟩ := hO.cell (1) (by omega)
  obtain ⟨u2', e2⟩ := hO.cell (2) (by omega)
  obtain ⟨u3', e3⟩ := hO.cell (3) (by omega)
  obtain ⟨u4', e4⟩ := hO.cell (4) (by omega)
  obtain ⟨u5', e5⟩ := hO.cell (5) (by omega)
  obtain ⟨u6', e6⟩ := hO.cell (6) (by omega)
  obtain ⟨u7', e7⟩ := hO.cell (7) (by omega)
  have z0 := hO.frozen (0); have z1 := hO.frozen (1); have z2 := hO.frozen (2); have z3 := hO.frozen (3); have z4 := hO.frozen (4); have z5 := hO.frozen (5); have z6 := hO.frozen (6); have z7 := hO.frozen (7)
  clear hO hL1 hb1 HO HC HB0 HS3 hb2
  rw [← HB.out]
  simp only [List.length_cons, List.length_nil, Nat.zero_add] at *
  go_wp2_with fail
  have hq := put8_node HO1.out 0 (by omega) (ofKind 6) (.slice a1 1 c1)
  exact bodyPost_ret (v := NV (ofKind 6) (.slice a1 1 c1)) (by simp [results, Tryd.results24, go_sem, hq.c0, hq.c1, hq.c2, hq.c3, hq.c4, hq.c5, hq.c6, hq.c7]) rfl ⟨_, _, rfl, (HL1.out.fresh (w' := w) (by omega) (Nat.le_refl _)).mono (by rw [← HB.out]; omega) (Nat.le_refl _), below_put8 HB2.out (by rw [HB.out]; omega) _ _ _⟩

theorem Plus_any (n : Nd) (l : List Tr) (a : Option Addr) (cap : Nat) (w : World) (hmx : l.length ≤ 2199023255552) (hmy : mxL l ≤ 2199023255552) (hL : Lies 0 w.heap.size w (.slice a l.length cap) l) :
    Calls Tryd.prog 26 #[NV n (.slice a l.length cap)] w (IsCopy (ofKind 7) [.mk n l] w) := by
  obtain ⟨B, hB⟩ : ∃ B, B = w.heap.size := ⟨_, rfl⟩
  have HB := Lib.hid hB; clear hB
  have hb0 := (((Below.refl w.heap.size w).alloc (Nat.le_refl _) (.cells #[.int .i64 n.K, .int .u64 n.a, .int .u64 n.b, .int .u64 n.c, .int .u64 n.d, .slice a l.length cap, .int .i64 n.L, .int .i64 n.H] 28)).alloc (by simp) (.cells #[.int .i64 0, .int .u64 0, .int .u64 0, .int .u64 0, .int .u64 0, .slice none 0 0, .int .i64 0, .int .i64 0] 28)).alloc (by simp; omega) (.cells #[.int .i64 n.K, .int .u64 n.a, .int .u64 n.b, .int .u64 n.c, .int .u64 n.d, .slice a l.length cap, .int .i64 n.L, .int .i64 n.H] 28)
  have hO := (zero_new (w.alloc (.cells #[.int .i64 n.K, .int .u64 n.a, .int .u64 n.b, .int .u64 n.c, .int .u64 n.d, .slice a l.length cap, .int .i64 n.L, .int .i64 n.H] 28))).below (by simp) ((Below.refl _ _).alloc (Nat.le_refl _) (.cells #[.int .i64 n.K, .int .u64 n.a, .int .u64 n.b, .int .u64 n.c, .int .u64 n.d, .slice a l.length cap, .int .i64 n.L, .int .i64 n.H] 28))
  have hX := NodeAt.new ((w.alloc (.cells #[.int .i64 n.K, .int .u64 n.a, .int .u64 n.b, .int .u64 n.c, .int .u64 n.d, .slice a l.length cap, .int .i64 n.L, .int .i64 n.H] 28)).alloc (.cells #[.int .i64 0, .int .u64 0, .int .u64 0, .int .u64 0, .int .u64 0, .slice none 0 0, .int .i64 0, .int .i64 0] 28)) n (.slice a l.length cap) 28
  have hL1 := hL.grow hb0
  have hs1 : (w.alloc (.cells #[.int .i64 n.K, .int .u64 n.a, .int .u64 n.b, .int .u64 n.c, .int .u64 n.d, .slice a l.length cap, .int .i64 n.L, .int .i64 n.H] 28)).heap.size = w.heap.size + 1 := by simp
  have hs2 : ((w.alloc (.cells #[.int .i64 n.K, .int .u64 n.a, .int .u64 n.b, .int .u64 n.c, .int .u64 n.d, .slice a l.length cap, .int .i64 n.L, .int .i64 n.H] 28)).alloc (.cells #[.int .i64 0, .int .u64 0, .int .u64 0, .int .u64 0, .int .u64 0, .slice none 0 0, .int .i64 0, .int .i64 0] 28)).heap.size = w.heap.size + 2 := by simp
  have hs3 : (((w.alloc (.cells #[.int .i64 n.K, .int .u64 n.a, .int .u64 n.b, .int .u64 n.c, .int .u64 n.d, .slice a l.length cap, .int .i64 n.L, .int .i64 n.H] 28)).alloc (.cells #[.int .i64 0, .int .u64 0, .int .u64 0, .int .u64 0, .int .u64 0, .slice none 0 0, .int .i64 0, .int .i64 0] 28)).alloc (.cells #[.int .i64 n.K, .int .u64 n.a, .int .u64 n.b, .int .u64 n.c, .int .u64 n.d, .slice a l.length cap, .int .i64 n.L, .int .i64 n.H] 28)).heap.size = w.heap.size + 3 := by simp
  rw [hs1] at hO
  rw [hs2] at hX
  have HC := Lib.hid (above_any 7 [.mk n l] _ 1 _ (by simp) (by rw [mxL_cons, mxL_nil, mx]; omega) (LiesS.one hL1 hX ⟨by omega, by omega⟩))
  have HB0 := Lib.hid hb0; have HS3 := Lib.hid hs3; have HO := Lib.hid hO
  clear hb0 hs1 hs2 hs3 hO hX hL1 hL
  go_enter Tryd.func26, Tryd.ntmps26
  go_wp2_with fail
  refine HC.out.mono ?_
  rintro e w1 ⟨a1, c1, rfl, hL1, hb1⟩
  have hO := HO.out.below HO.out.lt hb1
  have hb2 := HB0.out.trans (hb1.mono HB0.out.size)
  rw [HS3.out, ← HB.out] at hL1
  rw [← HB.out] at hO
  have HO1 := Lib.hid hO; have HL1 := Lib.hid hL1; have HB2 := Lib.hid hb2
  obtain ⟨u0', e0⟩ := hO.cell (0) (by omega)
  obtain ⟨u1', e1⟩ := hO.cell (1) (by omega)
  obtain ⟨u2', e2⟩ := hO.cell (2) (by omega)
  obtain ⟨u3', e3⟩ := hO.cell (3) (by omega)
  obtain ⟨u4', e4⟩ := hO.cell (4) (by omega)
  obtain ⟨u5', e5⟩ := hO.cell (5) (by omega)
  obtain ⟨u6', e6⟩ := hO.cell (6) (by omega)
  obtain ⟨u7', e7⟩ := hO.cell (7) (by omega)
  have z0 := hO.frozen (0); have z1 := hO.frozen (1); have z2 := hO.frozen (2); have z3 := hO.frozen (3); have z4 := hO.frozen (4); have z5 := hO.frozen (5); have z6 := hO.frozen (6); have z7 := hO.frozen (7)
  clear hO hL1 hb1 HO HC HB0 HS3 hb2
  rw [← HB.out]
  simp only [List.length_cons, List.length_nil, Nat.zero_add] at *
  go_wp2_with fail
  have hq := put8_node HO1.out 0 (by omega) (ofKind 7) (.slice a1 1 c1)
  exact bodyPost_ret (v := NV (ofKind 7) (.slice a1 1 c1)) (by simp [results, Tryd.results26, go_sem, hq.c0, hq.c1, hq.c2, hq.c3, hq.c4, hq.c5, hq.c6, hq.c7]) rfl ⟨_, _, rfl, (HL1.out.fresh (w' := w) (by omega) (Nat.le_refl _)).mono (by rw [← HB.out]; omega) (Nat.le_refl _), below_put8 HB2.out (by rw [HB.out]; omega) _ _ _⟩

theorem Opt_any (n : Nd) (l : List Tr) (a : Option Addr) (cap : Nat) (w : World) (hmx : l.length ≤ 2199023255552) (hmy : mxL l ≤ 2199023255552) (hL : Lies 0 w.heap.size w (.slice a l.length cap) l) :
    Calls Tryd.prog 27 #[NV n (.slice a l.length cap)] w (IsCopy (ofKind 8) [.mk n l] w) := by
  obtain ⟨B, hB⟩ : ∃ B, B = w.heap.size := ⟨_, rfl⟩
  have HB := Lib.hid hB; clear hB
  have hb0 := (((Below.refl w.heap.size w).alloc (Nat.le_refl _) (.cells #[.int .i64 n.K, .int .u64 n.a, .int .u64 n.b, .int .u64 n.c, .int .u64 n.d, .slice a l.length cap, .int .i64 n.L, .int .i64 n.H] 28)).alloc (by simp) (.cells #[.int .i64 0, .int .u64 0, .int .u64 0, .int .u64 0, .int .u64 0, .slice none 0 0, .int .i64 0, .int .i64 0] 28)).alloc (by simp; omega) (.cells #[.int .i64 n.K, .int .u64 n.a, .int .u64 n.b, .int .u64 n.c, .int .u64 n.d, .slice a l.length cap, .int .i64 n.L, .int .i64 n.H] 28)
  have hO := (zero_new (w.alloc (.cells #[.int .i64 n.K, .int .u64 n.a, .int .u64 n.b, .int .u64 n.c, .int .u64 n.d, .slice a l.length cap, .int .i64 n.L, .int .i64 n.H] 28))).below (by simp) ((Below.refl _ _).alloc (Nat.le_refl _) (.cells #[.int .i64 n.K, .int .u64 n.a, .int .u64 n.b, .int .u64 n.c, .int .u64 n.d, .slice a l.length cap, .int .i64 n.L, .int .i64 n.H] 28))
  have hX := NodeAt.new ((w.alloc (.cells #[.int .i64 n.K, .int .u64 n.a, .int .u64 n.b, .int .u64 n.c, .int .u64 n.d, .slice a l.length cap, .int .i64 n.L, .int .i64 n.H] 28)).alloc (.cells #[.int .i64 0, .int .u64 0, .int .u64 0, .int .u64 0, .int .u64 0, .slice none 0 0, .int .i64 0, .int .i64 0] 28)) n (.slice a l.length cap) 28
  have hL1 := hL.grow hb0
  have hs1 : (w.alloc (.cells #[.int .i64 n.K, .int .u64 n.a, .int .u64 n.b, .int .u64 n.c, .int .u64 n.d, .slice a l.length cap, .int .i64 n.L, .int .i64 n.H] 28)).heap.size = w.heap.size + 1 := by simp
  have hs2 : ((w.alloc (.cells #[.int .i64 n.K, .int .u64 n.a, .int .u64 n.b, .int .u64 n.c, .int .u64 n.d, .slice a l.length cap, .int .i64 n.L, .int .i64 n.H] 28)).alloc (.cells #[.int .i64 0, .int .u64 0, .int .u64 0, .int .u64 0, .int .u64 0, .slice none 0 0, .int .i64 0, .int .i64 0] 28)).heap.size = w.heap.size + 2 := by simp
  have hs3 : (((w.alloc (.cells #[.int .i64 n.K, .int .u64 n.a, .int .u64 n.b, .int .u64 n.c, .int .u64 n.d, .slice a l.length cap, .int .i64 n.L, .int .i64 n.H] 28)).alloc (.cells #[.int .i64 0, .int .u64 0, .int .u64 0, .int .u64 0, .int .u64 0, .slice none 0 0, .int .i64 0, .int .i64 0] 28)).alloc (.cells #[.int .i64 n.K, .int .u64 n.a, .int .u64 n.b, .int .u64 n.c, .int .u64 n.d, .slice a l.length cap, .int .i64 n.L, .int .i64 n.H] 28)).heap.size = w.heap.size + 3 := by simp
  rw [hs1] at hO
  rw [hs2] at hX
  have HC := Lib.hid (above_any 8 [.mk n l] _ 1 _ (by simp) (by rw [mxL_cons, mxL_nil, mx]; omega) (LiesS.one hL1 hX ⟨by omega, by omega⟩))
  have HB0 := Lib.hid hb0; have HS3 := Lib.hid hs3; have HO := Lib.hid hO
  clear hb0 hs1 hs2 hs3 hO hX hL1 hL
  go_enter Tryd.func27, Tryd.ntmps27
  go_wp2_with fail
  refine HC.out.mono ?_
  rintro e w1 ⟨a1, c1, rfl, hL1, hb1⟩
  have hO := HO.out.below HO.out.lt hb1
  have hb2 := HB0.out.trans (hb1.mono HB0.out.size)
  rw [HS3.out, ← HB.out] at hL1
  rw [← HB.out] at hO
  have HO1 := Lib.hid hO; have HL1 := Lib.hid hL1; have HB2 := Lib.hid hb2
  obtain ⟨u0', e0⟩ := hO.cell (0) (by omega)
  obtain ⟨u1', e1⟩ := hO.cell (1) (by omega)
  obtain ⟨u2', e2⟩ := hO.cell (2) (by omega)
  obtain ⟨u3', e3⟩ := hO.cell (3) (by omega)
  obtain ⟨u4', e4⟩ := hO.cell (4) (by omega)
  obtain ⟨u5', e5⟩ := hO.cell (5) (by omega)
  obtain ⟨u6', e6⟩ := hO.cell (6) (by omega)
  obtain ⟨u7', e7⟩ := hO.cell (7) (by omega)
  have z0 := hO.frozen (0); have z1 := hO.frozen (1); have z2 := hO.frozen (2); have z3 := hO.frozen (3); have z4 := hO.frozen (4); have z5 := hO.frozen (5); have z6 := hO.frozen (6); have z7 := hO.frozen (7)
  clear hO hL1 hb1 HO HC HB0 HS3 hb2
  rw [← HB.out]
  simp only [List.length_cons, List.length_nil, Nat.zero_add] at *
  go_wp2_with fail
  have hq := put8_node HO1.out 0 (by omega) (ofKind 8) (.slice a1 1 c1)
  exact bodyPost_ret (v := NV (ofKind 8) (.slice a1 1 c1)) (by simp [results, Tryd.results27, go_sem, hq.c0, hq.c1, hq.c2, hq.c3, hq.c4, hq.c5, hq.c6, hq.c7]) rfl ⟨_, _, rfl, (HL1.out.fresh (w' := w) (by omega) (Nat.le_refl _)).mono (by rw [← HB.out]; omega) (Nat.le_refl _), below_put8 HB2.out (by rw [HB.out]; omega) _ _ _⟩
end Go.Proofs.YtogdjgfgmdphgaaDoor.TreeW
