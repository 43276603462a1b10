/- Walks: list, Cat, Alt, Rep. -/
import Derived.Test.YtogdjgfgmdphgaaDoorMake
namespace Go.Proofs.YtogdjgfgmdphgaaDoor.TreeW
set_option linter.unusedVariables false
open Go.RowKit Go.Proofs.YtogdjgfgmdphgaaDoor.TreeM

theorem list0_any (K z : Int) (a : Option Addr) (cap : Nat) (w : World) :
    Calls Tryd.prog 38 #[.int .i64 K, NV (ofKind z) (.slice none 0 0), .slice a 0 cap] w (IsCopy (ofKind z) [] w) := by
  go_enter Tryd.func38, Tryd.ntmps38
  go_wp2_with fail
  exact bodyPost_ret (v := NV (ofKind z) (.slice none 0 0)) (by simp [results, Tryd.results38, go_sem, ofKind]) rfl ⟨none, 0, rfl, .nil _ _ (fun _ => rfl), ((Below.refl _ _).alloc (Nat.le_refl _) _).alloc (by simp) _⟩
set_option maxHeartbeats 1000000 in
theorem list1_any (K z : Int) (n : Nd) (l : List Tr) (a : Option Addr) (cap : Nat) (w : World) (hmx : l.length ≤ 2199023255552) (hmy : mxL l ≤ 2199023255552) (hL : Lies 0 w.heap.size w (.slice a 1 cap) [.mk n l]) :
    Calls Tryd.prog 38 #[.int .i64 K, NV (ofKind z) (.slice none 0 0), .slice a 1 cap] w (IsCopy n l w) := by
  obtain ⟨B, hB⟩ : ∃ B, B = w.heap.size := ⟨_, rfl⟩
  have HB := Lib.hid hB; clear hB
  obtain ⟨b, o, a', cap', rfl, -, h1, h2, h3, h4, hA, hK⟩ := hL.at 0 (by simp)
  simp only [List.getElem_cons_zero, Tr.nd, Tr.kids, Nat.zero_mul, Nat.add_zero] at hA hK
  have hb0 := ((Below.refl w.heap.size w).alloc (Nat.le_refl _) (.cells #[.int .i64 (ofKind z).K, .int .u64 (ofKind z).a, .int .u64 (ofKind z).b, .int .u64 (ofKind z).c, .int .u64 (ofKind z).d, .slice none 0 0, .int .i64 (ofKind z).L, .int .i64 (ofKind z).H] 28)).alloc (by simp) (.cells #[.int .i64 0, .int .u64 0, .int .u64 0, .int .u64 0, .int .u64 0, .slice none 0 0, .int .i64 0, .int .i64 0] 28)
  have hO := zero_new (w.alloc (.cells #[.int .i64 (ofKind z).K, .int .u64 (ofKind z).a, .int .u64 (ofKind z).b, .int .u64 (ofKind z).c, .int .u64 (ofKind z).d, .slice none 0 0, .int .i64 (ofKind z).L, .int .i64 (ofKind z).H] 28))
  have hs1 : (w.alloc (.cells #[.int .i64 (ofKind z).K, .int .u64 (ofKind z).a, .int .u64 (ofKind z).b, .int .u64 (ofKind z).c, .int .u64 (ofKind z).d, .slice none 0 0, .int .i64 (ofKind z).L, .int .i64 (ofKind z).H] 28)).heap.size = w.heap.size + 1 := by simp
  have hs2 : ((w.alloc (.cells #[.int .i64 (ofKind z).K, .int .u64 (ofKind z).a, .int .u64 (ofKind z).b, .int .u64 (ofKind z).c, .int .u64 (ofKind z).d, .slice none 0 0, .int .i64 (ofKind z).L, .int .i64 (ofKind z).H] 28)).alloc (.cells #[.int .i64 0, .int .u64 0, .int .u64 0, .int .u64 0, .int .u64 0, .slice none 0 0, .int .i64 0, .int .i64 0] 28)).heap.size = w.heap.size + 2 := by simp
  rw [hs1] at hO
  have hA2 := hA.below h4 hb0
  have d0 := hA2.c0; have d1 := hA2.c1; have d2 := hA2.c2; have d3 := hA2.c3; have d4 := hA2.c4; have d5 := hA2.c5; have d6 := hA2.c6; have d7 := hA2.c7
  have HC := Lib.hid (Copy_to _ n l a' cap' _ (Nat.le_refl _) hmx hmy (hK.grow hb0))
  have HB0 := Lib.hid hb0; have HS2 := Lib.hid hs2; have HO := Lib.hid hO
  clear hb0 hs1 hs2 hO hA hK hL hA2
  go_enter Tryd.func38, Tryd.ntmps38
  go_wp2_with fail
  refine HC.out.mono ?_
  rintro e w1 ⟨a1, c1, rfl, hL1, hb1⟩
  have hO := HO.out.below HO.out.lt hb1
  have hb2 := HB0.out.trans (hb1.mono HB0.out.size)
  rw [HS2.out, ← HB.out] at hL1
  rw [← HB.out] at hO
  have HO1 := Lib.hid hO; have HL1 := Lib.hid hL1; have HB2 := Lib.hid hb2
  obtain ⟨u0', e0⟩ := hO.cell (0) (by omega)
  obtain ⟨u1', e1⟩ := hO.cell (1) (by omega)
  obtain ⟨u2', e2⟩ := hO.cell (2) (by omega)
  obtain ⟨u3', e3⟩ := hO.cell (3) (by omega)
  obtain ⟨u4', e4⟩ := hO.cell (4) (by omega)
  obtain ⟨u5', e5⟩ := hO.cell (5) (by omega)
  obtain ⟨u6', e6⟩ := hO.cell (6) (by omega)
  obtain ⟨u7', e7⟩ := hO.cell (7) (by omega)
  have z0 := hO.frozen (0); have z1 := hO.frozen (1); have z2 := hO.frozen (2); have z3 := hO.frozen (3); have z4 := hO.frozen (4); have z5 := hO.frozen (5); have z6 := hO.frozen (6); have z7 := hO.frozen (7)
  clear hO hL1 hb1 HO HC HB0 HS2 hb2 d0 d1 d2 d3 d4 d5 d6 d7
  rw [← HB.out]
  go_wp2_with fail
  have hq := put8_node HO1.out 0 (by omega) n (.slice a1 l.length c1)
  exact bodyPost_ret (v := NV n (.slice a1 l.length c1)) (by simp [results, Tryd.results38, go_sem, hq.c0, hq.c1, hq.c2, hq.c3, hq.c4, hq.c5, hq.c6, hq.c7]) rfl ⟨_, _, rfl, (HL1.out.fresh (w' := w) (n := n) (by omega) (Nat.le_refl _)).mono (by rw [← HB.out]; omega) (Nat.le_refl _), below_put8 (n := n) HB2.out (by rw [HB.out]; omega) _ _⟩
set_option maxHeartbeats 1000000 in
theorem list2_any (K z : Int) (l : List Tr) (a : Option Addr) (cap : Nat) (w : World) (h2l : 2 ≤ l.length) (hmx : l.length ≤ 2199023255552) (hmy : mxL l ≤ 2199023255552) (hL : Lies 0 w.heap.size w (.slice a l.length cap) l) :
    Calls Tryd.prog 38 #[.int .i64 K, NV (ofKind z) (.slice none 0 0), .slice a l.length cap] w (IsCopy (ofKind K) l w) := by
  obtain ⟨B, hB⟩ : ∃ B, B = w.heap.size := ⟨_, rfl⟩
  have HB := Lib.hid hB; clear hB
  have t0 : ((l.length : Int) == 0) = false := by simp; intro h; rw [h] at h2l; simp at h2l
  have t1 : ((l.length : Int) == 1) = false := by simp; omega
  have hb0 := ((Below.refl w.heap.size w).alloc (Nat.le_refl _) (.cells #[.int .i64 (ofKind z).K, .int .u64 (ofKind z).a, .int .u64 (ofKind z).b, .int .u64 (ofKind z).c, .int .u64 (ofKind z).d, .slice none 0 0, .int .i64 (ofKind z).L, .int .i64 (ofKind z).H] 28)).alloc (by simp) (.cells #[.int .i64 0, .int .u64 0, .int .u64 0, .int .u64 0, .int .u64 0, .slice none 0 0, .int .i64 0, .int .i64 0] 28)
  have hO := zero_new (w.alloc (.cells #[.int .i64 (ofKind z).K, .int .u64 (ofKind z).a, .int .u64 (ofKind z).b, .int .u64 (ofKind z).c, .int .u64 (ofKind z).d, .slice none 0 0, .int .i64 (ofKind z).L, .int .i64 (ofKind z).H] 28))
  have hs1 : (w.alloc (.cells #[.int .i64 (ofKind z).K, .int .u64 (ofKind z).a, .int .u64 (ofKind z).b, .int .u64 (ofKind z).c, .int .u64 (ofKind z).d, .slice none 0 0, .int .i64 (ofKind z).L, .int .i64 (ofKind z).H] 28)).heap.size = w.heap.size + 1 := by simp
  have hs2 : ((w.alloc (.cells #[.int .i64 (ofKind z).K, .int .u64 (ofKind z).a, .int .u64 (ofKind z).b, .int .u64 (ofKind z).c, .int .u64 (ofKind z).d, .slice none 0 0, .int .i64 (ofKind z).L, .int .i64 (ofKind z).H] 28)).alloc (.cells #[.int .i64 0, .int .u64 0, .int .u64 0, .int .u64 0, .int .u64 0, .slice none 0 0, .int .i64 0, .int .i64 0] 28)).heap.size = w.heap.size + 2 := by simp
  rw [hs1] at hO
  have HC := Lib.hid (above_any K l a cap _ hmx hmy (hL.grow hb0))
  have HB0 := Lib.hid hb0; have HS2 := Lib.hid hs2; have HO := Lib.hid hO
  clear hb0 hs1 hs2 hO hL
  go_enter Tryd.func38, Tryd.ntmps38
  go_wp2_with fail
  refine HC.out.mono ?_
  rintro e w1 ⟨a1, c1, rfl, hL1, hb1⟩
  have hO := HO.out.below HO.out.lt hb1
  have hb2 := HB0.out.trans (hb1.mono HB0.out.size)
  rw [HS2.out, ← HB.out] at hL1
  rw [← HB.out] at hO
  have HO1 := Lib.hid hO; have HL1 := Lib.hid hL1; have HB2 := Lib.hid hb2
  obtain ⟨u0', e0⟩ := hO.cell (0) (by omega)
  obtain ⟨u1', e1⟩ := hO.cell (1) (by omega)
  obtain ⟨u2', e2⟩ := hO.cell (2) (by omega)
  obtain ⟨u3', e3⟩ := hO.cell (3) (by omega)
  obtain ⟨u4', e4⟩ := hO.cell (4) (by omega)
  obtain ⟨u5', e5⟩ := hO.cell (5) (by omega)
  obtain ⟨u6', e6⟩ := hO.cell (6) (by omega)
  obtain ⟨u7', e7⟩ := hO.cell (7) (by omega)
  have z0 := hO.frozen (0); have z1 := hO.frozen (1); have z2 := hO.frozen (2); have z3 := hO.frozen (3); have z4 := hO.frozen (4); have z5 := hO.frozen (5); have z6 := hO.frozen (6); have z7 := hO.frozen (7)
  clear hO hL1 hb1 HO HC HB0 HS2 hb2
  rw [← HB.out]
  go_wp2_with fail
  have hq := put8_node HO1.out 0 (by omega) (ofKind K) (.slice a1 l.length c1)
  exact bodyPost_ret (v := NV (ofKind K) (.slice a1 l.length c1)) (by simp [results, Tryd.results38, go_sem, hq.c0, hq.c1, hq.c2, hq.c3, hq.c4, hq.c5, hq.c6, hq.c7]) rfl ⟨_, _, rfl, (HL1.out.fresh (w' := w) (n := ofKind K) (by omega) (Nat.le_refl _)).mono (by rw [← HB.out]; omega) (Nat.le_refl _), below_put8 (n := ofKind K) HB2.out (by rw [HB.out]; omega) _ _⟩
/-- A tree was returned. -/
def IsTree (t : Tr) (w : World) (e : Ending) (w' : World) : Prop := IsCopy t.nd t.kids w e w'
theorem list_any (K z : Int) (l : List Tr) (a : Option Addr) (cap : Nat) (w : World) (hmx : l.length ≤ 2199023255552) (hmy : mxL l ≤ 2199023255552) (hL : Lies 0 w.heap.size w (.slice a l.length cap) l) :
    Calls Tryd.prog 38 #[.int .i64 K, NV (ofKind z) (.slice none 0 0), .slice a l.length cap] w (IsTree (listT K z l) w) := by
  match l with
  | [] => exact list0_any K z a cap w
  | [t] =>
    obtain ⟨n, k⟩ := t
    rw [mxL_cons, mxL_nil, mx] at hmy
    exact list1_any K z n k a cap w (by omega) (by omega) hL
  | t :: u :: r =>
    exact list2_any K z (t :: u :: r) a cap w (by simp) hmx hmy hL

set_option maxHeartbeats 1000000 in
theorem Cat_any (l : List Tr) (a : Option Addr) (cap : Nat) (w : World) (hmx : l.length ≤ 2199023255552) (hmy : mxL l ≤ 2199023255552) (hL : Lies 0 w.heap.size w (.slice a l.length cap) l) :
    Calls Tryd.prog 19 #[.slice a l.length cap] w (IsTree (listT 4 2 l) w) := by
  obtain ⟨B, hB⟩ : ∃ B, B = w.heap.size := ⟨_, rfl⟩
  have HB := Lib.hid hB; clear hB
  have hb0 := (Below.refl w.heap.size w).alloc (Nat.le_refl _) (.cells #[.int .i64 0, .int .u64 0, .int .u64 0, .int .u64 0, .int .u64 0, .slice none 0 0, .int .i64 0, .int .i64 0] 28)
  have hO := zero_new w
  have hs1 : (w.alloc (.cells #[.int .i64 0, .int .u64 0, .int .u64 0, .int .u64 0, .int .u64 0, .slice none 0 0, .int .i64 0, .int .i64 0] 28)).heap.size = w.heap.size + 1 := by simp
  have HE := Lib.hid (fun W => Empty_any W)
  have HC := Lib.hid (fun W h => list_any 4 2 l a cap W hmx hmy h)
  have HL0 := Lib.hid (hL.grow hb0)
  have HB0 := Lib.hid hb0; have HS1 := Lib.hid hs1; have HO := Lib.hid hO
  clear hb0 hs1 hO hL
  go_enter Tryd.func19, Tryd.ntmps19
  go_wp2_with fail
  refine (HE.out _).mono ?_
  rintro e w0 ⟨rfl, hb1⟩
  go_wp2_with fail
  refine (HC.out _ (HL0.out.grow hb1)).mono ?_
  rintro e w1 ⟨a1, c1, rfl, hL1, hb2⟩
  have hO := (HO.out.below HO.out.lt hb1).below (HO.out.below HO.out.lt hb1).lt hb2
  have hb3 := HB0.out.trans ((hb1.trans (hb2.mono hb1.size)).mono HB0.out.size)
  have hlo : w.heap.size + 1 ≤ w0.heap.size := by have := hb1.size; rw [HS1.out] at this; exact this
  have hL2 := hL1.mono hlo (Nat.le_refl _)
  rw [← HB.out] at hO hL2
  have HO1 := Lib.hid hO; have HL1 := Lib.hid hL2; have HB2 := Lib.hid hb3
  obtain ⟨u0', e0⟩ := hO.cell (0) (by omega)
  obtain ⟨u1', e1⟩ := hO.cell (1) (by omega)
  obtain ⟨u2', e2⟩ := hO.cell (2) (by omega)
  obtain ⟨u3', e3⟩ := hO.cell (3) (by omega)
  obtain ⟨u4', e4⟩ := hO.cell (4) (by omega)
  obtain ⟨u5', e5⟩ := hO.cell (5) (by omega)
  obtain ⟨u6', e6⟩ := hO.cell (6) (by omega)
  obtain ⟨u7', e7⟩ := hO.cell (7) (by omega)
  have z0 := hO.frozen (0); have z1 := hO.frozen (1); have z2 := hO.frozen (2); have z3 := hO.frozen (3); have z4 := hO.frozen (4); have z5 := hO.frozen (5); have z6 := hO.frozen (6); have z7 := hO.frozen (7)
  clear hO hL1 hL2 hb1 hb2 hb3 HO HC HB0 HS1 HE HL0 hlo
  rw [← HB.out]
  generalize listT 4 2 l = t at *
  go_wp2_with fail
  have hq := put8_node HO1.out 0 (by omega) t.nd (.slice a1 t.kids.length c1)
  exact bodyPost_ret (v := NV t.nd (.slice a1 t.kids.length c1)) (by simp [results, Tryd.results19, go_sem, hq.c0, hq.c1, hq.c2, hq.c3, hq.c4, hq.c5, hq.c6, hq.c7]) rfl ⟨_, _, rfl, (HL1.out.fresh (w' := w) (n := t.nd) (by omega) (Nat.le_refl _)).mono (by rw [← HB.out]; exact Nat.le_refl _) (Nat.le_refl _), below_put8 (n := t.nd) HB2.out (by rw [HB.out]; exact Nat.le_refl _) _ _⟩

set_option maxHeartbeats 1000000 in
theorem Alt_any (l : List Tr) (a : Option Addr) (cap : Nat) (w : World) (hmx : l.length ≤ 2199023255552) (hmy : mxL l ≤ 2199023255552) (hL : Lies 0 w.heap.size w (.slice a l.length cap) l) :
    Calls Tryd.prog 21 #[.slice a l.length cap] w (IsTree (listT 5 1 l) w) := by
  obtain ⟨B, hB⟩ : ∃ B, B = w.heap.size := ⟨_, rfl⟩
  have HB := Lib.hid hB; clear hB
  have hb0 := (Below.refl w.heap.size w).alloc (Nat.le_refl _) (.cells #[.int .i64 0, .int .u64 0, .int .u64 0, .int .u64 0, .int .u64 0, .slice none 0 0, .int .i64 0, .int .i64 0] 28)
  have hO := zero_new w
  have hs1 : (w.alloc (.cells #[.int .i64 0, .int .u64 0, .int .u64 0, .int .u64 0, .int .u64 0, .slice none 0 0, .int .i64 0, .int .i64 0] 28)).heap.size = w.heap.size + 1 := by simp
  have HE := Lib.hid (fun W => None_any W)
  have HC := Lib.hid (fun W h => list_any 5 1 l a cap W hmx hmy h)
  have HL0 := Lib.hid (hL.grow hb0)
  have HB0 := Lib.hid hb0; have HS1 := Lib.hid hs1; have HO := Lib.hid hO
  clear hb0 hs1 hO hL
  go_enter Tryd.func21, Tryd.ntmps21
  go_wp2_with fail
  refine (HE.out _).mono ?_
  rintro e w0 ⟨rfl, hb1⟩
  go_wp2_with fail
  refine (HC.out _ (HL0.out.grow hb1)).mono ?_
  rintro e w1 ⟨a1, c1, rfl, hL1, hb2⟩
  have hO := (HO.out.below HO.out.lt hb1).below (HO.out.below HO.out.lt hb1).lt hb2
  have hb3 := HB0.out.trans ((hb1.trans (hb2.mono hb1.size)).mono HB0.out.size)
  have hlo : w.heap.size + 1 ≤ w0.heap.size := by have := hb1.size; rw [HS1.out] at this; exact this
  have hL2 := hL1.mono hlo (Nat.le_refl _)
  rw [← HB.out] at hO hL2
  have HO1 := Lib.hid hO; have HL1 := Lib.hid hL2; have HB2 := Lib.hid hb3
  obtain ⟨u0', e0⟩ := hO.cell (0) (by omega)
  obtain ⟨u1', e1⟩ := hO.cell (1) (by omega)
  obtain ⟨u2', e2⟩ := hO.cell (2) (by omega)
  obtain ⟨u3', e3⟩ := hO.cell (3) (by omega)
  obtain ⟨u4', e4⟩ := hO.cell (4) (by omega)
  obtain ⟨u5', e5⟩ := hO.cell (5) (by omega)
  obtain ⟨u6', e6⟩ := hO.cell (6) (by omega)
  obtain ⟨u7', e7⟩ := hO.cell (7) (by omega)
  have z0 := hO.frozen (0); have z1 := hO.frozen (1); have z2 := hO.frozen (2); have z3 := hO.frozen (3); have z4 := hO.frozen (4); have z5 := hO.frozen (5); have z6 := hO.frozen (6); have z7 := hO.frozen (7)
  clear hO hL1 hL2 hb1 hb2 hb3 HO HC HB0 HS1 HE HL0 hlo
  rw [← HB.out]
  generalize listT 5 1 l = t at *
  go_wp2_with fail
  have hq := put8_node HO1.out 0 (by omega) t.nd (.slice a1 t.kids.length c1)
  exact bodyPost_ret (v := NV t.nd (.slice a1 t.kids.length c1)) (by simp [results, Tryd.results21, go_sem, hq.c0, hq.c1, hq.c2, hq.c3, hq.c4, hq.c5, hq.c6, hq.c7]) rfl ⟨_, _, rfl, (HL1.out.fresh (w' := w) (n := t.nd) (by omega) (Nat.le_refl _)).mono (by rw [← HB.out]; exact Nat.le_refl _) (Nat.le_refl _), below_put8 (n := t.nd) HB2.out (by rw [HB.out]; exact Nat.le_refl _) _ _⟩

set_option maxHeartbeats 1000000 in
theorem Rep_any (n : Nd) (l : List Tr) (a : Option Addr) (cap : Nat) (lo hi : Int) (w : World) (hmx : l.length ≤ 2199023255552) (hmy : mxL l ≤ 2199023255552) (hL : Lies 0 w.heap.size w (.slice a l.length cap) l) :
    Calls Tryd.prog 28 #[NV n (.slice a l.length cap), .int .i64 lo, .int .i64 hi] w (IsCopy ⟨9, 0, 0, 0, 0, lo, hi⟩ [.mk n l] w) := by
  obtain ⟨B, hB⟩ : ∃ B, B = w.heap.size := ⟨_, rfl⟩
  have HB := Lib.hid hB; clear hB
  have hb0 := (((Below.refl w.heap.size w).alloc (Nat.le_refl _) (.cells #[.int .i64 n.K, .int .u64 n.a, .int .u64 n.b, .int .u64 n.c, .int .u64 n.d, .slice a l.length cap, .int .i64 n.L, .int .i64 n.H] 28)).alloc (by simp) (.cells #[.int .i64 0, .int .u64 0, .int .u64 0, .int .u64 0, .int .u64 0, .slice none 0 0, .int .i64 0, .int .i64 0] 28)).alloc (by simp; omega) (.cells #[.int .i64 n.K, .int .u64 n.a, .int .u64 n.b, .int .u64 n.c, .int .u64 n.d, .slice a l.length cap, .int .i64 n.L, .int .i64 n.H] 28)
  have hO := (zero_new (w.alloc (.cells #[.int .i64 n.K, .int .u64 n.a, .int .u64 n.b, .int .u64 n.c, .int .u64 n.d, .slice a l.length cap, .int .i64 n.L, .int .i64 n.H] 28))).below (by simp) ((Below.refl _ _).alloc (Nat.le_refl _) (.cells #[.int .i64 n.K, .int .u64 n.a, .int .u64 n.b, .int .u64 n.c, .int .u64 n.d, .slice a l.length cap, .int .i64 n.L, .int .i64 n.H] 28))
  have hX := NodeAt.new ((w.alloc (.cells #[.int .i64 n.K, .int .u64 n.a, .int .u64 n.b, .int .u64 n.c, .int .u64 n.d, .slice a l.length cap, .int .i64 n.L, .int .i64 n.H] 28)).alloc (.cells #[.int .i64 0, .int .u64 0, .int .u64 0, .int .u64 0, .int .u64 0, .slice none 0 0, .int .i64 0, .int .i64 0] 28)) n (.slice a l.length cap) 28
  have hL1 := hL.grow hb0
  have hs1 : (w.alloc (.cells #[.int .i64 n.K, .int .u64 n.a, .int .u64 n.b, .int .u64 n.c, .int .u64 n.d, .slice a l.length cap, .int .i64 n.L, .int .i64 n.H] 28)).heap.size = w.heap.size + 1 := by simp
  have hs2 : ((w.alloc (.cells #[.int .i64 n.K, .int .u64 n.a, .int .u64 n.b, .int .u64 n.c, .int .u64 n.d, .slice a l.length cap, .int .i64 n.L, .int .i64 n.H] 28)).alloc (.cells #[.int .i64 0, .int .u64 0, .int .u64 0, .int .u64 0, .int .u64 0, .slice none 0 0, .int .i64 0, .int .i64 0] 28)).heap.size = w.heap.size + 2 := by simp
  have hs3 : (((w.alloc (.cells #[.int .i64 n.K, .int .u64 n.a, .int .u64 n.b, .int .u64 n.c, .int .u64 n.d, .slice a l.length cap, .int .i64 n.L, .int .i64 n.H] 28)).alloc (.cells #[.int .i64 0, .int .u64 0, .int .u64 0, .int .u64 0, .int .u64 0, .slice none 0 0, .int .i64 0, .int .i64 0] 28)).alloc (.cells #[.int .i64 n.K, .int .u64 n.a, .int .u64 n.b, .int .u64 n.c, .int .u64 n.d, .slice a l.length cap, .int .i64 n.L, .int .i64 n.H] 28)).heap.size = w.heap.size + 3 := by simp
  rw [hs1] at hO
  rw [hs2] at hX
  have HC := Lib.hid (above_any 9 [.mk n l] _ 1 _ (by simp) (by rw [mxL_cons, mxL_nil, mx]; omega) (LiesS.one hL1 hX ⟨by omega, by omega⟩))
  have HB0 := Lib.hid hb0; have HS3 := Lib.hid hs3; have HO := Lib.hid hO
  clear hb0 hs1 hs2 hs3 hO hX hL1 hL
  go_enter Tryd.func28, Tryd.ntmps28
  go_wp2_with fail
  refine HC.out.mono ?_
  rintro e w1 ⟨a1, c1, rfl, hL1, hb1⟩
  have hO := HO.out.below HO.out.lt hb1
  have hb2 := HB0.out.trans (hb1.mono HB0.out.size)
  rw [HS3.out, ← HB.out] at hL1
  rw [← HB.out] at hO
  simp only [List.length_cons, List.length_nil, Nat.zero_add] at *
  have HO1 := Lib.hid hO; have HL1 := Lib.hid hL1; have HB2 := Lib.hid hb2
  have hsz : B + 3 ≤ w1.heap.size := by have := hb1.size; rw [HS3.out, ← HB.out] at this; exact this
  have hbx := (Below.refl w1.heap.size w1).alloc (Nat.le_refl _) (.cells #[.int .i64 (ofKind 9).K, .int .u64 (ofKind 9).a, .int .u64 (ofKind 9).b, .int .u64 (ofKind 9).c, .int .u64 (ofKind 9).d, .slice a1 1 c1, .int .i64 lo, .int .i64 hi] 28)
  have hO2 := hO.below hO.lt hbx
  have HO2 := Lib.hid hO2
  have hL3 := HL1.out.grow hbx
  have HL3 := Lib.hid hL3
  have HB3 := Lib.hid (hb2.trans (hbx.mono hb2.size))
  obtain ⟨u0', e0⟩ := hO2.cell (0) (by omega)
  obtain ⟨u1', e1⟩ := hO2.cell (1) (by omega)
  obtain ⟨u2', e2⟩ := hO2.cell (2) (by omega)
  obtain ⟨u3', e3⟩ := hO2.cell (3) (by omega)
  obtain ⟨u4', e4⟩ := hO2.cell (4) (by omega)
  obtain ⟨u5', e5⟩ := hO2.cell (5) (by omega)
  obtain ⟨u6', e6⟩ := hO2.cell (6) (by omega)
  obtain ⟨u7', e7⟩ := hO2.cell (7) (by omega)
  have z0 := hO2.frozen (0); have z1 := hO2.frozen (1); have z2 := hO2.frozen (2); have z3 := hO2.frozen (3); have z4 := hO2.frozen (4); have z5 := hO2.frozen (5); have z6 := hO2.frozen (6); have z7 := hO2.frozen (7)
  clear hO hL1 hb1 HO HC HB0 HS3 hb2 hO2 hbx hL3
  rw [← HB.out]
  go_wp2_with fail
  have hq := put8_node HO2.out 0 (by omega) ⟨(ofKind 9).K, (ofKind 9).a, (ofKind 9).b, (ofKind 9).c, (ofKind 9).d, lo, hi⟩ (.slice a1 1 c1)
  exact bodyPost_ret (v := NV ⟨(ofKind 9).K, (ofKind 9).a, (ofKind 9).b, (ofKind 9).c, (ofKind 9).d, lo, hi⟩ (.slice a1 1 c1)) (by simp [results, Tryd.results28, go_sem, hq.c0, hq.c1, hq.c2, hq.c3, hq.c4, hq.c5, hq.c6, hq.c7]) rfl ⟨_, _, rfl, (HL3.out.fresh (R := B + 1) (w' := w) (n := ⟨(ofKind 9).K, (ofKind 9).a, (ofKind 9).b, (ofKind 9).c, (ofKind 9).d, lo, hi⟩) (by omega) (Nat.le_refl _)).mono (by rw [← HB.out]; omega) (Nat.le_refl _), below_put8 (n := ⟨(ofKind 9).K, (ofKind 9).a, (ofKind 9).b, (ofKind 9).c, (ofKind 9).d, lo, hi⟩) HB3.out (by rw [HB.out]; omega) _ _⟩
end Go.Proofs.YtogdjgfgmdphgaaDoor.TreeW
