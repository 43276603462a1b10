/- Walks: Many, Cat, Alt, Rep, by the document. -/
import Derived.Test.YtogdjgfgmdphgaaDoorRefMake
import Derived.Test.YtogdjgfgmdphgaaDoorMake2
namespace Go.Proofs.YtogdjgfgmdphgaaDoor.TreeW
set_option linter.unusedVariables false
open Go.RowKit Go.Proofs.YtogdjgfgmdphgaaDoor.TreeM

theorem RMany0_any (K z : Int) (a : Option Addr) (cap : Nat) (w : World) (S : Nat → Prop) :
    Calls Tryd.prog 39 #[.int .i64 K, .int .i64 z, .slice a 0 cap] w (MadeS S (ofKind z) [] w) := by
  go_enter Tryd.func39, Tryd.ntmps39
  go_wp2_with fail
  exact bodyPost_ret (v := NV (ofKind z) (.slice none 0 0)) (by simp [results, Tryd.results39, go_sem, ofKind]) rfl ⟨none, 0, rfl, .nil _ _ (fun _ => rfl), (Below.refl _ _).alloc (Nat.le_refl _) _⟩
theorem RMany1_any (K z : Int) (n : Nd) (l : List Tr) (a : Option Addr) (cap : Nat) (w : World) (S : Nat → Prop) (hS : ∀ b, S b → b < w.heap.size) (hL : LiesS S w (.slice a 1 cap) [.mk n l]) :
    Calls Tryd.prog 39 #[.int .i64 K, .int .i64 z, .slice a 1 cap] w (MadeS S n l w) := by
  obtain ⟨b, o, a', cap', rfl, -, h1, h2, h3, hA, hK⟩ := hL.at 0 (by simp)
  simp only [List.getElem_cons_zero, Tr.nd, Tr.kids, Nat.zero_mul, Nat.add_zero] at hA hK
  have hb0 := (Below.refl w.heap.size w).alloc (Nat.le_refl _) (.cells #[.int .i64 0, .int .u64 0, .int .u64 0, .int .u64 0, .int .u64 0, .slice none 0 0, .int .i64 0, .int .i64 0] 28)
  have hA2 := hA.below (hS b h3) hb0
  have d0 := hA2.c0; have d1 := hA2.c1; have d2 := hA2.c2; have d3 := hA2.c3; have d4 := hA2.c4; have d5 := hA2.c5; have d6 := hA2.c6; have d7 := hA2.c7
  have hfin : LiesS (fun b => S b ∨ (w.heap.size < b ∧ b < (w.alloc (.cells #[.int .i64 n.K, .int .u64 n.a, .int .u64 n.b, .int .u64 n.c, .int .u64 n.d, (.slice a' l.length cap'), .int .i64 n.L, .int .i64 n.H] 28)).heap.size)) (w.alloc (.cells #[.int .i64 n.K, .int .u64 n.a, .int .u64 n.b, .int .u64 n.c, .int .u64 n.d, (.slice a' l.length cap'), .int .i64 n.L, .int .i64 n.H] 28)) (.slice a' l.length cap') l :=
    hK.keep (fun _ h => Or.inl h) fun b p h => ((Below.refl w.heap.size w).alloc (Nat.le_refl _) _).cell (p := ⟨b, p, none⟩) (hS b h)
  have HFIN := Lib.hid hfin
  clear hfin hA hK hL hA2 hb0
  go_enter Tryd.func39, Tryd.ntmps39
  go_wp2_with fail
  exact bodyPost_ret (v := NV n (.slice a' l.length cap')) (by simp [results, Tryd.results39, go_sem]) rfl ⟨_, _, rfl, HFIN.out, (Below.refl _ _).alloc (Nat.le_refl _) _⟩

set_option maxHeartbeats 2000000 in
theorem RMany2_any (K z : Int) (l : List Tr) (a : Option Addr) (cap : Nat) (w : World) (S : Nat → Prop) (hS : ∀ b, S b → b < w.heap.size) (h2l : 2 ≤ l.length) (hmx : l.length ≤ 1048576) (hL : LiesS S w (.slice a l.length cap) l) :
    Calls Tryd.prog 39 #[.int .i64 K, .int .i64 z, .slice a l.length cap] w (MadeS S (ofKind K) l w) := by
  obtain ⟨B, hB⟩ : ∃ B, B = w.heap.size := ⟨_, rfl⟩
  have HB := Lib.hid hB; clear hB
  have t0 : ((l.length : Int) == 0) = false := by simp; intro h; rw [h] at h2l; simp at h2l
  have t1 : ((l.length : Int) == 1) = false := by simp; omega
  have hb0 := (Below.refl w.heap.size w).alloc (Nat.le_refl _) (.cells #[.int .i64 0, .int .u64 0, .int .u64 0, .int .u64 0, .int .u64 0, .slice none 0 0, .int .i64 0, .int .i64 0] 28)
  have hO := zero_new w
  have hs1 : (w.alloc (.cells #[.int .i64 0, .int .u64 0, .int .u64 0, .int .u64 0, .int .u64 0, .slice none 0 0, .int .i64 0, .int .i64 0] 28)).heap.size = w.heap.size + 1 := by simp
  have hL1 : LiesS S (w.alloc (.cells #[.int .i64 0, .int .u64 0, .int .u64 0, .int .u64 0, .int .u64 0, .slice none 0 0, .int .i64 0, .int .i64 0] 28)) (.slice a l.length cap) l := hL.keep (fun _ h => h) fun b p h => hb0.cell (p := ⟨b, p, none⟩) (hS b h)
  have HC := Lib.hid (ROf_any K l a cap _ S (fun b h => by have := hS b h; omega) hmx hL1)
  have HB0 := Lib.hid hb0; have HS1 := Lib.hid hs1; have HO := Lib.hid hO; have HS := Lib.hid hS
  clear hb0 hs1 hO hL hL1 hS
  go_enter Tryd.func39, Tryd.ntmps39
  go_wp2_with fail
  refine HC.out.mono ?_
  rintro e w1 ⟨a1, c1, rfl, hL1, hb1⟩
  have hO := HO.out.below HO.out.lt hb1
  have hb2 := HB0.out.trans (hb1.mono HB0.out.size)
  rw [HS1.out] at hL1
  have HO1 := Lib.hid hO; have HL1 := Lib.hid hL1; have HB2 := Lib.hid hb2
  obtain ⟨u0', e0⟩ := hO.cell (0) (by omega)
  obtain ⟨u1', e1⟩ := hO.cell (1) (by omega)
  obtain ⟨u2', e2⟩ := hO.cell (2) (by omega)
  obtain ⟨u3', e3⟩ := hO.cell (3) (by omega)
  obtain ⟨u4', e4⟩ := hO.cell (4) (by omega)
  obtain ⟨u5', e5⟩ := hO.cell (5) (by omega)
  obtain ⟨u6', e6⟩ := hO.cell (6) (by omega)
  obtain ⟨u7', e7⟩ := hO.cell (7) (by omega)
  have z0 := hO.frozen (0); have z1 := hO.frozen (1); have z2 := hO.frozen (2); have z3 := hO.frozen (3); have z4 := hO.frozen (4); have z5 := hO.frozen (5); have z6 := hO.frozen (6); have z7 := hO.frozen (7)
  clear hO hL1 hb1 HO HC HB0 HS1 hb2
  generalize hnd : (ofKind K) = nd at *
  generalize l = kd at *
  go_wp2_with fail
  obtain ⟨q0, q1, q2, q3, q4, q5, q6, q7⟩ := put8_parts HO1.out (Nat.le_refl _) nd (.slice a1 kd.length c1)
  refine bodyPost_ret (v := NV nd (.slice a1 kd.length c1)) (by simp [results, Tryd.results39, go_sem, q0, q1, q2, q3, q4, q5, q6, q7]) rfl ⟨_, _, rfl, ?_, ?_⟩
  · refine (HL1.out.off (g := w.heap.size) (fun h => ?_) 0 nd (.slice a1 kd.length c1)).mono fun b hb => ?_
    · rcases h with h | h
      · have := HS.out _ h; omega
      · omega
    · show S b ∨ (w.heap.size < b ∧ b < (put8 w1 w.heap.size 0 nd (.slice a1 kd.length c1)).heap.size)
      rw [size_put8]
      rcases hb with hb | hb
      · exact .inl hb
      · exact .inr ⟨by omega, hb.2⟩
  · exact below_put8 (g := w.heap.size) HB2.out (Nat.le_refl _) 0 nd (.slice a1 kd.length c1)

theorem RMany_any (K z : Int) (l : List Tr) (a : Option Addr) (cap : Nat) (w : World) (S : Nat → Prop) (hS : ∀ b, S b → b < w.heap.size) (hmx : l.length ≤ 1048576) (hL : LiesS S w (.slice a l.length cap) l) :
    Calls Tryd.prog 39 #[.int .i64 K, .int .i64 z, .slice a l.length cap] w (MadeS S (listT K z l).nd (listT K z l).kids w) := by
  match l with
  | [] => exact RMany0_any K z a cap w S
  | [t] =>
    obtain ⟨n, k⟩ := t
    exact RMany1_any K z n k a cap w S hS hL
  | t :: u :: r => exact RMany2_any K z (t :: u :: r) a cap w S hS (by simp) hmx hL

set_option maxHeartbeats 2000000 in
theorem RCat_any  (l : List Tr) (a : Option Addr) (cap : Nat) (w : World) (S : Nat → Prop) (hS : ∀ b, S b → b < w.heap.size) (hmx : l.length ≤ 1048576) (hL : LiesS S w (.slice a l.length cap) l) :
    Calls Tryd.prog 20 #[.slice a l.length cap] w (MadeS S (listT 4 2 l).nd (listT 4 2 l).kids w) := by
  obtain ⟨B, hB⟩ : ∃ B, B = w.heap.size := ⟨_, rfl⟩
  have HB := Lib.hid hB; clear hB
  have hb0 := (Below.refl w.heap.size w).alloc (Nat.le_refl _) (.cells #[.int .i64 0, .int .u64 0, .int .u64 0, .int .u64 0, .int .u64 0, .slice none 0 0, .int .i64 0, .int .i64 0] 28)
  have hO := zero_new w
  have hs1 : (w.alloc (.cells #[.int .i64 0, .int .u64 0, .int .u64 0, .int .u64 0, .int .u64 0, .slice none 0 0, .int .i64 0, .int .i64 0] 28)).heap.size = w.heap.size + 1 := by simp
  have hL1 : LiesS S (w.alloc (.cells #[.int .i64 0, .int .u64 0, .int .u64 0, .int .u64 0, .int .u64 0, .slice none 0 0, .int .i64 0, .int .i64 0] 28)) (.slice a l.length cap) l := hL.keep (fun _ h => h) fun b p h => hb0.cell (p := ⟨b, p, none⟩) (hS b h)
  have HC := Lib.hid (RMany_any 4 2 l a cap _ S (fun b h => by have := hS b h; omega) hmx hL1)
  have HB0 := Lib.hid hb0; have HS1 := Lib.hid hs1; have HO := Lib.hid hO; have HS := Lib.hid hS
  clear hb0 hs1 hO hL hL1 hS
  go_enter Tryd.func20, Tryd.ntmps20
  go_wp2_with fail
  refine HC.out.mono ?_
  rintro e w1 ⟨a1, c1, rfl, hL1, hb1⟩
  have hO := HO.out.below HO.out.lt hb1
  have hb2 := HB0.out.trans (hb1.mono HB0.out.size)
  rw [HS1.out] at hL1
  have HO1 := Lib.hid hO; have HL1 := Lib.hid hL1; have HB2 := Lib.hid hb2
  obtain ⟨u0', e0⟩ := hO.cell (0) (by omega)
  obtain ⟨u1', e1⟩ := hO.cell (1) (by omega)
  obtain ⟨u2', e2⟩ := hO.cell (2) (by omega)
  obtain ⟨u3', e3⟩ := hO.cell (3) (by omega)
  obtain ⟨u4', e4⟩ := hO.cell (4) (by omega)
  obtain ⟨u5', e5⟩ := hO.cell (5) (by omega)
  obtain ⟨u6', e6⟩ := hO.cell (6) (by omega)
  obtain ⟨u7', e7⟩ := hO.cell (7) (by omega)
  have z0 := hO.frozen (0); have z1 := hO.frozen (1); have z2 := hO.frozen (2); have z3 := hO.frozen (3); have z4 := hO.frozen (4); have z5 := hO.frozen (5); have z6 := hO.frozen (6); have z7 := hO.frozen (7)
  clear hO hL1 hb1 HO HC HB0 HS1 hb2
  generalize hnd : (listT 4 2 l).nd = nd at *
  generalize (listT 4 2 l).kids = kd at *
  go_wp2_with fail
  obtain ⟨q0, q1, q2, q3, q4, q5, q6, q7⟩ := put8_parts HO1.out (Nat.le_refl _) nd (.slice a1 kd.length c1)
  refine bodyPost_ret (v := NV nd (.slice a1 kd.length c1)) (by simp [results, Tryd.results20, go_sem, q0, q1, q2, q3, q4, q5, q6, q7]) rfl ⟨_, _, rfl, ?_, ?_⟩
  · refine (HL1.out.off (g := w.heap.size) (fun h => ?_) 0 nd (.slice a1 kd.length c1)).mono fun b hb => ?_
    · rcases h with h | h
      · have := HS.out _ h; omega
      · omega
    · show S b ∨ (w.heap.size < b ∧ b < (put8 w1 w.heap.size 0 nd (.slice a1 kd.length c1)).heap.size)
      rw [size_put8]
      rcases hb with hb | hb
      · exact .inl hb
      · exact .inr ⟨by omega, hb.2⟩
  · exact below_put8 (g := w.heap.size) HB2.out (Nat.le_refl _) 0 nd (.slice a1 kd.length c1)

set_option maxHeartbeats 2000000 in
theorem RAlt_any  (l : List Tr) (a : Option Addr) (cap : Nat) (w : World) (S : Nat → Prop) (hS : ∀ b, S b → b < w.heap.size) (hmx : l.length ≤ 1048576) (hL : LiesS S w (.slice a l.length cap) l) :
    Calls Tryd.prog 22 #[.slice a l.length cap] w (MadeS S (listT 5 1 l).nd (listT 5 1 l).kids w) := by
  obtain ⟨B, hB⟩ : ∃ B, B = w.heap.size := ⟨_, rfl⟩
  have HB := Lib.hid hB; clear hB
  have hb0 := (Below.refl w.heap.size w).alloc (Nat.le_refl _) (.cells #[.int .i64 0, .int .u64 0, .int .u64 0, .int .u64 0, .int .u64 0, .slice none 0 0, .int .i64 0, .int .i64 0] 28)
  have hO := zero_new w
  have hs1 : (w.alloc (.cells #[.int .i64 0, .int .u64 0, .int .u64 0, .int .u64 0, .int .u64 0, .slice none 0 0, .int .i64 0, .int .i64 0] 28)).heap.size = w.heap.size + 1 := by simp
  have hL1 : LiesS S (w.alloc (.cells #[.int .i64 0, .int .u64 0, .int .u64 0, .int .u64 0, .int .u64 0, .slice none 0 0, .int .i64 0, .int .i64 0] 28)) (.slice a l.length cap) l := hL.keep (fun _ h => h) fun b p h => hb0.cell (p := ⟨b, p, none⟩) (hS b h)
  have HC := Lib.hid (RMany_any 5 1 l a cap _ S (fun b h => by have := hS b h; omega) hmx hL1)
  have HB0 := Lib.hid hb0; have HS1 := Lib.hid hs1; have HO := Lib.hid hO; have HS := Lib.hid hS
  clear hb0 hs1 hO hL hL1 hS
  go_enter Tryd.func22, Tryd.ntmps22
  go_wp2_with fail
  refine HC.out.mono ?_
  rintro e w1 ⟨a1, c1, rfl, hL1, hb1⟩
  have hO := HO.out.below HO.out.lt hb1
  have hb2 := HB0.out.trans (hb1.mono HB0.out.size)
  rw [HS1.out] at hL1
  have HO1 := Lib.hid hO; have HL1 := Lib.hid hL1; have HB2 := Lib.hid hb2
  obtain ⟨u0', e0⟩ := hO.cell (0) (by omega)
  obtain ⟨u1', e1⟩ := hO.cell (1) (by omega)
  obtain ⟨u2', e2⟩ := hO.cell (2) (by omega)
  obtain ⟨u3', e3⟩ := hO.cell (3) (by omega)
  obtain ⟨u4', e4⟩ := hO.cell (4) (by omega)
  obtain ⟨u5', e5⟩ := hO.cell (5) (by omega)
  obtain ⟨u6', e6⟩ := hO.cell (6) (by omega)
  obtain ⟨u7', e7⟩ := hO.cell (7) (by omega)
  have z0 := hO.frozen (0); have z1 := hO.frozen (1); have z2 := hO.frozen (2); have z3 := hO.frozen (3); have z4 := hO.frozen (4); have z5 := hO.frozen (5); have z6 := hO.frozen (6); have z7 := hO.frozen (7)
  clear hO hL1 hb1 HO HC HB0 HS1 hb2
  generalize hnd : (listT 5 1 l).nd = nd at *
  generalize (listT 5 1 l).kids = kd at *
  go_wp2_with fail
  obtain ⟨q0, q1, q2, q3, q4, q5, q6, q7⟩ := put8_parts HO1.out (Nat.le_refl _) nd (.slice a1 kd.length c1)
  refine bodyPost_ret (v := NV nd (.slice a1 kd.length c1)) (by simp [results, Tryd.results22, go_sem, q0, q1, q2, q3, q4, q5, q6, q7]) rfl ⟨_, _, rfl, ?_, ?_⟩
  · refine (HL1.out.off (g := w.heap.size) (fun h => ?_) 0 nd (.slice a1 kd.length c1)).mono fun b hb => ?_
    · rcases h with h | h
      · have := HS.out _ h; omega
      · omega
    · show S b ∨ (w.heap.size < b ∧ b < (put8 w1 w.heap.size 0 nd (.slice a1 kd.length c1)).heap.size)
      rw [size_put8]
      rcases hb with hb | hb
      · exact .inl hb
      · exact .inr ⟨by omega, hb.2⟩
  · exact below_put8 (g := w.heap.size) HB2.out (Nat.le_refl _) 0 nd (.slice a1 kd.length c1)

set_option maxHeartbeats 2000000 in
theorem RRep_any (n : Nd) (l : List Tr) (a : Option Addr) (cap : Nat) (lo hi : Int) (w : World) (hL : Lies 0 w.heap.size w (.slice a l.length cap) l) :
    Calls Tryd.prog 29 #[NV n (.slice a l.length cap), .int .i64 lo, .int .i64 hi] w (Made ⟨9, 0, 0, 0, 0, lo, hi⟩ [.mk n l] w) := by
  obtain ⟨B, hB⟩ : ∃ B, B = w.heap.size := ⟨_, rfl⟩
  have HB := Lib.hid hB; clear hB
  have hb0 := (((Below.refl w.heap.size w).alloc (Nat.le_refl _) (.cells #[.int .i64 n.K, .int .u64 n.a, .int .u64 n.b, .int .u64 n.c, .int .u64 n.d, .slice a l.length cap, .int .i64 n.L, .int .i64 n.H] 28)).alloc (by simp) (.cells #[.int .i64 0, .int .u64 0, .int .u64 0, .int .u64 0, .int .u64 0, .slice none 0 0, .int .i64 0, .int .i64 0] 28)).alloc (by simp; omega) (.cells #[.int .i64 n.K, .int .u64 n.a, .int .u64 n.b, .int .u64 n.c, .int .u64 n.d, .slice a l.length cap, .int .i64 n.L, .int .i64 n.H] 28)
  have hO := (zero_new (w.alloc (.cells #[.int .i64 n.K, .int .u64 n.a, .int .u64 n.b, .int .u64 n.c, .int .u64 n.d, .slice a l.length cap, .int .i64 n.L, .int .i64 n.H] 28))).below (by simp) ((Below.refl _ _).alloc (Nat.le_refl _) (.cells #[.int .i64 n.K, .int .u64 n.a, .int .u64 n.b, .int .u64 n.c, .int .u64 n.d, .slice a l.length cap, .int .i64 n.L, .int .i64 n.H] 28))
  have hX := NodeAt.new ((w.alloc (.cells #[.int .i64 n.K, .int .u64 n.a, .int .u64 n.b, .int .u64 n.c, .int .u64 n.d, .slice a l.length cap, .int .i64 n.L, .int .i64 n.H] 28)).alloc (.cells #[.int .i64 0, .int .u64 0, .int .u64 0, .int .u64 0, .int .u64 0, .slice none 0 0, .int .i64 0, .int .i64 0] 28)) n (.slice a l.length cap) 28
  have hs1 : (w.alloc (.cells #[.int .i64 n.K, .int .u64 n.a, .int .u64 n.b, .int .u64 n.c, .int .u64 n.d, .slice a l.length cap, .int .i64 n.L, .int .i64 n.H] 28)).heap.size = w.heap.size + 1 := by simp
  have hs2 : ((w.alloc (.cells #[.int .i64 n.K, .int .u64 n.a, .int .u64 n.b, .int .u64 n.c, .int .u64 n.d, .slice a l.length cap, .int .i64 n.L, .int .i64 n.H] 28)).alloc (.cells #[.int .i64 0, .int .u64 0, .int .u64 0, .int .u64 0, .int .u64 0, .slice none 0 0, .int .i64 0, .int .i64 0] 28)).heap.size = w.heap.size + 2 := by simp
  have hs3 : (((w.alloc (.cells #[.int .i64 n.K, .int .u64 n.a, .int .u64 n.b, .int .u64 n.c, .int .u64 n.d, .slice a l.length cap, .int .i64 n.L, .int .i64 n.H] 28)).alloc (.cells #[.int .i64 0, .int .u64 0, .int .u64 0, .int .u64 0, .int .u64 0, .slice none 0 0, .int .i64 0, .int .i64 0] 28)).alloc (.cells #[.int .i64 n.K, .int .u64 n.a, .int .u64 n.b, .int .u64 n.c, .int .u64 n.d, .slice a l.length cap, .int .i64 n.L, .int .i64 n.H] 28)).heap.size = w.heap.size + 3 := by simp
  rw [hs1] at hO
  rw [hs2] at hX
  have hL1 : LiesS (fun b => b < w.heap.size ∨ b = w.heap.size + 2) (((w.alloc (.cells #[.int .i64 n.K, .int .u64 n.a, .int .u64 n.b, .int .u64 n.c, .int .u64 n.d, .slice a l.length cap, .int .i64 n.L, .int .i64 n.H] 28)).alloc (.cells #[.int .i64 0, .int .u64 0, .int .u64 0, .int .u64 0, .int .u64 0, .slice none 0 0, .int .i64 0, .int .i64 0] 28)).alloc (.cells #[.int .i64 n.K, .int .u64 n.a, .int .u64 n.b, .int .u64 n.c, .int .u64 n.d, .slice a l.length cap, .int .i64 n.L, .int .i64 n.H] 28)) (.slice a l.length cap) l :=
    LiesS.mono (hL.under hb0) fun b hb => Or.inl hb.2
  have hC := ROf_any 9 [.mk n l] _ 1 _ (fun b => b < w.heap.size ∨ b = w.heap.size + 2) (fun b h => by rw [hs3]; omega) (by simp) (LiesS.one hL1 hX (Or.inr rfl))
  have HC := Lib.hid hC
  have HB0 := Lib.hid hb0; have HS3 := Lib.hid hs3; have HO := Lib.hid hO
  clear hb0 hs1 hs2 hs3 hO hX hL1 hL hC
  go_enter Tryd.func29, Tryd.ntmps29
  go_wp2_with fail
  refine HC.out.mono ?_
  rintro e w1 ⟨a1, c1, rfl, hL1, hb1⟩
  have hO := HO.out.below HO.out.lt hb1
  have hb2 := HB0.out.trans (hb1.mono HB0.out.size)
  rw [HS3.out] at hL1
  simp only [List.length_cons, List.length_nil, Nat.zero_add] at *
  have hbx := (Below.refl w1.heap.size w1).alloc (Nat.le_refl _) (.cells #[.int .i64 (ofKind 9).K, .int .u64 (ofKind 9).a, .int .u64 (ofKind 9).b, .int .u64 (ofKind 9).c, .int .u64 (ofKind 9).d, .slice a1 1 c1, .int .i64 lo, .int .i64 hi] 28)
  have hO2 := hO.below hO.lt hbx
  have HO2 := Lib.hid hO2
  have hsz : w.heap.size + 3 ≤ w1.heap.size := by have := hb1.size; rw [HS3.out] at this; exact this
  have hL3 : LiesS (fun b => b ≠ w.heap.size + 1 ∧ b < w1.heap.size) (w1.alloc (.cells #[.int .i64 (ofKind 9).K, .int .u64 (ofKind 9).a, .int .u64 (ofKind 9).b, .int .u64 (ofKind 9).c, .int .u64 (ofKind 9).d, .slice a1 1 c1, .int .i64 lo, .int .i64 hi] 28)) (.slice a1 1 c1) [.mk n l] :=
    hL1.keep (fun b hb => by omega) (fun b p hb => hbx.cell (p := ⟨b, p, none⟩) (by show b < _; omega))
  have HL3 := Lib.hid hL3
  have HB3 := Lib.hid (hb2.trans (hbx.mono hb2.size))
  rw [← HB.out] at hO2
  obtain ⟨u0', e0⟩ := hO2.cell (0) (by omega)
  obtain ⟨u1', e1⟩ := hO2.cell (1) (by omega)
  obtain ⟨u2', e2⟩ := hO2.cell (2) (by omega)
  obtain ⟨u3', e3⟩ := hO2.cell (3) (by omega)
  obtain ⟨u4', e4⟩ := hO2.cell (4) (by omega)
  obtain ⟨u5', e5⟩ := hO2.cell (5) (by omega)
  obtain ⟨u6', e6⟩ := hO2.cell (6) (by omega)
  obtain ⟨u7', e7⟩ := hO2.cell (7) (by omega)
  have z0 := hO2.frozen (0); have z1 := hO2.frozen (1); have z2 := hO2.frozen (2); have z3 := hO2.frozen (3); have z4 := hO2.frozen (4); have z5 := hO2.frozen (5); have z6 := hO2.frozen (6); have z7 := hO2.frozen (7)
  clear hO hL1 hb1 HO HC HB0 HS3 hb2 hO2 hbx hL3
  rw [← HB.out]
  go_wp2_with fail
  rw [← HB.out] at HO2 HL3
  obtain ⟨q0, q1, q2, q3, q4, q5, q6, q7⟩ := put8_parts HO2.out (Nat.le_refl _) ⟨(ofKind 9).K, (ofKind 9).a, (ofKind 9).b, (ofKind 9).c, (ofKind 9).d, lo, hi⟩ (.slice a1 1 c1)
  refine bodyPost_ret (v := NV ⟨(ofKind 9).K, (ofKind 9).a, (ofKind 9).b, (ofKind 9).c, (ofKind 9).d, lo, hi⟩ (.slice a1 1 c1)) (by simp [results, Tryd.results29, go_sem, q0, q1, q2, q3, q4, q5, q6, q7]) rfl ⟨_, _, rfl, ?_, ?_⟩
  · refine (HL3.out.off (g := B + 1) (fun h => h.1 rfl) 0 ⟨(ofKind 9).K, (ofKind 9).a, (ofKind 9).b, (ofKind 9).c, (ofKind 9).d, lo, hi⟩ (.slice a1 1 c1)).mono fun b hb => ⟨Nat.zero_le _, ?_⟩
    show b < (put8 (w1.alloc (.cells #[.int .i64 (ofKind 9).K, .int .u64 (ofKind 9).a, .int .u64 (ofKind 9).b, .int .u64 (ofKind 9).c, .int .u64 (ofKind 9).d, .slice a1 1 c1, .int .i64 lo, .int .i64 hi] 28)) (B + 1) 0 ⟨(ofKind 9).K, (ofKind 9).a, (ofKind 9).b, (ofKind 9).c, (ofKind 9).d, lo, hi⟩ (.slice a1 1 c1)).heap.size
    rw [size_put8]; simp; omega
  · exact below_put8 (g := B + 1) HB3.out (by rw [HB.out]; omega) 0 ⟨(ofKind 9).K, (ofKind 9).a, (ofKind 9).b, (ofKind 9).c, (ofKind 9).d, lo, hi⟩ (.slice a1 1 c1)
end Go.Proofs.YtogdjgfgmdphgaaDoor.TreeW
