/- Walks of layer 2: Meet, Of, Union of two, '==', Least. -/
import Derived.Test.YthefhkgjadfhgaaDoorRef1
import Derived.RegionTactic
import Derived.BigRegion
import Derived.ChangeAlike
import Derived.Test.YthefhkgjadfhgaaDoorListMath
import Derived.Test.YthefhkgjadfhgaaDoorTzWalk
import Derived.StillTailTactics
import Derived.Deep.RegionHeld3
namespace Go.Proofs.YthefhkgjadfhgaaDoor.SetW
set_option linter.unusedVariables false
open Go.RowKit Go.Proofs.YthefhkgjadfhgaaDoor.SetM

/-- One byte more: one word stored. -/
theorem HoldsS.with1 {W : World} {B : Nat} {f : Nat → Bool} (h : HoldsS W B f) (b k : Nat) (hk : b / 64 = k) (hb : b < 256) :
    HoldsS (W.setCell ⟨B, k, none⟩ (.int .u64 (bits BinOp.or IntKind.u64 (wd f k) (IntKind.u64.wrap (2 ^ (b % 64)))))) B (withF f b) := by
  rw [or_bit f b k hk]
  have o0 := fun h => wd_other f 0 b h
  have o1 := fun h => wd_other f 1 b h
  have o2 := fun h => wd_other f 2 b h
  have o3 := fun h => wd_other f 3 b h
  have hk4 : k = 0 ∨ k = 1 ∨ k = 2 ∨ k = 3 := by omega
  rcases hk4 with rfl | rfl | rfl | rfl
  · refine ⟨World.cell?_setCell_same _ _ _ h.c0, ?_, ?_, ?_, ?_, ?_, ?_, ?_⟩
    · rw [cell_set _ _ _ _ _ (by decide), ← o1 (by omega)]; exact h.c1
    · rw [cell_set _ _ _ _ _ (by decide), ← o2 (by omega)]; exact h.c2
    · rw [cell_set _ _ _ _ _ (by decide), ← o3 (by omega)]; exact h.c3
    all_goals (simp only [World.frozen?_setCell]; first | exact h.z0 | exact h.z1 | exact h.z2 | exact h.z3)
  · refine ⟨?_, World.cell?_setCell_same _ _ _ h.c1, ?_, ?_, ?_, ?_, ?_, ?_⟩
    · rw [cell_set _ _ _ _ _ (by decide), ← o0 (by omega)]; exact h.c0
    · rw [cell_set _ _ _ _ _ (by decide), ← o2 (by omega)]; exact h.c2
    · rw [cell_set _ _ _ _ _ (by decide), ← o3 (by omega)]; exact h.c3
    all_goals (simp only [World.frozen?_setCell]; first | exact h.z0 | exact h.z1 | exact h.z2 | exact h.z3)
  · refine ⟨?_, ?_, World.cell?_setCell_same _ _ _ h.c2, ?_, ?_, ?_, ?_, ?_⟩
    · rw [cell_set _ _ _ _ _ (by decide), ← o0 (by omega)]; exact h.c0
    · rw [cell_set _ _ _ _ _ (by decide), ← o1 (by omega)]; exact h.c1
    · rw [cell_set _ _ _ _ _ (by decide), ← o3 (by omega)]; exact h.c3
    all_goals (simp only [World.frozen?_setCell]; first | exact h.z0 | exact h.z1 | exact h.z2 | exact h.z3)
  · refine ⟨?_, ?_, ?_, World.cell?_setCell_same _ _ _ h.c3, ?_, ?_, ?_, ?_⟩
    · rw [cell_set _ _ _ _ _ (by decide), ← o0 (by omega)]; exact h.c0
    · rw [cell_set _ _ _ _ _ (by decide), ← o1 (by omega)]; exact h.c1
    · rw [cell_set _ _ _ _ _ (by decide), ← o2 (by omega)]; exact h.c2
    all_goals (simp only [World.frozen?_setCell]; first | exact h.z0 | exact h.z1 | exact h.z2 | exact h.z3)
/-- One cell stored elsewhere. -/
theorem HoldsS.other1 {W : World} {R : Nat} {f : Nat → Bool} (h : HoldsS W R f) {B : Nat} (hne : B ≠ R) (k : Nat) (v : Value) : HoldsS (W.setCell ⟨B, k, none⟩ v) R f := by
  have c : ∀ (j : Nat), (W.setCell ⟨B, k, none⟩ v).cell? ⟨R, j, none⟩ = W.cell? ⟨R, j, none⟩ := fun j =>
    World.cell?_setCell_other W ⟨B, k, none⟩ ⟨R, j, none⟩ v (fun e => hne (by injection e))
  refine ⟨?_, ?_, ?_, ?_, ?_, ?_, ?_, ?_⟩
  · rw [c]; exact h.c0
  · rw [c]; exact h.c1
  · rw [c]; exact h.c2
  · rw [c]; exact h.c3
  all_goals (simp only [World.frozen?_setCell]; first | exact h.z0 | exact h.z1 | exact h.z2 | exact h.z3)
theorem quarter (b : Nat) (hb : b < 256) : ((b : Int) / 64 = 0 ∧ b / 64 = 0) ∨ ((b : Int) / 64 = 1 ∧ b / 64 = 1) ∨ ((b : Int) / 64 = 2 ∧ b / 64 = 2) ∨ ((b : Int) / 64 = 3 ∧ b / 64 = 3) := by omega
theorem ofF_nil : ofF [] = emptyF := rfl
theorem ofF_succ (s : ByteArray) (k : Nat) (h : k < s.size) : ofF (s.data.toList.take (k + 1)) = withF (ofF (s.data.toList.take k)) s[k].toNat := by
  rw [List.take_succ_eq_append_getElem (by simpa using h)]
  funext i
  unfold withF ofF
  rw [List.any_append]
  simp
  rfl
open Go.Proofs.YthefhkgjadfhgaaDoor.Base (BSl bytes_below)
theorem byte_lt (c : UInt8) : c.toNat < 256 := c.toNat_lt
theorem Of_any (v : Value) (s : ByteArray) (w : World) (hv : BSl w v s) :
    Calls Tryd.prog 66 #[v] w fun e w' => e = .returned (SV (ofF s.data.toList)) ∧ Below w.heap.size w w' := by
  have HV := Lib.hid hv
  obtain ⟨len, cap, a, hvv, hll, hmx⟩ : ∃ len cap a, v = .slice a len cap ∧ s.size = len ∧ len ≤ 9223372036854775807 := by
    rcases hv with ⟨_, h1, h2⟩ | ⟨b, o, cap, h1, h2, h3, _⟩
    · exact ⟨_, _, _, h1, by rw [h2]; rfl, by omega⟩
    · exact ⟨_, _, _, h1, rfl, by unfold maxLen at h3; omega⟩
  subst hvv
  have HL := Lib.hid hll
  clear hll
  obtain ⟨B, hB⟩ : ∃ B, B = w.heap.size + 1 := ⟨_, rfl⟩
  obtain ⟨R, hR⟩ : ∃ R, R = w.heap.size := ⟨_, rfl⟩
  have HB := Lib.hid hB; clear hB
  have HR := Lib.hid hR; clear hR
  go_enter Tryd.func66, Tryd.ntmps66
  go_wp2_with fail
  rw [← HB.out, ← HR.out]
  go_loopw [8] (fun i wr => ∃ k : Nat, k ≤ len ∧ i = .int .i64 k ∧ HoldsS wr R emptyF ∧ HoldsS wr B (ofF (s.data.toList.take k)) ∧ Below w.heap.size w wr) (fun i _ => len - (intOf i).toNat)
  case atStart =>
    refine ⟨0, Nat.zero_le _, rfl, ?_, ?_, ?_⟩
    · rw [HR.out]; exact (HoldsS.zero _ _).alloc _
    · rw [List.take_zero, ofF_nil, HB.out]; exact HoldsS.zero2 _ _ _
    · exact ((Below.refl _ _).alloc (Nat.le_refl _) _).alloc (by simp) _
  case round =>
    obtain ⟨k, hk, rfl, hR, hS, hb⟩ := hrel
    by_cases hlt : k < len
    · have hks : k < s.size := by rw [HL.out]; exact hlt
      obtain ⟨b, o, rfl, hc⟩ : ∃ b o, a = some ⟨b, o, none⟩ ∧ wr.cell? ⟨b, o + k, none⟩ = some (.int .u8 (s[k].toNat : Int)) := by
        rcases HV.out with ⟨_, h1, h2⟩ | ⟨b, o, c, h1, _, _, h4⟩
        · subst h2; exact absurd hks (by simp)
        · simp only [Value.slice.injEq] at h1
          exact ⟨b, o, h1.1, bytes_below h4 hb k hks⟩
      have HS := Lib.hid (ofF_succ s k hks)
      have hx := byte_lt s[k]
      generalize hy : s[k].toNat = x at *
      clear hy
      generalize hg : ofF (s.data.toList.take k) = g at *
      clear hg
      have c0 := hS.c0; have c1 := hS.c1; have c2 := hS.c2; have c3 := hS.c3; have z0 := hS.z0; have z1 := hS.z1; have z2 := hS.z2; have z3 := hS.z3
      rcases quarter x hx with ⟨h1, h2⟩ | ⟨h1, h2⟩ | ⟨h1, h2⟩ | ⟨h1, h2⟩
      all_goals
        go_wp2_with fail
        refine ⟨⟨k + 1, by omega, by go_num, hR.other1 (by rw [HB.out, HR.out]; omega) _ _, ?_, hb.setCell (p := ⟨B, _, none⟩) (by show _ ≤ B; rw [HB.out]; omega) _⟩, by simp [intOf]; omega⟩
        rw [HS.out]
        exact hS.with1 x _ h2 hx
    · have HE := Lib.hid (show s.data.toList.take k = s.data.toList from List.take_of_length_le (by have := HL.out; simp; omega))
      have c0 := hS.c0; have c1 := hS.c1; have c2 := hS.c2; have c3 := hS.c3; have z0 := hS.z0; have z1 := hS.z1; have z2 := hS.z2; have z3 := hS.z3
      have d0 := hR.c0; have d1 := hR.c1; have d2 := hR.c2; have d3 := hR.c3; have y0 := hR.z0; have y1 := hR.z1; have y2 := hR.z2; have y3 := hR.z3
      go_wp2_with fail
      rw [HE.out]
      have q := hR.store (ofF s.data.toList)
      exact bodyPost_ret (v := SV _) (by simp [results, Tryd.results66, go_sem, q.c0, q.c1, q.c2, q.c3]) rfl ⟨rfl, below_put4 hb (by rw [HR.out]; omega) _⟩

/-- A slice of some sets, one behind the other in block b. -/
def SetsAt (W : World) (b : Nat) (fs : List (Nat → Bool)) : Prop :=
  ∀ k (h : k < fs.length), W.cell? ⟨b, 4 * k, none⟩ = some (.int .u64 (wd fs[k] 0)) ∧ W.cell? ⟨b, 4 * k + 1, none⟩ = some (.int .u64 (wd fs[k] 1)) ∧ W.cell? ⟨b, 4 * k + 2, none⟩ = some (.int .u64 (wd fs[k] 2)) ∧ W.cell? ⟨b, 4 * k + 3, none⟩ = some (.int .u64 (wd fs[k] 3))
theorem SetsAt.below {W W' : World} {b : Nat} {fs : List (Nat → Bool)} (h : SetsAt W b fs) (hb : Below W.heap.size W W') : SetsAt W' b fs := fun k hk => by
  obtain ⟨h0, h1, h2, h3⟩ := h k hk
  exact ⟨(hb.cell (World.block_lt_of_cell? _ _ h0)).trans h0, (hb.cell (World.block_lt_of_cell? _ _ h1)).trans h1, (hb.cell (World.block_lt_of_cell? _ _ h2)).trans h2, (hb.cell (World.block_lt_of_cell? _ _ h3)).trans h3⟩

set_option maxRecDepth 100000 in
set_option maxHeartbeats 2000000 in
theorem Union2_any (f g : Nat → Bool) (w : World) (b : Nat) (hc : SetsAt w b [f, g]) :
    Calls Tryd.prog 65 #[.slice (some ⟨b, 0, none⟩) 2 2] w fun e w' => e = .returned (SV (unionF f g)) ∧ Below w.heap.size w w' := by
  have i0 := index0; have i1 := index1; have i2 := index2; have i3 := index3
  obtain ⟨a00, a01, a02, a03⟩ := hc 0 (by simp)
  obtain ⟨a10, a11, a12, a13⟩ := hc 1 (by simp)
  simp only [List.getElem_cons_zero, List.getElem_cons_succ, Nat.mul_zero, Nat.zero_add, Nat.reduceMul, Nat.reduceAdd] at a00 a01 a02 a03 a10 a11 a12 a13
  clear hc
  have l0 : b < w.heap.size := World.block_lt_of_cell? _ _ a00
  have l1 : b < w.heap.size + 1 := by omega
  have l2 : b < w.heap.size + 1 + 1 := by omega
  have l3 : b < w.heap.size + 1 + 1 + 1 := by omega
  have Z0 := Lib.hid (or_word0 f 0); have Y0 := Lib.hid (or_word f g 0)
  have Z1 := Lib.hid (or_word0 f 1); have Y1 := Lib.hid (or_word f g 1)
  have Z2 := Lib.hid (or_word0 f 2); have Y2 := Lib.hid (or_word f g 2)
  have Z3 := Lib.hid (or_word0 f 3); have Y3 := Lib.hid (or_word f g 3)
  go_enter Tryd.func65, Tryd.ntmps65
  go_wp2_with fail
  refine wp_loop_rounds 3 ?_
  rw [rounds_succ]
  go_wp2_with fail
  refine wp_loop_rounds 5 ?_
  rw [rounds_succ]
  go_wp2_with fail
  rw [rounds_succ]
  go_wp2_with fail
  rw [rounds_succ]
  go_wp2_with fail
  rw [rounds_succ]
  go_wp2_with fail
  rw [rounds_succ]
  go_wp2_with fail
  try rw [Z0.out]
  try rw [Z1.out]
  try rw [Z2.out]
  try rw [Z3.out]
  rw [rounds_succ]
  go_wp2_with fail
  refine wp_loop_rounds 5 ?_
  rw [rounds_succ]
  go_wp2_with fail
  rw [rounds_succ]
  go_wp2_with fail
  rw [rounds_succ]
  go_wp2_with fail
  rw [rounds_succ]
  go_wp2_with fail
  rw [rounds_succ]
  go_wp2_with fail
  try rw [Y0.out]
  try rw [Y1.out]
  try rw [Y2.out]
  try rw [Y3.out]
  rw [rounds_succ]
  go_wp2_with fail
  exact bodyPost_ret (v := SV (unionF f g)) (by simp [results, Tryd.results65, go_sem]) rfl ⟨rfl, ((((Below.refl _ _).alloc (Nat.le_refl _) _).alloc (by simp) _).alloc (by simp; omega) _).alloc (by simp; omega) _⟩


/-- '==' of two sets. -/
theorem eqSet (a b c d a' b' c' d' : Int) (w : World) : (Op.equalIn 10000 69 (.agg #[.int .u64 a, .int .u64 b, .int .u64 c, .int .u64 d]) (.agg #[.int .u64 a', .int .u64 b', .int .u64 c', .int .u64 d'])).run Tryd.prog w = .ok (a == a' && (b == b' && (c == c' && d == d'))) w := by
  have u3 := Tryd.underlying67
  have a3 := Tryd.isAgg67
  have z3 := Tryd.sizeOf67
  rw [show (10000 : Nat) = 9999 + 1 from rfl, Op.equalIn]
  simp only [Sem.run_bind, run_underlying Tryd.underlying69, Result.andThen_ok]
  simp only [Std.Legacy.Range.forIn_eq_forIn_range', Std.Legacy.Range.size, Nat.sub_zero, Nat.add_sub_cancel, Nat.div_one, List.range'_succ, List.range'_zero, List.forIn_cons, List.forIn_nil]
  go_simp
  by_cases h1 : a = a' <;> by_cases h2 : b = b' <;> by_cases h3 : c = c' <;> by_cases h4 : d = d' <;> simp [h1, h2, h3, h4]
theorem Least_zero (f : Nat → Bool) (w : World) (h0 : wd f 0 = 0) (h1 : wd f 1 = 0) (h2 : wd f 2 = 0) (h3 : wd f 3 = 0) :
    Calls Tryd.prog 50 #[SV f] w fun e w' => e = .returned (.int .i64 (leastI f)) ∧ Below w.heap.size w w' := by
  have HL := Lib.hid (leastI_zero h0 h1 h2 h3)
  have hq := eqSet 0 0 0 0 0 0 0 0
  show Calls _ _ #[.agg #[.int .u64 (wd f 0 : Nat), .int .u64 (wd f 1 : Nat), .int .u64 (wd f 2 : Nat), .int .u64 (wd f 3 : Nat)]] _ _
  rw [h0, h1, h2, h3]
  clear h0 h1 h2 h3
  go_enter Tryd.func50, Tryd.ntmps50
  go_wp2_with fail
  go_ret
  exact ⟨Base.ret_int HL.out.symm, (Below.refl _ _).alloc (Nat.le_refl _) _⟩
theorem Least_word0 (f : Nat → Bool) (w : World) (he : Env w) (h : wd f 0 ≠ 0) :
    Calls Tryd.prog 50 #[SV f] w fun e w' => e = .returned (.int .i64 (leastI f)) ∧ Below w.heap.size w w' := by
  have hq := eqSet (wd f 0) (wd f 1) (wd f 2) (wd f 3) 0 0 0 0
  have hE : ∀ o, Env (w.alloc o) := fun o => he.below ((Below.refl _ _).alloc (Nat.le_refl _) _)
  have b0 : (((wd f 0 : Nat) : Int) == 0) = false := by simpa using h
  have HC := Lib.hid (fun W h' => tz_any (wd f 0) (wd_lt f 0) h W h')
  have HL := Lib.hid (leastI_word (k := 0) (by decide) (fun j hj => absurd hj (Nat.not_lt_zero _)) h)
  have hlt := (wd_ctz h).1
  generalize Lib.ctz 64 (wd f 0) = c at *
  have HE := Lib.hid hE
  clear h hE
  go_enter Tryd.func50, Tryd.ntmps50
  go_wp2_with fail
  refine wp_loop_rounds 1 ?_
  rw [rounds_succ]
  go_wp2_with fail
  refine (HC.out _ (HE.out _)).mono ?_
  rintro e w' ⟨rfl, rfl⟩
  go_wp2_with fail
  go_ret
  exact ⟨Base.ret_int (by rw [HL.out]; omega), (Below.refl _ _).alloc (Nat.le_refl _) _⟩
theorem Least_word1 (f : Nat → Bool) (w : World) (he : Env w) (h0 : wd f 0 = 0) (h : wd f 1 ≠ 0) :
    Calls Tryd.prog 50 #[SV f] w fun e w' => e = .returned (.int .i64 (leastI f)) ∧ Below w.heap.size w w' := by
  have hq := eqSet (wd f 0) (wd f 1) (wd f 2) (wd f 3) 0 0 0 0
  have hE : ∀ o, Env (w.alloc o) := fun o => he.below ((Below.refl _ _).alloc (Nat.le_refl _) _)
  have b0 : (((wd f 0 : Nat) : Int) == 0) = true := by simp [h0]
  have b1 : (((wd f 1 : Nat) : Int) == 0) = false := by simpa using h
  have HC := Lib.hid (fun W h' => tz_any (wd f 1) (wd_lt f 1) h W h')
  have HL := Lib.hid (leastI_word (k := 1) (by decide) (fun j hj => by
      rcases j with _ | j
      all_goals first | assumption | omega) h)
  have hlt := (wd_ctz h).1
  generalize Lib.ctz 64 (wd f 1) = c at *
  have HE := Lib.hid hE
  clear h hE h0
  go_enter Tryd.func50, Tryd.ntmps50
  go_wp2_with fail
  refine wp_loop_rounds 2 ?_
  rw [rounds_succ]
  go_wp2_with fail
  rw [rounds_succ]
  go_wp2_with fail
  refine (HC.out _ (HE.out _)).mono ?_
  rintro e w' ⟨rfl, rfl⟩
  go_wp2_with fail
  go_ret
  exact ⟨Base.ret_int (by rw [HL.out]; omega), (Below.refl _ _).alloc (Nat.le_refl _) _⟩
theorem Least_word2 (f : Nat → Bool) (w : World) (he : Env w) (h0 : wd f 0 = 0) (h1 : wd f 1 = 0) (h : wd f 2 ≠ 0) :
    Calls Tryd.prog 50 #[SV f] w fun e w' => e = .returned (.int .i64 (leastI f)) ∧ Below w.heap.size w w' := by
  have hq := eqSet (wd f 0) (wd f 1) (wd f 2) (wd f 3) 0 0 0 0
  have hE : ∀ o, Env (w.alloc o) := fun o => he.below ((Below.refl _ _).alloc (Nat.le_refl _) _)
  have b0 : (((wd f 0 : Nat) : Int) == 0) = true := by simp [h0]
  have b1 : (((wd f 1 : Nat) : Int) == 0) = true := by simp [h1]
  have b2 : (((wd f 2 : Nat) : Int) == 0) = false := by simpa using h
  have HC := Lib.hid (fun W h' => tz_any (wd f 2) (wd_lt f 2) h W h')
  have HL := Lib.hid (leastI_word (k := 2) (by decide) (fun j hj => by
      rcases j with _ | _ | j
      all_goals first | assumption | omega) h)
  have hlt := (wd_ctz h).1
  generalize Lib.ctz 64 (wd f 2) = c at *
  have HE := Lib.hid hE
  clear h hE h0 h1
  go_enter Tryd.func50, Tryd.ntmps50
  go_wp2_with fail
  refine wp_loop_rounds 3 ?_
  rw [rounds_succ]
  go_wp2_with fail
  rw [rounds_succ]
  go_wp2_with fail
  rw [rounds_succ]
  go_wp2_with fail
  refine (HC.out _ (HE.out _)).mono ?_
  rintro e w' ⟨rfl, rfl⟩
  go_wp2_with fail
  go_ret
  exact ⟨Base.ret_int (by rw [HL.out]; omega), (Below.refl _ _).alloc (Nat.le_refl _) _⟩
theorem Least_word3 (f : Nat → Bool) (w : World) (he : Env w) (h0 : wd f 0 = 0) (h1 : wd f 1 = 0) (h2 : wd f 2 = 0) (h : wd f 3 ≠ 0) :
    Calls Tryd.prog 50 #[SV f] w fun e w' => e = .returned (.int .i64 (leastI f)) ∧ Below w.heap.size w w' := by
  have hq := eqSet (wd f 0) (wd f 1) (wd f 2) (wd f 3) 0 0 0 0
  have hE : ∀ o, Env (w.alloc o) := fun o => he.below ((Below.refl _ _).alloc (Nat.le_refl _) _)
  have b0 : (((wd f 0 : Nat) : Int) == 0) = true := by simp [h0]
  have b1 : (((wd f 1 : Nat) : Int) == 0) = true := by simp [h1]
  have b2 : (((wd f 2 : Nat) : Int) == 0) = true := by simp [h2]
  have b3 : (((wd f 3 : Nat) : Int) == 0) = false := by simpa using h
  have HC := Lib.hid (fun W h' => tz_any (wd f 3) (wd_lt f 3) h W h')
  have HL := Lib.hid (leastI_word (k := 3) (by decide) (fun j hj => by
      rcases j with _ | _ | _ | j
      all_goals first | assumption | omega) h)
  have hlt := (wd_ctz h).1
  generalize Lib.ctz 64 (wd f 3) = c at *
  have HE := Lib.hid hE
  clear h hE h0 h1 h2
  go_enter Tryd.func50, Tryd.ntmps50
  go_wp2_with fail
  refine wp_loop_rounds 4 ?_
  rw [rounds_succ]
  go_wp2_with fail
  rw [rounds_succ]
  go_wp2_with fail
  rw [rounds_succ]
  go_wp2_with fail
  rw [rounds_succ]
  go_wp2_with fail
  refine (HC.out _ (HE.out _)).mono ?_
  rintro e w' ⟨rfl, rfl⟩
  go_wp2_with fail
  go_ret
  exact ⟨Base.ret_int (by rw [HL.out]; omega), (Below.refl _ _).alloc (Nat.le_refl _) _⟩
theorem Least_any (f : Nat → Bool) (w : World) (he : Env w) :
    Calls Tryd.prog 50 #[SV f] w fun e w' => e = .returned (.int .i64 (leastI f)) ∧ Below w.heap.size w w' := by
  by_cases h0 : wd f 0 = 0
  · by_cases h1 : wd f 1 = 0
    · by_cases h2 : wd f 2 = 0
      · by_cases h3 : wd f 3 = 0
        · exact Least_zero f w h0 h1 h2 h3
        · exact Least_word3 f w he h0 h1 h2 h3
      · exact Least_word2 f w he h0 h1 h2
    · exact Least_word1 f w he h0 h1
  · exact Least_word0 f w he h0
end Go.Proofs.YthefhkgjadfhgaaDoor.SetW
