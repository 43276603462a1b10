/- Sets as values: one byte more, the set of any bytes, by the program and by the document; '==' of sets. -/
import Derived.Test.YtogdjgfgmdphgaaDoorProg
import Derived.Test.YtogdjgfgmdphgaaDoorSetMath
import Derived.Test.YtogdjgfgmdphgaaDoorBase
import Derived.Laws.Bits64b
import Derived.Laws.DeepNot64
import Derived.LoopN
import Derived.RegionTactic
import Derived.BigRegion
import Derived.ChangeAlike
import Derived.StillTailTactics
import Derived.Laws.IdiomArrays
namespace Go.Proofs.YtogdjgfgmdphgaaDoor.SetW
set_option linter.unusedVariables false
open Go.RowKit Go.Proofs.YtogdjgfgmdphgaaDoor.SetM
open Go.Proofs.YtogdjgfgmdphgaaDoor.Base (BSl bytes_below)
/-- A set as a value. -/
abbrev SV (f : Nat → Bool) : Value := .agg #[.int .u64 (wd f 0), .int .u64 (wd f 1), .int .u64 (wd f 2), .int .u64 (wd f 3)]
theorem sv_at (f : Nat → Bool) (k : Nat) (hk : k < 4) : [Value.int IntKind.u64 (wd f 0), Value.int IntKind.u64 (wd f 1), Value.int IntKind.u64 (wd f 2), Value.int IntKind.u64 (wd f 3)][k]? = some (.int .u64 (wd f k)) := by
  rcases k with _ | _ | _ | _ | k <;> first | rfl | omega

theorem or_bit (f : Nat → Bool) (b k : Nat) (hk : b / 64 = k) : bits BinOp.or IntKind.u64 (wd f k) (IntKind.u64.wrap (2 ^ (b % 64))) = (wd (withF f b) k : Int) := by
  have hr : b % 64 < 64 := Nat.mod_lt _ (by decide)
  have hp : 2 ^ (b % 64) < 2 ^ 64 := Nat.pow_lt_pow_right (by decide) hr
  have e : IntKind.u64.wrap (2 ^ (b % 64)) = ((2 ^ (b % 64) : Nat) : Int) := by
    rw [show ((2 : Int) ^ (b % 64)) = ((2 ^ (b % 64) : Nat) : Int) by simp, IntKind.wrap_u64]
    generalize 2 ^ (b % 64) = p at *
    omega
  rw [e, bits_or_u64_nat _ _ (wd_lt f k) hp, wd_set f k _ hr, show 64 * k + b % 64 = b by omega]
theorem other_word (f : Nat → Bool) (b k : Nat) (h : b / 64 ≠ k) : (wd f k : Int) = (wd (withF f b) k : Int) := by rw [← wd_other f k b h]

theorem With_any (f : Nat → Bool) (b : Nat) (hb : b < 256) (w : World) :
    Calls Tryd.prog 37 #[SV f, .int .i64 b] w fun e w' => e = .returned (SV (withF f b)) ∧ Below w.heap.size w w' := by
  have hq : ((b : Int) / 64 = 0 ∧ b / 64 = 0) ∨ ((b : Int) / 64 = 1 ∧ b / 64 = 1) ∨ ((b : Int) / 64 = 2 ∧ b / 64 = 2) ∨ ((b : Int) / 64 = 3 ∧ b / 64 = 3) := by omega
  rcases hq with ⟨h1, h2⟩ | ⟨h1, h2⟩ | ⟨h1, h2⟩ | ⟨h1, h2⟩
  · have H0 := Lib.hid (or_bit f b 0 h2); have H1 := Lib.hid (other_word f b 1 (by omega)); have H2 := Lib.hid (other_word f b 2 (by omega)); have H3 := Lib.hid (other_word f b 3 (by omega))
    go_enter Tryd.func37, Tryd.ntmps37
    go_wp2_with fail
    rw [H0.out, H1.out, H2.out, H3.out]
    exact bodyPost_ret (v := SV (withF f b)) (by simp [results, Tryd.results37, go_sem]) rfl ⟨rfl, ((Below.refl _ _).alloc (Nat.le_refl _) _).alloc (by simp) _⟩
  · have H0 := Lib.hid (other_word f b 0 (by omega)); have H1 := Lib.hid (or_bit f b 1 h2); have H2 := Lib.hid (other_word f b 2 (by omega)); have H3 := Lib.hid (other_word f b 3 (by omega))
    go_enter Tryd.func37, Tryd.ntmps37
    go_wp2_with fail
    rw [H1.out, H0.out, H2.out, H3.out]
    exact bodyPost_ret (v := SV (withF f b)) (by simp [results, Tryd.results37, go_sem]) rfl ⟨rfl, ((Below.refl _ _).alloc (Nat.le_refl _) _).alloc (by simp) _⟩
  · have H0 := Lib.hid (other_word f b 0 (by omega)); have H2 := Lib.hid (or_bit f b 2 h2); have H1 := Lib.hid (other_word f b 1 (by omega)); have H3 := Lib.hid (other_word f b 3 (by omega))
    go_enter Tryd.func37, Tryd.ntmps37
    go_wp2_with fail
    rw [H2.out, H0.out, H1.out, H3.out]
    exact bodyPost_ret (v := SV (withF f b)) (by simp [results, Tryd.results37, go_sem]) rfl ⟨rfl, ((Below.refl _ _).alloc (Nat.le_refl _) _).alloc (by simp) _⟩
  · have H0 := Lib.hid (other_word f b 0 (by omega)); have H3 := Lib.hid (or_bit f b 3 h2); have H1 := Lib.hid (other_word f b 1 (by omega)); have H2 := Lib.hid (other_word f b 2 (by omega))
    go_enter Tryd.func37, Tryd.ntmps37
    go_wp2_with fail
    rw [H3.out, H0.out, H1.out, H2.out]
    exact bodyPost_ret (v := SV (withF f b)) (by simp [results, Tryd.results37, go_sem]) rfl ⟨rfl, ((Below.refl _ _).alloc (Nat.le_refl _) _).alloc (by simp) _⟩

/-- Block B's first four cells are a set's words; they may be written. -/
structure HoldsS (W : World) (B : Nat) (f : Nat → Bool) : Prop where
  c0 : W.cell? ⟨B, 0, none⟩ = some (.int .u64 (wd f 0))
  c1 : W.cell? ⟨B, 1, none⟩ = some (.int .u64 (wd f 1))
  c2 : W.cell? ⟨B, 2, none⟩ = some (.int .u64 (wd f 2))
  c3 : W.cell? ⟨B, 3, none⟩ = some (.int .u64 (wd f 3))
  z0 : W.frozen? ⟨B, 0, none⟩ = false
  z1 : W.frozen? ⟨B, 1, none⟩ = false
  z2 : W.frozen? ⟨B, 2, none⟩ = false
  z3 : W.frozen? ⟨B, 3, none⟩ = false
theorem HoldsS.lt {W : World} {B : Nat} {f : Nat → Bool} (h : HoldsS W B f) : B < W.heap.size := World.block_lt_of_cell? _ _ h.c0
theorem HoldsS.below {W W' : World} {B : Nat} {f : Nat → Bool} (h : HoldsS W B f) (hb : Below W.heap.size W W') : HoldsS W' B f :=
  ⟨(hb.cell (p := ⟨B, 0, none⟩) h.lt).trans h.c0, (hb.cell (p := ⟨B, 1, none⟩) h.lt).trans h.c1, (hb.cell (p := ⟨B, 2, none⟩) h.lt).trans h.c2, (hb.cell (p := ⟨B, 3, none⟩) h.lt).trans h.c3,
   (hb.frozen (p := ⟨B, 0, none⟩) h.lt).trans h.z0, (hb.frozen (p := ⟨B, 1, none⟩) h.lt).trans h.z1, (hb.frozen (p := ⟨B, 2, none⟩) h.lt).trans h.z2, (hb.frozen (p := ⟨B, 3, none⟩) h.lt).trans h.z3⟩
theorem HoldsS.new (w : World) (f : Nat → Bool) (t : TypeId) : HoldsS (w.alloc (.cells #[.int .u64 (wd f 0), .int .u64 (wd f 1), .int .u64 (wd f 2), .int .u64 (wd f 3)] t)) w.heap.size f := by
  constructor <;> first | (rw [World.cell?_alloc_new]; rfl) | exact World.frozen?_alloc_new _ _ _ _
theorem HoldsS.zero (w : World) (t : TypeId) : HoldsS (w.alloc (.cells #[.int .u64 0, .int .u64 0, .int .u64 0, .int .u64 0] t)) w.heap.size emptyF := by
  have h := HoldsS.new w emptyF t
  rw [wd_empty, wd_empty, wd_empty, wd_empty] at h
  exact h
theorem HoldsS.alloc {W : World} {B : Nat} {f : Nat → Bool} (h : HoldsS W B f) (o : Obj) : HoldsS (W.alloc o) B f := h.below ((Below.refl _ _).alloc (Nat.le_refl _) _)
theorem cell_set (W : World) (B i j : Nat) (v : Value) (h : i ≠ j) : (W.setCell ⟨B, i, none⟩ v).cell? ⟨B, j, none⟩ = W.cell? ⟨B, j, none⟩ :=
  World.cell?_setCell_other W ⟨B, i, none⟩ ⟨B, j, none⟩ v (fun e => h (by injection e))
/-- A set stored. -/
abbrev put4 (W : World) (B : Nat) (g : Nat → Bool) : World :=
  (((W.setCell ⟨B, 0, none⟩ (.int .u64 (wd g 0))).setCell ⟨B, 1, none⟩ (.int .u64 (wd g 1))).setCell ⟨B, 2, none⟩ (.int .u64 (wd g 2))).setCell ⟨B, 3, none⟩ (.int .u64 (wd g 3))
theorem HoldsS.store {W : World} {B : Nat} {f : Nat → Bool} (h : HoldsS W B f) (g : Nat → Bool) : HoldsS (put4 W B g) B g := by
  have e0 := h.c0; have e1 := h.c1; have e2 := h.c2; have e3 := h.c3
  refine ⟨?_, ?_, ?_, ?_, ?_, ?_, ?_, ?_⟩
  · rw [cell_set _ _ _ _ _ (by decide), cell_set _ _ _ _ _ (by decide), cell_set _ _ _ _ _ (by decide)]
    exact World.cell?_setCell_same _ _ _ e0
  · rw [cell_set _ _ _ _ _ (by decide), cell_set _ _ _ _ _ (by decide)]
    refine World.cell?_setCell_same (u := .int .u64 (wd f 1)) _ _ _ ?_
    rw [cell_set _ _ _ _ _ (by decide)]; exact e1
  · rw [cell_set _ _ _ _ _ (by decide)]
    refine World.cell?_setCell_same (u := .int .u64 (wd f 2)) _ _ _ ?_
    rw [cell_set _ _ _ _ _ (by decide), cell_set _ _ _ _ _ (by decide)]; exact e2
  · refine World.cell?_setCell_same (u := .int .u64 (wd f 3)) _ _ _ ?_
    rw [cell_set _ _ _ _ _ (by decide), cell_set _ _ _ _ _ (by decide), cell_set _ _ _ _ _ (by decide)]; exact e3
  all_goals simp only [World.frozen?_setCell]
  · exact h.z0
  · exact h.z1
  · exact h.z2
  · exact h.z3
theorem below_put4 {n : Nat} {w W : World} {B : Nat} (hb : Below n w W) (h : n ≤ B) (g : Nat → Bool) : Below n w (put4 W B g) :=
  (((hb.setCell (p := ⟨B, 0, none⟩) h _).setCell (p := ⟨B, 1, none⟩) h _).setCell (p := ⟨B, 2, none⟩) h _).setCell (p := ⟨B, 3, none⟩) h _

theorem HoldsS.other {W : World} {R : Nat} {f : Nat → Bool} (h : HoldsS W R f) {B : Nat} (hne : B ≠ R) (g : Nat → Bool) : HoldsS (put4 W B g) R f := by
  have c : ∀ (X : World) (i j : Nat) (v : Value), (X.setCell ⟨B, i, none⟩ v).cell? ⟨R, j, none⟩ = X.cell? ⟨R, j, none⟩ := fun X i j v =>
    World.cell?_setCell_other X ⟨B, i, none⟩ ⟨R, j, none⟩ v (fun e => hne (by injection e))
  refine ⟨?_, ?_, ?_, ?_, ?_, ?_, ?_, ?_⟩
  · rw [c, c, c, c]; exact h.c0
  · rw [c, c, c, c]; exact h.c1
  · rw [c, c, c, c]; exact h.c2
  · rw [c, c, c, c]; exact h.c3
  all_goals simp only [World.frozen?_setCell]
  · exact h.z0
  · exact h.z1
  · exact h.z2
  · exact h.z3
theorem HoldsS.zero2 (w : World) (o : Obj) (t : TypeId) : HoldsS ((w.alloc o).alloc (.cells #[.int .u64 0, .int .u64 0, .int .u64 0, .int .u64 0] t)) (w.heap.size + 1) emptyF := by
  rw [← World.size_alloc w o]; exact HoldsS.zero _ _

theorem HoldsS.drew {W : World} {B : Nat} {f : Nat → Bool} (h : HoldsS W B f) : HoldsS W.drew B f := ⟨h.c0, h.c1, h.c2, h.c3, h.z0, h.z1, h.z2, h.z3⟩
/-- One byte more: one word stored. -/
theorem HoldsS.with1 {W : World} {B : Nat} {f : Nat → Bool} (h : HoldsS W B f) (b k : Nat) (hk : b / 64 = k) (hb : b < 256) :
    HoldsS (W.setCell ⟨B, k, none⟩ (.int .u64 (bits BinOp.or IntKind.u64 (wd f k) (IntKind.u64.wrap (2 ^ (b % 64)))))) B (withF f b) := by
  rw [or_bit f b k hk]
  have o0 := fun h => wd_other f 0 b h
  have o1 := fun h => wd_other f 1 b h
  have o2 := fun h => wd_other f 2 b h
  have o3 := fun h => wd_other f 3 b h
  have hk4 : k = 0 ∨ k = 1 ∨ k = 2 ∨ k = 3 := by omega
  rcases hk4 with rfl | rfl | rfl | rfl
  · refine ⟨World.cell?_setCell_same _ _ _ h.c0, ?_, ?_, ?_, ?_, ?_, ?_, ?_⟩
    · rw [cell_set _ _ _ _ _ (by decide), ← o1 (by omega)]; exact h.c1
    · rw [cell_set _ _ _ _ _ (by decide), ← o2 (by omega)]; exact h.c2
    · rw [cell_set _ _ _ _ _ (by decide), ← o3 (by omega)]; exact h.c3
    all_goals (simp only [World.frozen?_setCell]; first | exact h.z0 | exact h.z1 | exact h.z2 | exact h.z3)
  · refine ⟨?_, World.cell?_setCell_same _ _ _ h.c1, ?_, ?_, ?_, ?_, ?_, ?_⟩
    · rw [cell_set _ _ _ _ _ (by decide), ← o0 (by omega)]; exact h.c0
    · rw [cell_set _ _ _ _ _ (by decide), ← o2 (by omega)]; exact h.c2
    · rw [cell_set _ _ _ _ _ (by decide), ← o3 (by omega)]; exact h.c3
    all_goals (simp only [World.frozen?_setCell]; first | exact h.z0 | exact h.z1 | exact h.z2 | exact h.z3)
  · refine ⟨?_, ?_, World.cell?_setCell_same _ _ _ h.c2, ?_, ?_, ?_, ?_, ?_⟩
    · rw [cell_set _ _ _ _ _ (by decide), ← o0 (by omega)]; exact h.c0
    · rw [cell_set _ _ _ _ _ (by decide), ← o1 (by omega)]; exact h.c1
    · rw [cell_set _ _ _ _ _ (by decide), ← o3 (by omega)]; exact h.c3
    all_goals (simp only [World.frozen?_setCell]; first | exact h.z0 | exact h.z1 | exact h.z2 | exact h.z3)
  · refine ⟨?_, ?_, ?_, World.cell?_setCell_same _ _ _ h.c3, ?_, ?_, ?_, ?_⟩
    · rw [cell_set _ _ _ _ _ (by decide), ← o0 (by omega)]; exact h.c0
    · rw [cell_set _ _ _ _ _ (by decide), ← o1 (by omega)]; exact h.c1
    · rw [cell_set _ _ _ _ _ (by decide), ← o2 (by omega)]; exact h.c2
    all_goals (simp only [World.frozen?_setCell]; first | exact h.z0 | exact h.z1 | exact h.z2 | exact h.z3)
/-- One cell stored elsewhere. -/
theorem HoldsS.other1 {W : World} {R : Nat} {f : Nat → Bool} (h : HoldsS W R f) {B : Nat} (hne : B ≠ R) (k : Nat) (v : Value) : HoldsS (W.setCell ⟨B, k, none⟩ v) R f := by
  have c : ∀ (j : Nat), (W.setCell ⟨B, k, none⟩ v).cell? ⟨R, j, none⟩ = W.cell? ⟨R, j, none⟩ := fun j =>
    World.cell?_setCell_other W ⟨B, k, none⟩ ⟨R, j, none⟩ v (fun e => hne (by injection e))
  refine ⟨?_, ?_, ?_, ?_, ?_, ?_, ?_, ?_⟩
  · rw [c]; exact h.c0
  · rw [c]; exact h.c1
  · rw [c]; exact h.c2
  · rw [c]; exact h.c3
  all_goals (simp only [World.frozen?_setCell]; first | exact h.z0 | exact h.z1 | exact h.z2 | exact h.z3)
theorem quarter (b : Nat) (hb : b < 256) : ((b : Int) / 64 = 0 ∧ b / 64 = 0) ∨ ((b : Int) / 64 = 1 ∧ b / 64 = 1) ∨ ((b : Int) / 64 = 2 ∧ b / 64 = 2) ∨ ((b : Int) / 64 = 3 ∧ b / 64 = 3) := by omega

theorem ofF_nil : ofF [] = emptyF := rfl
theorem ofF_succ (s : ByteArray) (k : Nat) (h : k < s.size) : ofF (s.data.toList.take (k + 1)) = withF (ofF (s.data.toList.take k)) s[k].toNat := by
  rw [List.take_succ_eq_append_getElem (by simpa using h)]
  funext i
  unfold withF ofF
  rw [List.any_append]
  simp
  rfl
theorem byte_lt (c : UInt8) : c.toNat < 256 := c.toNat_lt
theorem Of_any (v : Value) (s : ByteArray) (w : World) (hv : BSl w v s) :
    Calls Tryd.prog 40 #[v] w fun e w' => e = .returned (SV (ofF s.data.toList)) ∧ Below w.heap.size w w' := by
  have HV := Lib.hid hv
  obtain ⟨len, cap, a, hvv, hll, hmx⟩ : ∃ len cap a, v = .slice a len cap ∧ s.size = len ∧ len ≤ 9223372036854775807 := by
    rcases hv with ⟨_, h1, h2⟩ | ⟨b, o, cap, h1, h2, h3, _⟩
    · exact ⟨_, _, _, h1, by rw [h2]; rfl, by omega⟩
    · exact ⟨_, _, _, h1, rfl, by unfold maxLen at h3; omega⟩
  subst hvv
  have HL := Lib.hid hll
  clear hll
  obtain ⟨B, hB⟩ : ∃ B, B = w.heap.size + 1 := ⟨_, rfl⟩
  obtain ⟨R, hR⟩ : ∃ R, R = w.heap.size := ⟨_, rfl⟩
  have HB := Lib.hid hB; clear hB
  have HR := Lib.hid hR; clear hR
  go_enter Tryd.func40, Tryd.ntmps40
  go_wp2_with fail
  rw [← HB.out, ← HR.out]
  go_loopw [8] (fun i wr => ∃ k : Nat, k ≤ len ∧ i = .int .i64 k ∧ HoldsS wr R emptyF ∧ HoldsS wr B (ofF (s.data.toList.take k)) ∧ Below w.heap.size w wr) (fun i _ => len - (intOf i).toNat)
  case atStart =>
    refine ⟨0, Nat.zero_le _, rfl, ?_, ?_, ?_⟩
    · rw [HR.out]; exact (HoldsS.zero _ _).alloc _
    · rw [List.take_zero, ofF_nil, HB.out]; exact HoldsS.zero2 _ _ _
    · exact ((Below.refl _ _).alloc (Nat.le_refl _) _).alloc (by simp) _
  case round =>
    obtain ⟨k, hk, rfl, hR, hS, hb⟩ := hrel
    by_cases hlt : k < len
    · have hks : k < s.size := by rw [HL.out]; exact hlt
      obtain ⟨b, o, rfl, hc⟩ : ∃ b o, a = some ⟨b, o, none⟩ ∧ wr.cell? ⟨b, o + k, none⟩ = some (.int .u8 (s[k].toNat : Int)) := by
        rcases HV.out with ⟨_, h1, h2⟩ | ⟨b, o, c, h1, _, _, h4⟩
        · subst h2; exact absurd hks (by simp)
        · simp only [Value.slice.injEq] at h1
          exact ⟨b, o, h1.1, bytes_below h4 hb k hks⟩
      have HS := Lib.hid (ofF_succ s k hks)
      have hx := byte_lt s[k]
      generalize hy : s[k].toNat = x at *
      clear hy
      generalize hg : ofF (s.data.toList.take k) = g at *
      clear hg
      have c0 := hS.c0; have c1 := hS.c1; have c2 := hS.c2; have c3 := hS.c3; have z0 := hS.z0; have z1 := hS.z1; have z2 := hS.z2; have z3 := hS.z3
      rcases quarter x hx with ⟨h1, h2⟩ | ⟨h1, h2⟩ | ⟨h1, h2⟩ | ⟨h1, h2⟩
      all_goals
        go_wp2_with fail
        refine ⟨⟨k + 1, by omega, by go_num, hR.other1 (by rw [HB.out, HR.out]; omega) _ _, ?_, hb.setCell (p := ⟨B, _, none⟩) (by show _ ≤ B; rw [HB.out]; omega) _⟩, by simp [intOf]; omega⟩
        rw [HS.out]
        exact hS.with1 x _ h2 hx
    · have HE := Lib.hid (show s.data.toList.take k = s.data.toList from List.take_of_length_le (by have := HL.out; simp; omega))
      have c0 := hS.c0; have c1 := hS.c1; have c2 := hS.c2; have c3 := hS.c3; have z0 := hS.z0; have z1 := hS.z1; have z2 := hS.z2; have z3 := hS.z3
      have d0 := hR.c0; have d1 := hR.c1; have d2 := hR.c2; have d3 := hR.c3; have y0 := hR.z0; have y1 := hR.z1; have y2 := hR.z2; have y3 := hR.z3
      go_wp2_with fail
      rw [HE.out]
      have q := hR.store (ofF s.data.toList)
      exact bodyPost_ret (v := SV _) (by simp [results, Tryd.results40, go_sem, q.c0, q.c1, q.c2, q.c3]) rfl ⟨rfl, below_put4 hb (by rw [HR.out]; omega) _⟩
set_option maxHeartbeats 1000000 in
theorem refOf_any (v : Value) (s : ByteArray) (w : World) (hv : BSl w v s) :
    Calls Tryd.prog 18 #[v] w fun e w' => e = .returned (SV (ofF s.data.toList)) ∧ Below w.heap.size w w' := by
  have HV := Lib.hid hv
  obtain ⟨len, cap, a, hvv, hll, hmx⟩ : ∃ len cap a, v = .slice a len cap ∧ s.size = len ∧ len ≤ 9223372036854775807 := by
    rcases hv with ⟨_, h1, h2⟩ | ⟨b, o, cap, h1, h2, h3, _⟩
    · exact ⟨_, _, _, h1, by rw [h2]; rfl, by omega⟩
    · exact ⟨_, _, _, h1, rfl, by unfold maxLen at h3; omega⟩
  subst hvv
  have HL := Lib.hid hll
  clear hll
  obtain ⟨B, hB⟩ : ∃ B, B = w.heap.size + 1 := ⟨_, rfl⟩
  obtain ⟨R, hR⟩ : ∃ R, R = w.heap.size := ⟨_, rfl⟩
  have HB := Lib.hid hB; clear hB
  have HR := Lib.hid hR; clear hR
  go_enter Tryd.func18, Tryd.ntmps18
  go_wp2_with fail
  rw [← HB.out, ← HR.out]
  go_loopw [4] (fun i wr => ∃ k : Nat, k ≤ len ∧ i = .int .i64 k ∧ HoldsS wr R emptyF ∧ HoldsS wr B (ofF (s.data.toList.take k)) ∧ Below w.heap.size w wr) (fun i _ => len - (intOf i).toNat)
  case atStart =>
    refine ⟨0, Nat.zero_le _, rfl, ?_, ?_, ?_⟩
    · rw [HR.out]; exact (HoldsS.zero _ _).alloc _
    · rw [List.take_zero, ofF_nil, HB.out]; exact HoldsS.zero2 _ _ _
    · exact ((Below.refl _ _).alloc (Nat.le_refl _) _).alloc (by simp) _
  case round =>
    obtain ⟨k, hk, rfl, hR, hS, hb⟩ := hrel
    by_cases hlt : k < len
    · have hks : k < s.size := by rw [HL.out]; exact hlt
      obtain ⟨b, o, rfl, hc, hbl⟩ : ∃ b o, a = some ⟨b, o, none⟩ ∧ wr.cell? ⟨b, o + k, none⟩ = some (.int .u8 (s[k].toNat : Int)) ∧ b < w.heap.size := by
        rcases HV.out with ⟨_, h1, h2⟩ | ⟨b, o, c, h1, _, _, h4⟩
        · subst h2; exact absurd hks (by simp)
        · simp only [Value.slice.injEq] at h1
          exact ⟨b, o, h1.1, bytes_below h4 hb k hks, World.block_lt_of_cell? _ _ (h4 k hks)⟩
      have HS := Lib.hid (ofF_succ s k hks)
      have hx := byte_lt s[k]
      generalize hy : s[k].toNat = x at *
      clear hy
      generalize hg : ofF (s.data.toList.take k) = g at *
      clear hg
      have H1 := Lib.hid (fun W => With_any g x hx W)
      have nB : B ≠ R := by rw [HB.out, HR.out]; omega
      have nb : b ≠ B := by rw [HB.out]; omega
      have c0 := hS.drew.c0; have c1 := hS.drew.c1; have c2 := hS.drew.c2; have c3 := hS.drew.c3
      have hcd : wr.drew.cell? ⟨b, o + k, none⟩ = some (.int .u8 (x : Int)) := hc
      go_wp2_with fail
      go_still_tail 6, (by kernel_rfl)
      change wpList _ _ _ _ _ wr.drew
      have hRd := hR.drew
      have hSd := hS.drew
      have hbd := hb.drew
      generalize wr.drew = wd2 at *
      go_wp2_with fail
      refine (H1.out _).mono ?_
      rintro e w1 ⟨rfl, hb1⟩
      have hS1 := hSd.below hb1
      have hR1 := hRd.below hb1
      have hb2 := hbd.trans (hb1.mono hbd.size)
      clear c0 c1 c2 c3
      have c0 := hS1.c0
      have c1 := hS1.c1
      have c2 := hS1.c2
      have c3 := hS1.c3
      have z0 := hS1.z0
      have z1 := hS1.z1
      have z2 := hS1.z2
      have z3 := hS1.z3
      go_wp2_with fail
      refine ⟨⟨k + 1, by omega, by go_num, hR1.other nB _, ?_, below_put4 hb2 (by rw [HB.out]; omega) _⟩, by simp [intOf]; omega⟩
      rw [HS.out]
      exact hS1.store _
    · have HE := Lib.hid (show s.data.toList.take k = s.data.toList from List.take_of_length_le (by have := HL.out; simp; omega))
      have c0 := hS.c0
      have c1 := hS.c1
      have c2 := hS.c2
      have c3 := hS.c3
      have z0 := hS.z0
      have z1 := hS.z1
      have z2 := hS.z2
      have z3 := hS.z3
      have d0 := hR.c0
      have d1 := hR.c1
      have d2 := hR.c2
      have d3 := hR.c3
      have y0 := hR.z0
      have y1 := hR.z1
      have y2 := hR.z2
      have y3 := hR.z3
      go_wp2_with fail
      rw [HE.out]
      have q := hR.store (ofF s.data.toList)
      exact bodyPost_ret (v := SV _) (by simp [results, Tryd.results18, go_sem, q.c0, q.c1, q.c2, q.c3]) rfl ⟨rfl, below_put4 hb (by rw [HR.out]; omega) _⟩
theorem eqSet (a b c d a' b' c' d' : Int) (w : World) : (Op.equalIn 10000 25 (.agg #[.int .u64 a, .int .u64 b, .int .u64 c, .int .u64 d]) (.agg #[.int .u64 a', .int .u64 b', .int .u64 c', .int .u64 d'])).run Tryd.prog w = .ok (a == a' && (b == b' && (c == c' && d == d'))) w := by
  have u3 := Tryd.underlying23
  have a3 := Tryd.isAgg23
  have z3 := Tryd.sizeOf23
  rw [show (10000 : Nat) = 9999 + 1 from rfl, Op.equalIn]
  simp only [Sem.run_bind, run_underlying Tryd.underlying25, Result.andThen_ok]
  simp only [Std.Legacy.Range.forIn_eq_forIn_range', Std.Legacy.Range.size, Nat.sub_zero, Nat.add_sub_cancel, Nat.div_one, List.range'_succ, List.range'_zero, List.forIn_cons, List.forIn_nil]
  go_simp
  by_cases h1 : a = a' <;> by_cases h2 : b = b' <;> by_cases h3 : c = c' <;> by_cases h4 : d = d' <;> simp [h1, h2, h3, h4]
end Go.Proofs.YtogdjgfgmdphgaaDoor.SetW
