/- Walks of sets and of the document's classes. -/
import Derived.Test.YtfhddbjojpmbcaaProg
import Derived.Test.YtfhddbjojpmbcaaBasics
import Derived.Laws.Bits64b
import Derived.Laws.DeepNot64
import Derived.LoopN
import Derived.RegionTactic
import Derived.BigRegion
import Derived.ChangeAlike
import Derived.Maps.AppendAt
import Derived.Deep.RegionHeld3
import Derived.Test.YtfhddbjojpmbcaaRegions
namespace Go.Proofs.Ytfhddbjojpmbcaa.SetW
set_option linter.unusedVariables false
open Go.RowKit Go.Proofs.Ytfhddbjojpmbcaa.SetM
/-- A set as a value. -/
abbrev SV (f : Nat → Bool) : Value := .agg #[.int .u64 (wd f 0), .int .u64 (wd f 1), .int .u64 (wd f 2), .int .u64 (wd f 3)]
theorem sv_at (f : Nat → Bool) (k : Nat) (hk : k < 4) : [Value.int IntKind.u64 (wd f 0), Value.int IntKind.u64 (wd f 1), Value.int IntKind.u64 (wd f 2), Value.int IntKind.u64 (wd f 3)][k]? = some (.int .u64 (wd f k)) := by
  rcases k with _ | _ | _ | _ | k <;> first | rfl | omega

theorem bitTest (x r : Nat) (hx : x < 18446744073709551616) : (bits BinOp.and IntKind.u64 ((x : Int) / 2 ^ r) 1 == 1) = x.testBit r := by
  have hd : x / 2 ^ r ≤ x := Nat.div_le_self _ _
  have e : ((x : Int) / 2 ^ r) = ((x / 2 ^ r : Nat) : Int) := by rw [Int.natCast_ediv]; simp
  have h1 := bits_and_u64_nat (x / 2 ^ r) 1 (by omega) (by decide)
  rw [e, show (1 : Int) = ((1 : Nat) : Int) from rfl, h1, Nat.and_one_is_mod, Nat.testBit_eq_decide_div_mod_eq]
  rw [Bool.eq_iff_iff]; simp; omega
theorem has_bit (f : Nat → Bool) (b : Nat) : (bits BinOp.and IntKind.u64 ((wd f (b / 64) : Int) / 2 ^ (b % 64)) 1 == 1) = f b := by
  rw [bitTest _ _ (wd_lt f _), wd_testBit, show 64 * (b / 64) + b % 64 = b by omega]
  simp [Nat.mod_lt]

theorem refHas_any (f : Nat → Bool) (b : Nat) (hb : b < 256) (w : World) :
    Calls Try.prog 66 #[SV f, .int .i64 b] w fun e w' => e = .returned (.bool (f b)) ∧ Below w.heap.size w w' := by
  have hc := sv_at f (b / 64) (by omega)
  go_enter Try.func66, Try.ntmps66
  go_wp2_with fail
  go_ret
  exact ⟨Base.ret_bool (has_bit f b), (Below.refl _ _).alloc (Nat.le_refl _) _⟩

theorem or_bit (f : Nat → Bool) (b k : Nat) (hk : b / 64 = k) : bits BinOp.or IntKind.u64 (wd f k) (IntKind.u64.wrap (2 ^ (b % 64))) = (wd (withF f b) k : Int) := by
  have hr : b % 64 < 64 := Nat.mod_lt _ (by decide)
  have hp : 2 ^ (b % 64) < 2 ^ 64 := Nat.pow_lt_pow_right (by decide) hr
  have e : IntKind.u64.wrap (2 ^ (b % 64)) = ((2 ^ (b % 64) : Nat) : Int) := by
    rw [show ((2 : Int) ^ (b % 64)) = ((2 ^ (b % 64) : Nat) : Int) by simp, IntKind.wrap_u64]
    generalize 2 ^ (b % 64) = p at *
    omega
  rw [e, bits_or_u64_nat _ _ (wd_lt f k) hp, wd_set f k _ hr, show 64 * k + b % 64 = b by omega]
theorem other_word (f : Nat → Bool) (b k : Nat) (h : b / 64 ≠ k) : (wd f k : Int) = (wd (withF f b) k : Int) := by rw [← wd_other f k b h]

theorem With_any (f : Nat → Bool) (b : Nat) (hb : b < 256) (w : World) :
    Calls Try.prog 67 #[SV f, .int .i64 b] w fun e w' => e = .returned (SV (withF f b)) ∧ Below w.heap.size w w' := by
  have hq : ((b : Int) / 64 = 0 ∧ b / 64 = 0) ∨ ((b : Int) / 64 = 1 ∧ b / 64 = 1) ∨ ((b : Int) / 64 = 2 ∧ b / 64 = 2) ∨ ((b : Int) / 64 = 3 ∧ b / 64 = 3) := by omega
  rcases hq with ⟨h1, h2⟩ | ⟨h1, h2⟩ | ⟨h1, h2⟩ | ⟨h1, h2⟩
  · have H0 := Lib.hid (or_bit f b 0 h2); have H1 := Lib.hid (other_word f b 1 (by omega)); have H2 := Lib.hid (other_word f b 2 (by omega)); have H3 := Lib.hid (other_word f b 3 (by omega))
    go_enter Try.func67, Try.ntmps67
    go_wp2_with fail
    rw [H0.out, H1.out, H2.out, H3.out]
    exact bodyPost_ret (v := SV (withF f b)) (by simp [results, Try.results67, go_sem]) rfl ⟨rfl, ((Below.refl _ _).alloc (Nat.le_refl _) _).alloc (by simp) _⟩
  · have H0 := Lib.hid (other_word f b 0 (by omega)); have H1 := Lib.hid (or_bit f b 1 h2); have H2 := Lib.hid (other_word f b 2 (by omega)); have H3 := Lib.hid (other_word f b 3 (by omega))
    go_enter Try.func67, Try.ntmps67
    go_wp2_with fail
    rw [H1.out, H0.out, H2.out, H3.out]
    exact bodyPost_ret (v := SV (withF f b)) (by simp [results, Try.results67, go_sem]) rfl ⟨rfl, ((Below.refl _ _).alloc (Nat.le_refl _) _).alloc (by simp) _⟩
  · have H0 := Lib.hid (other_word f b 0 (by omega)); have H2 := Lib.hid (or_bit f b 2 h2); have H1 := Lib.hid (other_word f b 1 (by omega)); have H3 := Lib.hid (other_word f b 3 (by omega))
    go_enter Try.func67, Try.ntmps67
    go_wp2_with fail
    rw [H2.out, H0.out, H1.out, H3.out]
    exact bodyPost_ret (v := SV (withF f b)) (by simp [results, Try.results67, go_sem]) rfl ⟨rfl, ((Below.refl _ _).alloc (Nat.le_refl _) _).alloc (by simp) _⟩
  · have H0 := Lib.hid (other_word f b 0 (by omega)); have H3 := Lib.hid (or_bit f b 3 h2); have H1 := Lib.hid (other_word f b 1 (by omega)); have H2 := Lib.hid (other_word f b 2 (by omega))
    go_enter Try.func67, Try.ntmps67
    go_wp2_with fail
    rw [H3.out, H0.out, H1.out, H2.out]
    exact bodyPost_ret (v := SV (withF f b)) (by simp [results, Try.results67, go_sem]) rfl ⟨rfl, ((Below.refl _ _).alloc (Nat.le_refl _) _).alloc (by simp) _⟩

theorem index0 (a b c d : Value) (w : World) : (Instr.index 93 (.agg #[a, b, c, d]) (.int .i64 0)).run Try.prog w = .ok a w := by kernel_rfl
theorem index1 (a b c d : Value) (w : World) : (Instr.index 93 (.agg #[a, b, c, d]) (.int .i64 1)).run Try.prog w = .ok b w := by kernel_rfl
theorem index2 (a b c d : Value) (w : World) : (Instr.index 93 (.agg #[a, b, c, d]) (.int .i64 2)).run Try.prog w = .ok c w := by kernel_rfl
theorem index3 (a b c d : Value) (w : World) : (Instr.index 93 (.agg #[a, b, c, d]) (.int .i64 3)).run Try.prog w = .ok d w := by kernel_rfl
theorem not_word (f : Nat → Bool) (k : Nat) : bits BinOp.xor IntKind.u64 IntKind.u64.max (wd f k) = (wd (notF f) k : Int) := by
  have h := wd_lt f k
  rw [← wd_not]
  show IntKind.u64.wrap ((BitVec.ofInt 64 IntKind.u64.max ^^^ BitVec.ofInt 64 (wd f k : Int)).toNat : Int) = _
  have h1 : BitVec.ofInt 64 IntKind.u64.max = BitVec.allOnes 64 := by decide
  rw [h1, BitVec.allOnes_xor, BitVec.toNat_not, BitVec.ofInt_natCast, BitVec.toNat_ofNat, Nat.mod_eq_of_lt h, IntKind.wrap_u64]
  omega
theorem and_word (f g : Nat → Bool) (k : Nat) : bits BinOp.and IntKind.u64 (wd f k) (wd g k) = (wd (meetF f g) k : Int) := by
  rw [bits_and_u64_nat _ _ (wd_lt f k) (wd_lt g k), wd_and]
theorem or_word (f g : Nat → Bool) (k : Nat) : bits BinOp.or IntKind.u64 (wd f k) (wd g k) = (wd (unionF f g) k : Int) := by
  rw [bits_or_u64_nat _ _ (wd_lt f k) (wd_lt g k), wd_or]
theorem or_word0 (g : Nat → Bool) (k : Nat) : bits BinOp.or IntKind.u64 0 (wd g k) = (wd g k : Int) := by
  have := bits_or_u64_nat 0 (wd g k) (by decide) (wd_lt g k)
  simpa using this
end Go.Proofs.Ytfhddbjojpmbcaa.SetW
namespace Go.Proofs.Ytfhddbjojpmbcaa.SetW
set_option linter.unusedVariables false
open Go.RowKit Go.Proofs.Ytfhddbjojpmbcaa.SetM

/-- Block B's first four cells are a set's words; they may be written. -/
structure HoldsS (W : World) (B : Nat) (f : Nat → Bool) : Prop where
  c0 : W.cell? ⟨B, 0, none⟩ = some (.int .u64 (wd f 0))
  c1 : W.cell? ⟨B, 1, none⟩ = some (.int .u64 (wd f 1))
  c2 : W.cell? ⟨B, 2, none⟩ = some (.int .u64 (wd f 2))
  c3 : W.cell? ⟨B, 3, none⟩ = some (.int .u64 (wd f 3))
  z0 : W.frozen? ⟨B, 0, none⟩ = false
  z1 : W.frozen? ⟨B, 1, none⟩ = false
  z2 : W.frozen? ⟨B, 2, none⟩ = false
  z3 : W.frozen? ⟨B, 3, none⟩ = false
theorem HoldsS.lt {W : World} {B : Nat} {f : Nat → Bool} (h : HoldsS W B f) : B < W.heap.size := World.block_lt_of_cell? _ _ h.c0
theorem HoldsS.below {W W' : World} {B : Nat} {f : Nat → Bool} (h : HoldsS W B f) (hb : Below W.heap.size W W') : HoldsS W' B f :=
  ⟨(hb.cell (p := ⟨B, 0, none⟩) h.lt).trans h.c0, (hb.cell (p := ⟨B, 1, none⟩) h.lt).trans h.c1, (hb.cell (p := ⟨B, 2, none⟩) h.lt).trans h.c2, (hb.cell (p := ⟨B, 3, none⟩) h.lt).trans h.c3,
   (hb.frozen (p := ⟨B, 0, none⟩) h.lt).trans h.z0, (hb.frozen (p := ⟨B, 1, none⟩) h.lt).trans h.z1, (hb.frozen (p := ⟨B, 2, none⟩) h.lt).trans h.z2, (hb.frozen (p := ⟨B, 3, none⟩) h.lt).trans h.z3⟩
theorem HoldsS.new (w : World) (f : Nat → Bool) (t : TypeId) : HoldsS (w.alloc (.cells #[.int .u64 (wd f 0), .int .u64 (wd f 1), .int .u64 (wd f 2), .int .u64 (wd f 3)] t)) w.heap.size f := by
  constructor <;> first | (rw [World.cell?_alloc_new]; rfl) | exact World.frozen?_alloc_new _ _ _ _
theorem HoldsS.zero (w : World) (t : TypeId) : HoldsS (w.alloc (.cells #[.int .u64 0, .int .u64 0, .int .u64 0, .int .u64 0] t)) w.heap.size emptyF := by
  have h := HoldsS.new w emptyF t
  rw [wd_empty, wd_empty, wd_empty, wd_empty] at h
  exact h
theorem HoldsS.alloc {W : World} {B : Nat} {f : Nat → Bool} (h : HoldsS W B f) (o : Obj) : HoldsS (W.alloc o) B f := h.below ((Below.refl _ _).alloc (Nat.le_refl _) _)
theorem cell_set (W : World) (B i j : Nat) (v : Value) (h : i ≠ j) : (W.setCell ⟨B, i, none⟩ v).cell? ⟨B, j, none⟩ = W.cell? ⟨B, j, none⟩ :=
  World.cell?_setCell_other W ⟨B, i, none⟩ ⟨B, j, none⟩ v (fun e => h (by injection e))
/-- A set stored. -/
abbrev put4 (W : World) (B : Nat) (g : Nat → Bool) : World :=
  (((W.setCell ⟨B, 0, none⟩ (.int .u64 (wd g 0))).setCell ⟨B, 1, none⟩ (.int .u64 (wd g 1))).setCell ⟨B, 2, none⟩ (.int .u64 (wd g 2))).setCell ⟨B, 3, none⟩ (.int .u64 (wd g 3))
theorem HoldsS.store {W : World} {B : Nat} {f : Nat → Bool} (h : HoldsS W B f) (g : Nat → Bool) : HoldsS (put4 W B g) B g := by
  have e0 := h.c0; have e1 := h.c1; have e2 := h.c2; have e3 := h.c3
  refine ⟨?_, ?_, ?_, ?_, ?_, ?_, ?_, ?_⟩
  · rw [cell_set _ _ _ _ _ (by decide), cell_set _ _ _ _ _ (by decide), cell_set _ _ _ _ _ (by decide)]
    exact World.cell?_setCell_same _ _ _ e0
  · rw [cell_set _ _ _ _ _ (by decide), cell_set _ _ _ _ _ (by decide)]
    refine World.cell?_setCell_same (u := .int .u64 (wd f 1)) _ _ _ ?_
    rw [cell_set _ _ _ _ _ (by decide)]; exact e1
  · rw [cell_set _ _ _ _ _ (by decide)]
    refine World.cell?_setCell_same (u := .int .u64 (wd f 2)) _ _ _ ?_
    rw [cell_set _ _ _ _ _ (by decide), cell_set _ _ _ _ _ (by decide)]; exact e2
  · refine World.cell?_setCell_same (u := .int .u64 (wd f 3)) _ _ _ ?_
    rw [cell_set _ _ _ _ _ (by decide), cell_set _ _ _ _ _ (by decide), cell_set _ _ _ _ _ (by decide)]; exact e3
  all_goals simp only [World.frozen?_setCell]
  · exact h.z0
  · exact h.z1
  · exact h.z2
  · exact h.z3
theorem below_put4 {n : Nat} {w W : World} {B : Nat} (hb : Below n w W) (h : n ≤ B) (g : Nat → Bool) : Below n w (put4 W B g) :=
  (((hb.setCell (p := ⟨B, 0, none⟩) h _).setCell (p := ⟨B, 1, none⟩) h _).setCell (p := ⟨B, 2, none⟩) h _).setCell (p := ⟨B, 3, none⟩) h _

theorem HoldsS.other {W : World} {R : Nat} {f : Nat → Bool} (h : HoldsS W R f) {B : Nat} (hne : B ≠ R) (g : Nat → Bool) : HoldsS (put4 W B g) R f := by
  have c : ∀ (X : World) (i j : Nat) (v : Value), (X.setCell ⟨B, i, none⟩ v).cell? ⟨R, j, none⟩ = X.cell? ⟨R, j, none⟩ := fun X i j v =>
    World.cell?_setCell_other X ⟨B, i, none⟩ ⟨R, j, none⟩ v (fun e => hne (by injection e))
  refine ⟨?_, ?_, ?_, ?_, ?_, ?_, ?_, ?_⟩
  · rw [c, c, c, c]; exact h.c0
  · rw [c, c, c, c]; exact h.c1
  · rw [c, c, c, c]; exact h.c2
  · rw [c, c, c, c]; exact h.c3
  all_goals simp only [World.frozen?_setCell]
  · exact h.z0
  · exact h.z1
  · exact h.z2
  · exact h.z3
theorem HoldsS.drew {W : World} {B : Nat} {f : Nat → Bool} (h : HoldsS W B f) : HoldsS W.drew B f := ⟨h.c0, h.c1, h.c2, h.c3, h.z0, h.z1, h.z2, h.z3⟩
theorem HoldsS.zero2 (w : World) (o : Obj) (t : TypeId) : HoldsS ((w.alloc o).alloc (.cells #[.int .u64 0, .int .u64 0, .int .u64 0, .int .u64 0] t)) (w.heap.size + 1) emptyF := by
  rw [← World.size_alloc w o]; exact HoldsS.zero _ _

theorem span_step {lo k : Nat} (h : lo ≤ k) : withF (spanF lo k) k = spanF lo (k + 1) := by
  funext i; unfold withF spanF; rw [Bool.eq_iff_iff]; simp; omega
theorem span_none {lo hi : Nat} (h : hi ≤ lo) : spanF lo hi = emptyF := by
  funext i; unfold spanF emptyF; rw [Bool.eq_iff_iff]; simp; omega
end Go.Proofs.Ytfhddbjojpmbcaa.SetW
namespace Go.Proofs.Ytfhddbjojpmbcaa.PartW
set_option linter.unusedVariables false
open Go.RowKit Go.Maps Go.Proofs.Ytfhddbjojpmbcaa.PartM Go.Proofs.Ytfhddbjojpmbcaa.SetM Go.Proofs.Ytfhddbjojpmbcaa.SetW

/-- The cells of some sets, one behind the other. -/
def setCells (fs : List (Nat → Bool)) : List Value := fs.flatMap fun f => [.int .u64 (wd f 0), .int .u64 (wd f 1), .int .u64 (wd f 2), .int .u64 (wd f 3)]
theorem setCells_length (fs : List (Nat → Bool)) : (setCells fs).length = fs.length * 4 := by
  induction fs with
  | nil => rfl
  | cons f fs ih => simp [setCells] at *; omega
theorem setCells_snoc (fs : List (Nat → Bool)) (f : Nat → Bool) : setCells (fs ++ [f]) = setCells fs ++ [.int .u64 (wd f 0), .int .u64 (wd f 1), .int .u64 (wd f 2), .int .u64 (wd f 3)] := by simp [setCells]
theorem setCells_app (fs gs : List (Nat → Bool)) : setCells (fs ++ gs) = setCells fs ++ setCells gs := by simp [setCells]
theorem setCells_at (fs : List (Nat → Bool)) (k j : Nat) (hk : k < fs.length) (hj : j < 4) : (setCells fs)[k * 4 + j]? = some (.int .u64 (wd fs[k] j)) := by
  induction fs generalizing k with
  | nil => simp at hk
  | cons f fs ih =>
    rw [show setCells (f :: fs) = setCells [f] ++ setCells fs from setCells_app [f] fs]
    cases k with
    | zero =>
      rw [List.getElem?_append_left (by simp [setCells]; omega)]
      rcases j with _ | _ | _ | _ | j
      all_goals first | rfl | omega
    | succ k =>
      rw [List.getElem?_append_right (by simp [setCells]; omega)]
      have := ih k (by simpa using hk)
      rw [show (k + 1) * 4 + j - (setCells [f]).length = k * 4 + j by simp [setCells]; omega, this]
      simp
/-- The cells of the sets fs lie in block b from o on. -/
def SetsO (w : World) (b o : Nat) (fs : List (Nat → Bool)) : Prop := ∀ k (h : k < fs.length), ∀ j, j < 4 → w.cell? ⟨b, o + k * 4 + j, none⟩ = some (.int .u64 (wd fs[k] j))
/-- A slice of sets that reads as fs. -/
def SSl (w : World) (v : Value) (fs : List (Nat → Bool)) : Prop :=
  (∃ a, v = .slice a 0 0 ∧ fs = []) ∨ ∃ b o cap, v = .slice (some ⟨b, o, none⟩) fs.length cap ∧ fs.length ≤ cap ∧ cap ≤ maxLen ∧ SetsO w b o fs
theorem SetsO.below {w w' : World} {b o : Nat} {fs : List (Nat → Bool)} (h : SetsO w b o fs) (hb : Below w.heap.size w w') : SetsO w' b o fs := fun k hk j hj => by
  have hc := h k hk j hj
  rw [hb.cell (World.block_lt_of_cell? _ _ hc)]; exact hc
theorem SSl.below {w w' : World} {v : Value} {fs : List (Nat → Bool)} (h : SSl w v fs) (hb : Below w.heap.size w w') : SSl w' v fs := by
  rcases h with h | ⟨b, o, cap, h1, h2, h3, h4⟩
  · exact .inl h
  · exact .inr ⟨b, o, cap, h1, h2, h3, h4.below hb⟩
theorem SSl.alloc {w : World} {v : Value} {fs : List (Nat → Bool)} (h : SSl w v fs) (o : Obj) : SSl (w.alloc o) v fs := h.below ((Below.refl _ _).alloc (Nat.le_refl _) _)
theorem SSl.drew {w : World} {v : Value} {fs : List (Nat → Bool)} (h : SSl w v fs) : SSl w.drew v fs := h
/-- A slice of sets, and what is got at a place. -/
theorem SSl.shape {w : World} {v : Value} {fs : List (Nat → Bool)} (h : SSl w v fs) : ∃ a cap, v = .slice a fs.length cap ∧ fs.length ≤ cap ∧ cap ≤ maxLen ∧ (fs = [] ∨ ∃ b o, a = some ⟨b, o, none⟩ ∧ SetsO w b o fs) := by
  rcases h with ⟨a, rfl, rfl⟩ | ⟨b, o, cap, rfl, h2, h3, h4⟩
  · exact ⟨a, 0, rfl, Nat.le_refl _, by unfold maxLen; omega, .inl rfl⟩
  · exact ⟨_, cap, rfl, h2, h3, .inr ⟨b, o, rfl, h4⟩⟩
theorem SetsO.at {w : World} {b o : Nat} {fs : List (Nat → Bool)} (h : SetsO w b o fs) {k : Nat} (hk : k < fs.length) :
    w.cell? ⟨b, o + k * 4, none⟩ = some (.int .u64 (wd fs[k] 0)) ∧ w.cell? ⟨b, o + k * 4 + 1, none⟩ = some (.int .u64 (wd fs[k] 1)) ∧ w.cell? ⟨b, o + k * 4 + 2, none⟩ = some (.int .u64 (wd fs[k] 2)) ∧ w.cell? ⟨b, o + k * 4 + 3, none⟩ = some (.int .u64 (wd fs[k] 3)) :=
  ⟨h k hk 0 (by omega), h k hk 1 (by omega), h k hk 2 (by omega), h k hk 3 (by omega)⟩
/-- What the call owns reads as a slice of sets. -/
theorem SSl.of_owns {w : World} {base : Nat} {e : TypeId} {v : Value} {n : Nat} {fs : List (Nat → Bool)} (h : w.ownsRow base e 4 v n (setCells fs)) : SSl w v fs := by
  have hl : fs.length = n := by have := h.1; rw [setCells_length] at this; omega
  rcases h.2 with ⟨h1, h2⟩ | ⟨g, cap, cur, rfl, hg, hh, hn, hc, hs, hx⟩
  · refine .inl ⟨_, h1, ?_⟩
    rw [h2] at hl
    exact List.length_eq_zero_iff.1 hl
  · refine .inr ⟨g, 0, cap, by rw [hl], by omega, hc, fun k hk j hj => ?_⟩
    have h' := h
    rw [show 0 + k * 4 + j = k * 4 + j by omega, World.ownsRow.cellAt h' (k * 4 + j) (by omega), setCells_at fs k j hk hj]
/-- Of which sets is b? -/
def memF (fs : List (Nat → Bool)) (b : Nat) : Nat → Bool := fun i => match fs[i]? with | some f => f b | none => false
theorem memF_at {fs : List (Nat → Bool)} {k : Nat} (hk : k < fs.length) (b : Nat) : memF fs b k = fs[k] b := by simp [memF, List.getElem?_eq_getElem hk]
theorem memF_far {fs : List (Nat → Bool)} {k : Nat} (hk : fs.length ≤ k) (b : Nat) : memF fs b k = false := by simp [memF, List.getElem?_eq_none hk]
end Go.Proofs.Ytfhddbjojpmbcaa.PartW
namespace Go.Proofs.Ytfhddbjojpmbcaa.PartW
set_option linter.unusedVariables false
open Go.RowKit Go.Maps Go.Proofs.Ytfhddbjojpmbcaa.PartM Go.Proofs.Ytfhddbjojpmbcaa.SetM Go.Proofs.Ytfhddbjojpmbcaa.SetW

/-- The first n classes, as far as the bytes below c go. -/
def clsL (E : Nat → Nat → Bool) (c n : Nat) : List (Nat → Bool) := (List.range n).map (cls E c)
theorem clsL_length (E : Nat → Nat → Bool) (c n : Nat) : (clsL E c n).length = n := by simp [clsL]
theorem clsL_at {E : Nat → Nat → Bool} {c n i : Nat} (h : i < (clsL E c n).length) : (clsL E c n)[i] = cls E c i := by simp [clsL]
variable {E : Nat → Nat → Bool}
theorem clsL_new (hE : Eqv E) {c : Nat} (hc : fst E c = c) : clsL E (c + 1) (rk E (c + 1)) = clsL E c (rk E c) ++ [spanF c (c + 1)] := by
  unfold clsL
  rw [rk_new hc, List.range_succ, List.map_append, List.map_cons, List.map_nil]
  congr 1
  · apply List.map_congr_left
    intro i hi
    rw [List.mem_range] at hi
    exact (cls_other c i (by rw [nm_first hc]; omega)).symm
  · rw [← cls_with c _ (nm_first hc), cls_far hE (Nat.le_refl _)]
    congr 1
    funext x
    unfold withF emptyF spanF
    rw [Bool.eq_iff_iff]; simp; omega
theorem clsL_old {c : Nat} (hc : fst E c ≠ c) : clsL E (c + 1) (rk E (c + 1)) = (clsL E c (rk E c)).set (nm E c) (withF (cls E c (nm E c)) c) := by
  rw [rk_old hc]
  apply List.ext_getElem?
  intro i
  by_cases hi : i < rk E c
  · rw [List.getElem?_eq_getElem (by rw [clsL_length]; exact hi), clsL_at]
    by_cases e : nm E c = i
    · subst e
      rw [List.getElem?_set_self (by rw [clsL_length]; exact hi), cls_with c _ rfl]
    · rw [List.getElem?_set_ne e, List.getElem?_eq_getElem (by rw [clsL_length]; exact hi), clsL_at, cls_other c i e]
  · rw [List.getElem?_eq_none (by rw [clsL_length]; omega), List.getElem?_eq_none (by rw [List.length_set, clsL_length]; omega)]
theorem nm_old (hE : Eqv E) {c : Nat} (hc : fst E c ≠ c) : nm E c < rk E c := by
  have h1 : fst E c < c := by have := fst_le E c; omega
  have := nm_lt hE h1 (n := c)
  rwa [nm_congr hE (fst_alike hE c)] at this
theorem nm_none (hE : Eqv E) {c : Nat} (h : ∀ j, j < rk E c → nm E c ≠ j) : fst E c = c := by
  by_cases hc : fst E c = c
  · exact hc
  · exact absurd rfl (h _ (nm_old hE hc))

/-- One set stored into a row of sets. -/
theorem setCells_set (fs : List (Nat → Bool)) (k : Nat) (g : Nat → Bool) (hk : k < fs.length) :
    setCells (fs.set k g) = ((((setCells fs).set (k * 4) (.int .u64 (wd g 0))).set (k * 4 + 1) (.int .u64 (wd g 1))).set (k * 4 + 2) (.int .u64 (wd g 2))).set (k * 4 + 3) (.int .u64 (wd g 3)) := by
  have hl := setCells_length fs
  apply List.ext_getElem?
  intro i
  by_cases hi : i < fs.length * 4
  · obtain ⟨q, r, hr, rfl⟩ : ∃ q r, r < 4 ∧ i = q * 4 + r := ⟨i / 4, i % 4, by omega, by omega⟩
    have hq : q < fs.length := by omega
    rw [setCells_at _ q r (by rw [List.length_set]; exact hq) hr]
    by_cases e : k = q
    · subst e
      rw [List.getElem_set_self]
      rcases r with _ | _ | _ | _ | r
      · simp only [Nat.add_zero]
        rw [List.getElem?_set_ne (by omega), List.getElem?_set_ne (by omega), List.getElem?_set_ne (by omega), List.getElem?_set_self (by omega)]
      · rw [List.getElem?_set_ne (by omega), List.getElem?_set_ne (by omega), List.getElem?_set_self (by rw [List.length_set]; omega)]
      · rw [List.getElem?_set_ne (by omega), List.getElem?_set_self (by rw [List.length_set, List.length_set]; omega)]
      · rw [List.getElem?_set_self (by rw [List.length_set, List.length_set, List.length_set]; omega)]
      · omega
    · rw [List.getElem_set_ne e, List.getElem?_set_ne (by omega), List.getElem?_set_ne (by omega), List.getElem?_set_ne (by omega), List.getElem?_set_ne (by omega), setCells_at fs q r hq hr]
  · rw [List.getElem?_eq_none (by rw [setCells_length, List.length_set]; omega), List.getElem?_eq_none (by rw [List.length_set, List.length_set, List.length_set, List.length_set]; omega)]
/-- Four cells stored from i on in block b. -/
abbrev put4At (W : World) (b i : Nat) (g : Nat → Bool) : World :=
  (((W.setCell ⟨b, i, none⟩ (.int .u64 (wd g 0))).setCell ⟨b, i + 1, none⟩ (.int .u64 (wd g 1))).setCell ⟨b, i + 2, none⟩ (.int .u64 (wd g 2))).setCell ⟨b, i + 3, none⟩ (.int .u64 (wd g 3))
theorem owns_put4 {w : World} {base : Nat} {e : TypeId} {b n cap : Nat} {fs : List (Nat → Bool)} (h : w.ownsRow base e 4 (.slice (some ⟨b, 0, none⟩) n cap) n (setCells fs)) {k : Nat} (hk : k < fs.length) (g : Nat → Bool) :
    (put4At w b (k * 4) g).ownsRow base e 4 (.slice (some ⟨b, 0, none⟩) n cap) n (setCells (fs.set k g)) := by
  rw [setCells_set fs k g hk]
  exact ((((h.stored (k * 4) _).1.stored (k * 4 + 1) _).1.stored (k * 4 + 2) _).1.stored (k * 4 + 3) _).1
theorem below_put4At {n : Nat} {w W : World} {b i : Nat} (hb : Below n w W) (h : n ≤ b) (g : Nat → Bool) : Below n w (put4At W b i g) :=
  (((hb.setCell (p := ⟨b, i, none⟩) h _).setCell (p := ⟨b, i + 1, none⟩) h _).setCell (p := ⟨b, i + 2, none⟩) h _).setCell (p := ⟨b, i + 3, none⟩) h _
theorem heap_put4At {W : World} {b i k : Nat} (h : k ≠ b) (g : Nat → Bool) : (put4At W b i g).heap[k]? = W.heap[k]? := by
  unfold put4At
  rw [Below.heap_setCell _ ⟨b, _, none⟩ _ k h, Below.heap_setCell _ ⟨b, _, none⟩ _ k h, Below.heap_setCell _ ⟨b, _, none⟩ _ k h, Below.heap_setCell _ ⟨b, _, none⟩ _ k h]
/-- A row of at least one set, written out, and what may be written there. -/
theorem owns_shape {w : World} {base : Nat} {e : TypeId} {v : Value} {n : Nat} {fs : List (Nat → Bool)} (h : w.ownsRow base e 4 v n (setCells fs)) (hn : 0 < n) : ∃ b cap, v = .slice (some ⟨b, 0, none⟩) n cap ∧ base ≤ b ∧ n ≤ cap ∧ cap ≤ maxLen := by
  rcases h.2 with ⟨_, h1⟩ | ⟨g, cap, cur, rfl, hg, hh, hn', hc, hs, hx⟩
  · omega
  · exact ⟨g, cap, rfl, hg, hn', hc⟩
theorem owns_len {w : World} {base : Nat} {e : TypeId} {v : Value} {n : Nat} {fs : List (Nat → Bool)} (h : w.ownsRow base e 4 v n (setCells fs)) : fs.length = n := by have := h.1; rw [setCells_length] at this; omega
/-- What is owned stays owned over a call. -/
theorem owns_below {w w' : World} {b : Nat} {e : TypeId} {s : Nat} {v : Value} {n : Nat} {xs : List Value} (h : w.ownsRow b e s v n xs) (hb : Below w.heap.size w w') : w'.ownsRow b e s v n xs := by
  obtain ⟨h1, h2⟩ := h
  refine ⟨h1, ?_⟩
  rcases h2 with h2 | ⟨g, cap, cur, rfl, hg, hgh, hr⟩
  · exact .inl h2
  · exact .inr ⟨g, cap, cur, rfl, hg, by rw [hb.block g (Array.getElem?_eq_some_iff.1 hgh).1]; exact hgh, hr⟩
theorem owns_heap {w w' : World} {b : Nat} {e : TypeId} {s : Nat} {v : Value} {n : Nat} {xs : List Value} (h : w.ownsRow b e s v n xs) (hh : ∀ k, v.ownBlock = some k → w'.heap[k]? = w.heap[k]?) : w'.ownsRow b e s v n xs := by
  obtain ⟨h1, h2⟩ := h
  refine ⟨h1, ?_⟩
  rcases h2 with h2 | ⟨g, cap, cur, rfl, hg, hgh, hr⟩
  · exact .inl h2
  · exact .inr ⟨g, cap, cur, rfl, hg, by rw [hh g (by simp [Value.ownBlock])]; exact hgh, hr⟩
/-- A row's block is none of another type. -/
theorem owns_ne {w : World} {b : Nat} {e : TypeId} {s : Nat} {v : Value} {n : Nat} {xs : List Value} (h : w.ownsRow b e s v n xs) {A : Nat} {D : Array Value} {t : TypeId} (hA : Ar w A D t) (ht : t ≠ e) {k : Nat} (hk : v.ownBlock = some k) : k ≠ A := by
  rcases h.2 with ⟨rfl, _⟩ | ⟨g, cap, cur, rfl, hb, hg, _⟩
  · simp [Value.ownBlock] at hk
  · simp [Value.ownBlock] at hk
    subst hk
    rintro rfl
    have hx := hg.symm.trans (show w.heap[g]? = some (.cells D t (0, 0)) from hA)
    injection hx with hx
    injection hx with _ h2
    exact ht h2.symm
theorem set_one (w : World) (g : Nat → Bool) (t : TypeId) : ∀ j u, [Value.int .u64 (wd g 0), .int .u64 (wd g 1), .int .u64 (wd g 2), .int .u64 (wd g 3)][j]? = some u → (w.alloc (.cells #[.int .u64 (wd g 0), .int .u64 (wd g 1), .int .u64 (wd g 2), .int .u64 (wd g 3)] t)).cell? ((⟨w.heap.size, 0, none⟩ : Addr).add j) = some u := by
  intro j u hj
  rcases j with _ | _ | _ | _ | j
  all_goals first | (simp at hj; subst hj; simp [Addr.add]) | (simp at hj)
theorem infoSet : (Try.prog.info? 93).map (fun i => (i.zero, i.size, i.bytes)) = some (some (.agg #[.int .u64 0, .int .u64 0, .int .u64 0, .int .u64 0]), 4, 32) := by kernel_rfl
end Go.Proofs.Ytfhddbjojpmbcaa.PartW
namespace Go.Proofs.Ytfhddbjojpmbcaa.PartW
set_option linter.unusedVariables false
set_option linter.unusedSimpArgs false
open Go.Proofs.Ytfhddbjojpmbcaa.RegionU (wpU_taken wpU_one wpU_done wp_region_U)
open Go.RowKit Go.Maps Go.Proofs.Ytfhddbjojpmbcaa.PartM Go.Proofs.Ytfhddbjojpmbcaa.SetM Go.Proofs.Ytfhddbjojpmbcaa.SetW

/-- A set's words lie in block B from i on. -/
def At4 (W : World) (B i : Nat) (g : Nat → Bool) : Prop := W.cell? ⟨B, i, none⟩ = some (.int .u64 (wd g 0)) ∧ W.cell? ⟨B, i + 1, none⟩ = some (.int .u64 (wd g 1)) ∧ W.cell? ⟨B, i + 2, none⟩ = some (.int .u64 (wd g 2)) ∧ W.cell? ⟨B, i + 3, none⟩ = some (.int .u64 (wd g 3))
theorem At4.below {W W' : World} {B i : Nat} {g : Nat → Bool} (h : At4 W B i g) (hb : Below W.heap.size W W') : At4 W' B i g := by
  obtain ⟨h0, h1, h2, h3⟩ := h
  exact ⟨(hb.cell (World.block_lt_of_cell? _ _ h0)).trans h0, (hb.cell (World.block_lt_of_cell? _ _ h1)).trans h1, (hb.cell (World.block_lt_of_cell? _ _ h2)).trans h2, (hb.cell (World.block_lt_of_cell? _ _ h3)).trans h3⟩
/-- What a region over one set of a list knows. -/
def RC (w : World) (B i : Nat) (g : Nat → Bool) (W : World) : Prop := At4 W B i g ∧ Below w.heap.size w W
theorem RC.up (w : World) (B i : Nat) (g : Nat → Bool) : RegionU.Up (RC w B i g) := fun W W' ⟨h1, h2⟩ hr => ⟨h1.below hr, h2.trans (hr.mono h2.size)⟩
theorem wrap_len {k L : Nat} (h : k < L) (hm : L ≤ maxLen) : wrap64 ((k : Int) + 1) = (k : Int) + 1 := by unfold maxLen at hm; unfold wrap64; omega
theorem wrap_succ {k : Nat} (h : k < 4611686018427387904) : wrap64 ((k : Int) + 1) = (k : Int) + 1 := by unfold wrap64; omega

theorem clsL_mem {E : Nat → Nat → Bool} {c n i : Nat} (h : i < n) : ∃ hi : i < (clsL E c n).length, (clsL E c n)[i] = cls E c i := ⟨by rw [clsL_length]; exact h, clsL_at _⟩
theorem owns_at {w : World} {base : Nat} {e : TypeId} {b n cap : Nat} {fs : List (Nat → Bool)} (h : w.ownsRow base e 4 (.slice (some ⟨b, 0, none⟩) n cap) n (setCells fs)) {k : Nat} (hk : k < fs.length) : At4 w b (k * 4) fs[k] := by
  have hl := owns_len h
  have c : ∀ j, j < 4 → w.cell? ⟨b, k * 4 + j, none⟩ = some (.int .u64 (wd fs[k] j)) := fun j hj => by
    rw [h.cellAt (k * 4 + j) (by omega), setCells_at fs k j hk hj]
  exact ⟨c 0 (by omega), c 1 (by omega), c 2 (by omega), c 3 (by omega)⟩

theorem owns_succ {w : World} {base : Nat} {e : TypeId} {s : Nat} {v : Value} {n : Nat} {xs : List Value} (h : w.ownsRow base e s v (n + 1) xs) : ∃ g cap : Nat, v = .slice (some ⟨g, 0, none⟩) (n + 1) cap := by
  rcases h.2 with ⟨_, h⟩ | ⟨g, cap, _, h, _⟩
  · omega
  · exact ⟨g, cap, h⟩
end Go.Proofs.Ytfhddbjojpmbcaa.PartW
namespace Go.Proofs.Ytfhddbjojpmbcaa.PartW
set_option linter.unusedVariables false
open Go.RowKit Go.Maps Go.Proofs.Ytfhddbjojpmbcaa.PartM Go.Proofs.Ytfhddbjojpmbcaa.SetM Go.Proofs.Ytfhddbjojpmbcaa.SetW

/-- The array when the classes below i are numbered, and those bytes of class i that are below c. -/
def numTo (E : Nat → Nat → Bool) (i c : Nat) : Nat → Nat := fun x => if nm E x < i ∨ (nm E x = i ∧ x < c) then nm E x else 0
theorem numTo_zero (E : Nat → Nat → Bool) : numTo E 0 0 = fun _ => 0 := by funext x; simp [numTo]
theorem numTo_next {C : Array Value} {E : Nat → Nat → Bool} {i : Nat} (h : IsA C (numTo E i 256)) : IsA C (numTo E (i + 1) 0) := h.congr fun x hx => by
  unfold numTo
  by_cases h1 : nm E x < i + 1
  · rw [if_pos (by omega), if_pos (.inl h1)]
  · rw [if_neg (by omega), if_neg (by omega)]
theorem numTo_all {C : Array Value} {E : Nat → Nat → Bool} (hE : Eqv E) (h : IsA C (numTo E (rk E 256) 0)) : IsA C (nm E) := h.congr fun x hx => by
  unfold numTo
  rw [if_pos (.inl (nm_lt hE hx))]
theorem numTo_yes {C : Array Value} {E : Nat → Nat → Bool} {i c : Nat} (h : IsA C (numTo E i c)) (hc : nm E c = i) : IsA (C.setIfInBounds c (.int .u8 (i : Nat))) (numTo E i (c + 1)) := by
  refine (h.set c i).congr fun x hx => ?_
  unfold numTo
  by_cases e : x = c
  · subst e; rw [if_pos rfl, if_pos (.inr ⟨hc, by omega⟩), hc]
  · rw [if_neg e]
    by_cases h1 : nm E x < i ∨ (nm E x = i ∧ x < c)
    · rw [if_pos h1, if_pos (by omega)]
    · rw [if_neg h1, if_neg (by omega)]
theorem numTo_no {C : Array Value} {E : Nat → Nat → Bool} {i c : Nat} (h : IsA C (numTo E i c)) (hc : nm E c ≠ i) : IsA C (numTo E i (c + 1)) := h.congr fun x hx => by
  unfold numTo
  by_cases e : x = c
  · subst e
    by_cases h1 : nm E x < i
    · rw [if_pos (.inl h1), if_pos (.inl h1)]
    · rw [if_neg (by omega), if_neg (by omega)]
  · by_cases h1 : nm E x < i ∨ (nm E x = i ∧ x < c)
    · rw [if_pos h1, if_pos (by omega)]
    · rw [if_neg h1, if_neg (by omega)]
theorem build_arr {Z : Array Value} (hz : ∀ w, (zeroValue 22).run Try.prog w = .ok (.agg Z) w) (w : World) : (Instr.build 22 #[]).run Try.prog w = .ok (.agg Z) w := by
  simp [Instr.build, hz, run_underlying Try.underlying22, Try.sizeOf5, Instr.fill, Result.andThen, Value.cells]
theorem setRow_new (w : World) (C D : Array Value) (t : TypeId) : (w.alloc (.cells C t)).setRow w.heap.size D = w.alloc (.cells D t) := World.setRow_alloc_new w C D t

set_option maxRecDepth 100000 in
set_option maxHeartbeats 2000000 in
theorem numbers_any {w : World} {v : Value} {E : Nat → Nat → Bool} (hE : Eqv E) (h : SSl w v (clsL E 256 (rk E 256))) :
    Calls Try.prog 63 #[v] w fun e w' => ∃ Y, e = .returned (.tuple #[.agg Y, .int .i64 (rk E 256 : Nat)]) ∧ IsA Y (nm E) ∧ Below w.heap.size w w' := by
  obtain ⟨a, cap, rfl, h1, h2, hs⟩ := h.shape
  obtain ⟨n, hn⟩ : ∃ n, n = rk E 256 := ⟨_, rfl⟩
  have hn256 : n ≤ 256 := by rw [hn]; exact rk_le 256
  rw [clsL_length, ← hn]
  rw [← hn] at hs
  obtain ⟨Z, hZ, hz⟩ := zeroA
  have HZ := Lib.hid hZ; have HS := Lib.hid hs; have HE := Lib.hid hE
  have HN := Lib.hid (show n = rk E 256 ∧ n ≤ 256 from ⟨hn, hn256⟩)
  have hbz := build_arr hz
  clear h h1 h2 hs hZ hn hn256 hE
  go_enter Try.func63, Try.ntmps63
  have h0 : Ar ((w.alloc (.cells Z 22)).alloc (.cells Z 22)) (w.heap.size + 1) Z 22 := by
    have := Ar.new (w.alloc (.cells Z 22)) Z 22
    rw [World.size_alloc] at this; exact this
  have hr0 := (Ar.new w Z 22).alloc (.cells Z 22)
  have hb0 : Below w.heap.size w ((w.alloc (.cells Z 22)).alloc (.cells Z 22)) := ((Below.refl _ w).alloc (Nat.le_refl _) _).alloc (by simp) _
  have H0 := Lib.hid h0; have HR0 := Lib.hid hr0; have HB0 := Lib.hid hb0
  clear h0 hr0 hb0
  go_wp2_with (refine wpList_store_arr rfl 22 (.tmp 4) (.tmp 7) rfl rfl rfl H0.out HZ.out.size HZ.out infoA ?_)
  obtain ⟨R, hR⟩ : ∃ R, R = w.heap.size := ⟨_, rfl⟩
  obtain ⟨A, hA⟩ : ∃ A, A = w.heap.size + 1 := ⟨_, rfl⟩
  have HAR := Lib.hid (show A ≠ R ∧ w.heap.size ≤ R ∧ w.heap.size ≤ A by omega)
  have ha1 := H0.out.row Z
  have hr1 : Ar (((w.alloc (.cells Z 22)).alloc (.cells Z 22)).setRow (w.heap.size + 1) Z) w.heap.size Z 22 := (heap_row _ _ _ (by omega)).trans HR0.out
  have hb1 := below_row HB0.out (show w.heap.size ≤ w.heap.size + 1 by omega) Z
  clear H0 HR0 HB0
  rw [← hA] at ha1 hr1 hb1 ⊢
  rw [← hR] at hr1 ⊢
  generalize (((w.alloc (.cells Z 22)).alloc (.cells Z 22)).setRow A Z) = w0 at *
  have HA1 := Lib.hid ha1; have HR1 := Lib.hid hr1; have HB1 := Lib.hid hb1
  clear hR hA ha1 hr1 hb1 hbz hz
  go_loopw [5] (fun i wr => ∃ k : Nat, k ≤ n ∧ i = .int .i64 k ∧ ∃ Y, Ar wr R Z 22 ∧ Ar wr A Y 22 ∧ Hid (IsA Y (numTo E k 0)) ∧ Below w.heap.size w wr) (fun i _ => n - (intOf i).toNat)
  case atStart => exact ⟨0, by omega, rfl, Z, HR1.out, HA1.out, Lib.hid (by rw [numTo_zero]; exact HZ.out), HB1.out⟩
  case round =>
    obtain ⟨k, hk, rfl, Y, hR, hA, HY, hb⟩ := hrel
    clear HA1 HR1 HB1
    by_cases hlt : k < n
    · have t0 : decide ((k : Int) < (n : Int)) = true := by simp; omega
      have t2 : (0 : Int) ≤ (k : Int) := by omega
      have t3 : (k : Int) < (n : Int) := by omega
      have hwr : IntKind.u8.wrap (k : Int) = (k : Int) := wrap_u8 (by have := HN.out; omega)
      have hwk := wrap_succ (k := k) (by have := HN.out; omega)
      have HLT := Lib.hid hlt; have HR := Lib.hid hR; have HA := Lib.hid hA; have HB := Lib.hid hb
      obtain ⟨B, o, rfl, hso⟩ : ∃ B o, a = some ⟨B, o, none⟩ ∧ SetsO w B o (clsL E 256 n) := by
        rcases HS.out with h | ⟨B, o, e, h⟩
        · have := congrArg List.length h; rw [clsL_length] at this; simp at this; omega
        · exact ⟨B, o, e, h⟩
      have HSO := Lib.hid hso
      clear hlt hk hR hA hb hso
      go_wp2_with fail
      go_loopw [6] (fun i wr => ∃ c : Nat, c ≤ 256 ∧ i = .int .i64 c ∧ ∃ Y, Ar wr R Z 22 ∧ Ar wr A Y 22 ∧ Hid (IsA Y (numTo E k c)) ∧ Below w.heap.size w wr) (fun i _ => 256 - (intOf i).toNat)
      case atStart => exact ⟨0, by omega, rfl, Y, HR.out, HA.out, HY, HB.out⟩
      case round =>
        obtain ⟨c, hc, rfl, Y, hR, hA, HY, hb⟩ := hrel
        clear HR HA HB
        by_cases hlt : c < 256
        · have u0 : decide ((c : Int) < 256) = true := by simp; omega
          have u1 : ¬ (256 : Int) ≤ (c : Int) := by omega
          have hwc := wrap_succ (k := c) (by omega)
          obtain ⟨hkl, hkc⟩ := clsL_mem (E := E) (c := 256) HLT.out
          have h4 : At4 wr B (o + k * 4) (cls E 256 k) := by
            have hh := (HSO.out.below (show Below w.heap.size w wr from hb)).at hkl
            rw [hkc] at hh; exact hh
          obtain ⟨c0, c1, c2, c3⟩ := h4
          have HH := Lib.hid (fun W => refHas_any (cls E 256 k) c hlt W)
          have HC := Lib.hid (show cls E 256 k c = (nm E c == k) by simp [cls, hlt])
          have HLC := Lib.hid hlt; have HR := Lib.hid hR; have HA := Lib.hid hA; have HB := Lib.hid hb
          clear hlt hc hR hA hb hkl hkc
          go_wp2_with fail
          refine (HH.out _).mono ?_
          rintro e w1 ⟨rfl, hb1⟩
          have HR1 := Lib.hid (HR.out.below hb1)
          have hA1 := HA.out.below hb1
          have HA1 := Lib.hid hA1
          have HB1 := Lib.hid (HB.out.trans (hb1.mono HB.out.size))
          rw [HC.out]
          clear hb1 c0 c1 c2 c3
          by_cases hq : nm E c = k
          · have t4 : (nm E c == k) = true := by simpa using hq
            have HNY := Lib.hid (numTo_yes HY.out hq)
            have hfz := hA1.frozen c
            obtain ⟨u, hck⟩ : ∃ u, w1.cell? ⟨A, c, none⟩ = some u := ⟨_, hA1.cell HY.out HLC.out⟩
            rw [t4]
            clear hq t4 hA1
            go_wp2_with fail
            try rw [hwc]
            exact ⟨⟨c + 1, HLC.out, rfl, _, HR1.out.other (fun e => HAR.out.1 e) _, HA1.out.set c _, HNY, HB1.out.setCell (p := ⟨A, c, none⟩) HAR.out.2.2 _⟩, by have := HLC.out; simp [intOf]; omega⟩
          · have t4 : (nm E c == k) = false := by simpa using hq
            have HNY := Lib.hid (numTo_no HY.out hq)
            rw [t4]
            clear hq t4 hA1
            go_wp2_with fail
            try rw [hwc]
            exact ⟨⟨c + 1, HLC.out, rfl, _, HR1.out, HA1.out, HNY, HB1.out⟩, by have := HLC.out; simp [intOf]; omega⟩
        · obtain rfl : c = 256 := by omega
          have HNY := Lib.hid (numTo_next HY.out)
          have HR := Lib.hid hR; have HA := Lib.hid hA; have HB := Lib.hid hb
          clear hlt hc hR hA hb
          go_wp2_with fail
          try rw [hwk]
          exact ⟨⟨k + 1, HLT.out, rfl, Y, HR.out, HA.out, HNY, HB.out⟩, by have := HLT.out; simp [intOf]; omega⟩
    · have hkn : k = n := by omega
      subst hkn
      have HNY := Lib.hid (numTo_all HE.out (by rw [← HN.out.1]; exact HY.out))
      have HR := Lib.hid hR; have HA := Lib.hid hA; have HB := Lib.hid hb
      clear hlt hk hR hA hb
      go_wp2_with (first | (refine wpList_load_arr rfl 22 (.tmp 4) rfl rfl HA.out HY.out.size Try.underlying22 infoA ?_) | (refine wpList_store_arr rfl 22 (.tmp 2) (.tmp 28) rfl rfl rfl HR.out HZ.out.size HNY.out infoA ?_))
      have hld := (HR.out.row Y).loadVar (P := Try.prog) HY.out.size Try.underlying22 infoA
      refine bodyPost_ret (v := .tuple #[.agg Y, .int .i64 k]) ?_ rfl ⟨Y, rfl, HNY.out, below_row HB.out HAR.out.2.1 Y⟩
      rw [results_cell_tmp rfl]
      simp [asAddr, Result.andThen, hld]
end Go.Proofs.Ytfhddbjojpmbcaa.PartW
namespace Go.Proofs.Ytfhddbjojpmbcaa.PartW
set_option linter.unusedVariables false
open Go.RowKit Go.Maps Go.Proofs.Ytfhddbjojpmbcaa.PartM Go.Proofs.Ytfhddbjojpmbcaa.SetM Go.Proofs.Ytfhddbjojpmbcaa.SetW

/-- Whether a number has come up below c. -/
def metF (f : Nat → Nat) (c v : Nat) : Bool := (List.range c).any fun a => f a == v
theorem metF_zero (f : Nat → Nat) (v : Nat) : metF f 0 v = false := rfl
theorem metF_succ (f : Nat → Nat) (c v : Nat) : metF f (c + 1) v = (metF f c v || f c == v) := by simp [metF, List.range_succ]
theorem metF_iff (f : Nat → Nat) (c : Nat) : metF f c (f c) = decide (fst (byKey f) c ≠ c) := by
  rw [Bool.eq_iff_iff, decide_eq_true_iff]
  unfold metF
  rw [List.any_eq_true]
  constructor
  · rintro ⟨a, ha, h⟩ e
    have := (first_iff (byKey_eqv f) c).1 e a (List.mem_range.1 ha)
    simp [byKey] at this h
    exact this h
  · intro h
    have h1 : fst (byKey f) c < c := by have := fst_le (byKey f) c; omega
    have h2 := fst_alike (byKey_eqv f) c
    exact ⟨_, List.mem_range.2 h1, by simp [byKey] at h2; simpa using h2⟩
/-- The bytes from c on, ahead of d, whose number is c's. -/
def runF (f : Nat → Nat) (c d : Nat) : Nat → Bool := fun x => decide (c ≤ x) && decide (x < d) && (f x == f c)
theorem runF_none (f : Nat → Nat) (c : Nat) : runF f c c = emptyF := by funext x; unfold runF emptyF; rw [Bool.and_eq_false_iff, Bool.and_eq_false_iff]; left; simp; omega
theorem runF_yes {f : Nat → Nat} {c d : Nat} (hcd : c ≤ d) (h : f d = f c) : withF (runF f c d) d = runF f c (d + 1) := by
  funext x
  unfold withF runF
  rw [Bool.eq_iff_iff]
  simp
  constructor
  · rintro (⟨⟨h1, h2⟩, h3⟩ | rfl)
    · exact ⟨⟨h1, by omega⟩, h3⟩
    · exact ⟨⟨hcd, by omega⟩, h⟩
  · rintro ⟨⟨h1, h2⟩, h3⟩
    by_cases e : x = d
    · exact .inr e
    · exact .inl ⟨⟨h1, by omega⟩, h3⟩
theorem runF_no {f : Nat → Nat} {c d : Nat} (h : f d ≠ f c) : runF f c d = runF f c (d + 1) := by
  funext x
  unfold runF
  rw [Bool.eq_iff_iff]
  simp
  intro h1 h2
  by_cases e : x = d
  · subst e; exact absurd h1 h
  · omega
/-- C's cells are 256 truths of g. -/
structure IsB (C : Array Value) (g : Nat → Bool) : Prop where
  size : C.size = 256
  at' : ∀ i, i < 256 → C[i]? = some (.bool (g i))
theorem IsB.one {C : Array Value} {g : Nat → Bool} (h : IsB C g) : C.all (·.oneCell') = true := by
  rw [Array.all_eq_true]
  intro i hi
  have := h.at' i (by rw [← h.size]; exact hi)
  rw [Array.getElem?_eq_getElem hi] at this
  injection this with this
  rw [this]; rfl
theorem IsB.congr {C : Array Value} {f g : Nat → Bool} (h : IsB C f) (e : ∀ i, i < 256 → f i = g i) : IsB C g := ⟨h.size, fun i hi => by rw [h.at' i hi, e i hi]⟩
theorem IsB.set {C : Array Value} {g : Nat → Bool} (h : IsB C g) (k : Nat) (v : Bool) : IsB (C.setIfInBounds k (.bool v)) (fun i => if i = k then v else g i) := by
  refine ⟨by rw [Array.size_setIfInBounds]; exact h.size, fun i hi => ?_⟩
  rw [Array.getElem?_setIfInBounds]
  by_cases e : k = i
  · subst e; simp [h.size, hi]
  · have e' : ¬ i = k := fun x => e x.symm
    simp [e, e', h.at' i hi]
theorem Ar.cellB {w : World} {B : Nat} {C : Array Value} {t : TypeId} {g : Nat → Bool} (h : Ar w B C t) (hC : IsB C g) {i : Nat} (hi : i < 256) : w.cell? ⟨B, i, none⟩ = some (.bool (g i)) := by
  rw [cell_of_row w B i C t (0, 0) h]; exact hC.at' i hi
theorem metF_set {D : Array Value} {f : Nat → Nat} {c : Nat} (h : IsB D (metF f c)) : IsB (D.setIfInBounds (f c) (.bool true)) (metF f (c + 1)) := by
  refine (h.set (f c) true).congr fun i hi => ?_
  rw [metF_succ]
  by_cases e : i = f c
  · subst e; simp
  · have e' : (f c == i) = false := by simp; exact fun x => e x.symm
    simp [e, e']
theorem metF_old {f : Nat → Nat} {c : Nat} (h : fst (byKey f) c ≠ c) (v : Nat) : metF f (c + 1) v = metF f c v := by
  rw [metF_succ]
  by_cases e : f c = v
  · subst e
    rw [metF_iff f c]; simp [h]
  · have : (f c == v) = false := by simpa using e
    simp [this]
theorem runF_all {f : Nat → Nat} {c : Nat} (hc : fst (byKey f) c = c) : runF f c 256 = cls (byKey f) 256 (rk (byKey f) c) := by
  funext x
  have hx := nm_iff (byKey_eqv f) c x
  have h1 := (first_iff (byKey_eqv f) c).1 hc
  unfold runF cls
  rw [← nm_first hc]
  rw [Bool.eq_iff_iff]
  simp
  have h2 : nm (byKey f) x = nm (byKey f) c ↔ f x = f c := by
    constructor
    · intro e
      have := nm_inj (byKey_eqv f) e
      simpa [byKey] using this
    · intro e
      exact nm_congr (byKey_eqv f) (by simp [byKey, e])
  rw [h2]
  constructor
  · rintro ⟨⟨h3, h4⟩, h5⟩; exact ⟨h4, h5⟩
  · rintro ⟨h4, h5⟩
    refine ⟨⟨?_, h4⟩, h5⟩
    rcases Nat.lt_or_ge x c with h6 | h6
    · have := h1 x h6; simp [byKey] at this; exact absurd h5 this
    · exact h6
theorem infoBools : (Try.prog.info? 94).map (·.size) = some 256 := by kernel_rfl
theorem zeroB_info : (Try.prog.info? 94).map (fun i => (i.zero, i.size)) = some (some (.agg (Array.replicate 256 (.bool false))), 256) := by kernel_rfl
theorem zeroBools : ∃ Z, IsB Z (fun _ => false) ∧ ∀ w, (zeroValue 94).run Try.prog w = .ok (.agg Z) w :=
  ⟨_, ⟨by simp, fun i hi => by rw [Array.getElem?_replicate]; simp [hi]⟩, (zero_of_info zeroB_info).1⟩
theorem build_bools {Z : Array Value} (hz : ∀ w, (zeroValue 94).run Try.prog w = .ok (.agg Z) w) (w : World) : (Instr.build 94 #[]).run Try.prog w = .ok (.agg Z) w := by
  simp [Instr.build, hz, run_underlying Try.underlying94, Try.sizeOf4, Instr.fill, Result.andThen, Value.cells]

set_option maxRecDepth 100000 in
set_option maxHeartbeats 2000000 in
theorem refSets_any {C : Array Value} {f : Nat → Nat} (hC : IsA C f) (hf : ∀ b, b < 256 → f b < 256) (w : World) :
    Calls Try.prog 64 #[.agg C] w fun e w' => ∃ v', e = .returned v' ∧ w'.ownsRow w.heap.size 93 4 v' (rk (byKey f) 256) (setCells (clsL (byKey f) 256 (rk (byKey f) 256))) ∧ Below w.heap.size w w' := by
  obtain ⟨i0, hi, hz0, hz1, hz2⟩ := info_parts infoSet
  obtain ⟨Z, hZ, hz⟩ := zeroBools
  have hbz := build_bools hz
  have HZ := Lib.hid hZ; have HC := Lib.hid hC; have HF := Lib.hid hf; have HE := Lib.hid (byKey_eqv f)
  have hs := hC.size
  obtain ⟨E, hE⟩ : ∃ E, E = byKey f := ⟨_, rfl⟩
  have HEE := Lib.hid hE
  rw [← hE]
  rw [← hE] at HE
  clear hZ hC hf hE
  have hn0 : Ar ((((w.alloc (.cells C 22)).alloc (.cells #[] 93))).alloc (.cells Z 94)) (w.heap.size + 1 + 1) Z 94 := by
    have := Ar.new ((w.alloc (.cells C 22)).alloc (.cells #[] 93)) Z 94
    simp only [World.size_alloc] at this; exact this
  have HN0 := Lib.hid hn0; clear hn0
  go_enter Try.func64, Try.ntmps64
  go_wp2_with (refine wpList_store_gen rfl 94 (.tmp 4) (.tmp 9) rfl rfl rfl HN0.out HZ.out.size HZ.out.size HZ.out.one infoBools ?_)
  obtain ⟨B, hB⟩ : ∃ B, B = w.heap.size := ⟨_, rfl⟩
  obtain ⟨A, hA⟩ : ∃ A, A = w.heap.size + 1 + 1 := ⟨_, rfl⟩
  have HAB := Lib.hid (show A ≠ B ∧ w.heap.size ≤ B ∧ w.heap.size ≤ A by omega)
  have ha1 := HN0.out.row Z
  have hr1 : Ar ((((w.alloc (.cells C 22)).alloc (.cells #[] 93)).alloc (.cells Z 94)).setRow (w.heap.size + 1 + 1) Z) w.heap.size C 22 := (heap_row _ _ _ (by omega)).trans (((Ar.new w C _).alloc _).alloc _)
  have hb1 : Below w.heap.size w ((((w.alloc (.cells C 22)).alloc (.cells #[] 93)).alloc (.cells Z 94)).setRow (w.heap.size + 1 + 1) Z) := below_row ((((Below.refl _ w).alloc (Nat.le_refl _) _).alloc (by simp) _).alloc (by simp; omega) _) (by omega) Z
  have ho1 : ((((w.alloc (.cells C 22)).alloc (.cells #[] 93)).alloc (.cells Z 94)).setRow (w.heap.size + 1 + 1) Z).ownsRow w.heap.size 93 4 (.slice (some ⟨w.heap.size + 1, 0, none⟩) 0 0) 0 [] :=
    ⟨by simp, .inr ⟨w.heap.size + 1, 0, #[], rfl, by omega, (heap_row _ _ _ (by omega)).trans (by
      have := Ar.alloc (Ar.new (w.alloc (.cells C 22)) #[] 93) (.cells Z 94)
      rw [World.size_alloc] at this; exact this), Nat.zero_le _, by decide, rfl, rfl⟩⟩
  clear HN0 hbz hz
  rw [← hA] at ha1 hr1 hb1 ho1 ⊢
  rw [show w.heap.size + 1 = B + 1 by rw [hB]] at ho1
  rw [← hB] at hr1 ⊢
  generalize ((((w.alloc (.cells C 22)).alloc (.cells #[] 93)).alloc (.cells Z 94)).setRow A Z) = w0 at *
  have HA1 := Lib.hid ha1; have HR1 := Lib.hid hr1; have HB1 := Lib.hid hb1; have HO1 := Lib.hid ho1
  clear hB hA ha1 hr1 hb1 ho1
  go_loopw [3, 5] (fun s i wr => ∃ c : Nat, c ≤ 256 ∧ i = .int .i64 c ∧ ∃ a cap D, s = .slice a (rk E c) cap ∧ wr.ownsRow w.heap.size 93 4 (.slice a (rk E c) cap) (rk E c) (setCells (clsL E 256 (rk E c))) ∧ Ar wr B C 22 ∧ Ar wr A D 94 ∧ Hid (IsB D (metF f c)) ∧ Below w.heap.size w wr) (fun _ i _ => 256 - (intOf i).toNat)
  case atStart => exact ⟨0, by omega, rfl, _, _, Z, rfl, HO1.out, HR1.out, HA1.out, HZ, HB1.out⟩
  case round =>
    obtain ⟨c, hc, rfl, a, cap, D, rfl, hO, hR, hA, HD, hb⟩ := hrel
    clear HA1 HR1 HB1 HO1
    by_cases hlt : c < 256
    · obtain ⟨n, hn⟩ : ∃ n, n = rk E c := ⟨_, rfl⟩
      rw [← hn] at hO ⊢
      have HN := Lib.hid (show n = rk E c ∧ n ≤ c from ⟨hn, by rw [hn]; exact rk_le c⟩)
      have t0 : decide ((c : Int) < 256) = true := by simp; omega
      have t1 : ¬ (256 : Int) ≤ (c : Int) := by omega
      have hwc := wrap_succ (k := c) (by omega)
      have hfc := HF.out c hlt
      have t2 : ¬ (256 : Int) ≤ (f c : Int) := by omega
      have k1 := hR.cell HC.out hlt
      have k2 := hA.cellB HD.out hfc
      have hmet := metF_iff f c
      rw [← HEE.out] at hmet
      have HO := Lib.hid hO; have HR := Lib.hid hR; have HA := Lib.hid hA; have HB := Lib.hid hb; have HLT := Lib.hid hlt; have HFC := Lib.hid hfc
      by_cases hq : fst E c = c
      · have hfz := hA.frozen (f c)
        rw [hmet, decide_eq_false (by simpa using hq)] at k2
        have HQ := Lib.hid hq
        clear hq hmet hO hR hA hb hlt hc hn hfc
        go_wp2_with fail
        have hA2 := HA.out.set (f c) (.bool true)
        have hR2 := HR.out.other (A := ⟨A, f c, none⟩) (fun e => HAB.out.1 e) (.bool true)
        have hO2 : (wr.setCell ⟨A, f c, none⟩ (.bool true)).ownsRow w.heap.size 93 4 (.slice a n cap) n (setCells (clsL E 256 n)) := by
          exact owns_heap HO.out fun k hk => Below.heap_setCell _ ⟨A, f c, none⟩ _ k (owns_ne HO.out HA.out (by decide) hk)
        have hb2 := HB.out.setCell (p := ⟨A, f c, none⟩) HAB.out.2.2 (.bool true)
        have hmt := metF_set HD.out
        have hsz : (wr.setCell ⟨A, f c, none⟩ (.bool true)).heap.size = wr.heap.size := by simp [World.setCell]
        generalize wr.setCell ⟨A, f c, none⟩ (.bool true) = W1 at *
        have HA2 := Lib.hid hA2; have HR2 := Lib.hid hR2; have HO2 := Lib.hid hO2; have HB2 := Lib.hid hb2; have HMT := Lib.hid hmt
        clear hA2 hR2 hO2 hb2 hmt HO HR HA HB k1 k2 hfz
        obtain ⟨S, hS⟩ : ∃ S, S = wr.heap.size := ⟨_, rfl⟩
        rw [← hS] at hsz ⊢
        have hz0' := HoldsS.zero W1 93
        rw [hsz] at hz0'
        have hw0 : Below S W1 (W1.alloc (.cells #[.int .u64 0, .int .u64 0, .int .u64 0, .int .u64 0] 93)) := (Below.refl _ _).alloc (by rw [hsz]; exact Nat.le_refl _) _
        have HZ0 := Lib.hid hz0'; have HW0 := Lib.hid hw0; have HSZ := Lib.hid hsz
        clear hz0' hw0 hsz hS
        generalize W1.alloc (.cells #[.int .u64 0, .int .u64 0, .int .u64 0, .int .u64 0] 93) = W2 at *
        go_loopw [7] (fun i wr => ∃ d : Nat, c ≤ d ∧ d ≤ 256 ∧ i = .int .i64 d ∧ HoldsS wr S (runF f c d) ∧ Below S W1 wr) (fun i _ => 256 - (intOf i).toNat)
        case atStart => exact ⟨c, Nat.le_refl _, by have := HLT.out; omega, rfl, by rw [runF_none]; exact HZ0.out, HW0.out⟩
        case round =>
          obtain ⟨d, hcd, hd, rfl, hH, hb⟩ := hrel
          clear HZ0 HW0
          rw [← HSZ.out] at hb
          have hR3 := HR2.out.below hb
          by_cases hlt : d < 256
          · have u0 : decide ((d : Int) < 256) = true := by simp; omega
            have u1 : ¬ (256 : Int) ≤ (d : Int) := by omega
            have u2 : (0 : Int) ≤ (d : Int) := by omega
            have u3 : (d : Int) < 256 := by omega
            have u4 : (0 : Int) ≤ (c : Int) := by omega
            have u5 : (c : Int) < 256 := by have := HLT.out; omega
            have hwd := wrap_succ (k := d) (by omega)
            have q1 : wr.drew.cell? ⟨B, d, none⟩ = some (.int .u8 (f d : Int)) := Ar.cell (show Ar wr.drew B C 22 from hR3) HC.out hlt
            have q2 : wr.drew.cell? ⟨B, c, none⟩ = some (.int .u8 (f c : Int)) := Ar.cell (show Ar wr.drew B C 22 from hR3) HC.out HLT.out
            have hHd : HoldsS wr.drew S (runF f c d) := hH.drew
            have c0 := hHd.c0; have c1 := hHd.c1; have c2 := hHd.c2; have c3 := hHd.c3
            have HLD := Lib.hid (show c ≤ d ∧ d < 256 from ⟨hcd, hlt⟩)
            have HH := Lib.hid hHd; have HB := Lib.hid hb.drew
            by_cases hq : f d = f c
            · have v0 : ((f d : Int) == (f c : Int)) = true := by rw [hq]; simp
              have HR := Lib.hid (runF_yes hcd hq)
              clear hq hlt hcd hd hH hb hR3 hHd
              go_wp2_with fail
              go_region
              go_wp2_with fail
              refine (With_any _ _ HLD.out.2 _).mono ?_
              rintro e w1 ⟨rfl, hb1⟩
              have hH1 := HH.out.below hb1
              have hb2 := HB.out.trans (hb1.mono HB.out.size)
              clear c0 c1 c2 c3 hb1
              have c0 := hH1.c0; have c1 := hH1.c1; have c2 := hH1.c2; have c3 := hH1.c3; have z0 := hH1.z0; have z1 := hH1.z1; have z2 := hH1.z2; have z3 := hH1.z3
              have HH1 := Lib.hid hH1; have HB2 := Lib.hid hb2
              clear hH1 hb2
              go_wp2_with fail
              try rw [hwd]
              have hst := HH1.out.store (withF (runF f c d) d)
              rw [HR.out] at hst
              rw [HR.out]
              refine ⟨⟨d + 1, by have := HLD.out; omega, by have := HLD.out; omega, rfl, hst, ?_⟩, by have := HLD.out; simp [intOf]; omega⟩
              have := HB2.out
              rw [HSZ.out] at this
              exact below_put4 this (Nat.le_refl _) _
            · have v0 : ((f d : Int) == (f c : Int)) = false := by simp; omega
              have HR := Lib.hid (runF_no hq)
              clear hq hlt hcd hd hH hb hR3 hHd
              go_wp2_with fail
              go_region
              go_wp2_with fail
              try rw [hwd]
              exact ⟨⟨d + 1, by have := HLD.out; omega, by have := HLD.out; omega, rfl, by rw [← HR.out]; exact HH.out, by rw [← HSZ.out]; exact HB.out⟩, by have := HLD.out; simp [intOf]; omega⟩
          · obtain rfl : d = 256 := by omega
            have hrk : rk E (c + 1) = n + 1 := by rw [rk_new HQ.out, ← HN.out.1]
            have hlst : clsL E 256 (n + 1) = clsL E 256 n ++ [runF f c 256] := by
              unfold clsL
              rw [List.range_succ, List.map_append, List.map_cons, List.map_nil, runF_all (by rw [← HEE.out]; exact HQ.out), ← HEE.out, ← HN.out.1]
            obtain ⟨g, hg⟩ : ∃ g, g = runF f c 256 := ⟨_, rfl⟩
            rw [← hg] at hH hlst
            have c0 := hH.c0; have c1 := hH.c1; have c2 := hH.c2; have c3 := hH.c3
            have HO3 := Lib.hid (owns_below HO2.out hb)
            have HR3 := Lib.hid hR3
            have HA3 := Lib.hid (HA2.out.below hb)
            have HB3 := Lib.hid (HB2.out.trans (hb.mono HB2.out.size))
            have HRK := Lib.hid hrk; have HLS := Lib.hid hlst
            have HMX := Lib.hid (show n + 1 ≤ maxLen ∧ (n + 1) * 32 ≤ 140737488355328 from ⟨by unfold maxLen; have := HN.out.2; have := HLT.out; omega, by have := HN.out.2; have := HLT.out; omega⟩)
            clear hlt hcd hd hH hb hR3 hrk hlst hg
            go_wp2_with (at_builtin; refine wpList_append_own_at _ rfl (.tmp 39) (.tmp 41) 84 rfl w.heap.size 93 i0 _ 4 32 Try.underlying84 hi hz0 hz1 hz2 rfl (by decide) (.slice a n cap) n _ rfl (HO3.out.alloc _) ⟨wr.heap.size, 0, none⟩ 1 1 [.int .u64 (wd g 0), .int .u64 (wd g 1), .int .u64 (wd g 2), .int .u64 (wd g 3)] rfl rfl (set_one _ _ _) (by simp [Value.oneCell']) HMX.out.1 HMX.out.2 (by have := HB3.out.size; simp; omega) ?_; intro v' w4 hown' hgrow _ _; have HOW := Lib.hid hown'; have HGR := Lib.hid hgrow; clear hown' hgrow)
            try rw [hwc]
            have hown := HOW.out
            rw [← setCells_snoc, ← HLS.out] at hown
            obtain ⟨b', cap', hv'⟩ := owns_succ hown
            rw [hv'] at hown ⊢
            have hal := HB3.out.alloc HB3.out.size (.cells #[.int .u64 (wd g 0), .int .u64 (wd g 1), .int .u64 (wd g 2), .int .u64 (wd g 3)] 93)
            have hb4 : Below w.heap.size w w4 := hal.grown HGR.out hal.size (fun k e => (World.ownsRow.lt HO3.out k e).1)
            have hR4 : Ar w4 B C 22 := (HGR.out.block B (HR3.out.alloc _).lt (fun e => owns_ne HO3.out HR3.out (by decide) e.symm rfl)).trans (HR3.out.alloc _)
            have hA4 : Ar w4 A (D.setIfInBounds (f c) (.bool true)) 94 := (HGR.out.block A (HA3.out.alloc _).lt (fun e => owns_ne HO3.out HA3.out (by decide) e.symm rfl)).trans (HA3.out.alloc _)
            exact ⟨⟨c + 1, HLT.out, rfl, _, cap', _, by rw [HRK.out], by rw [HRK.out]; exact hown, hR4, hA4, HMT, hb4⟩, by have := HLT.out; simp [intOf]; omega⟩
      · have HQ := Lib.hid hq
        rw [hmet, decide_eq_true hq] at k2
        clear hq hmet hO hR hA hb hlt hc hn hfc
        go_wp2_with fail
        try rw [hwc]
        have hrk : rk E (c + 1) = n := by rw [rk_old HQ.out, ← HN.out.1]
        exact ⟨⟨c + 1, HLT.out, rfl, a, cap, D, by rw [hrk], by rw [hrk]; exact HO.out, HR.out, HA.out, Lib.hid (HD.out.congr fun i _ => (metF_old (by rw [← HEE.out]; exact HQ.out) i).symm), HB.out⟩, by have := HLT.out; simp [intOf]; omega⟩
    · obtain rfl : c = 256 := by omega
      have HO := Lib.hid hO; have HB := Lib.hid hb
      clear hlt hc hO hb hR hA
      go_wp2_with fail
      go_ret
      exact ⟨_, rfl, HO.out, HB.out⟩
end Go.Proofs.Ytfhddbjojpmbcaa.PartW
namespace Go.Proofs.Ytfhddbjojpmbcaa.PartW
set_option linter.unusedVariables false
open Go.RowKit Go.Maps Go.Proofs.Ytfhddbjojpmbcaa.PartM Go.Proofs.Ytfhddbjojpmbcaa.SetM Go.Proofs.Ytfhddbjojpmbcaa.SetW
theorem sameA_comm (f g : Nat → Nat) : sameA f g = sameA g f := by
  unfold sameA
  congr 1
  funext i
  exact BEq.comm
theorem refNorm_any {C : Array Value} {f : Nat → Nat} (hC : IsA C f) (hf : ∀ b, b < 256 → f b < 256) (w : World) :
    Calls Try.prog 56 #[.agg C] w fun e w' => ∃ Y, e = .returned (.tuple #[.agg Y, .int .i64 (rk (byKey f) 256 : Nat)]) ∧ IsA Y (nm (byKey f)) ∧ Below w.heap.size w w' := by
  obtain ⟨Z, hZ, hz⟩ := zeroA
  have HZ := Lib.hid hZ; have HC := Lib.hid hC
  have hr0 : Ar ((w.alloc (.cells C 22)).alloc (.cells Z 22)) (w.heap.size + 1) Z 22 := by
    have := Ar.new (w.alloc (.cells C 22)) Z 22
    rw [World.size_alloc] at this; exact this
  have hc0 : Ar ((w.alloc (.cells C 22)).alloc (.cells Z 22)) w.heap.size C 22 := (Ar.new w C 22).alloc _
  have hb0 : Below w.heap.size w ((w.alloc (.cells C 22)).alloc (.cells Z 22)) := ((Below.refl _ w).alloc (Nat.le_refl _) _).alloc (by simp) _
  have HP := Lib.hid (refSets_any hC hf ((w.alloc (.cells C 22)).alloc (.cells Z 22)))
  have HR := Lib.hid hr0; have HB := Lib.hid hb0; have HC0 := Lib.hid hc0
  clear hZ hr0 hb0 hc0 hC hf
  go_enter Try.func56, Try.ntmps56
  go_wp2_with (refine wpList_load_arr rfl 22 (.tmp 1) rfl rfl HC0.out HC.out.size Try.underlying22 infoA ?_)
  refine HP.out.mono ?_
  rintro e w1 ⟨v', rfl, hown, hb1⟩
  have HV := Lib.hid (SSl.of_owns hown)
  have HR1 := Lib.hid (HR.out.below hb1)
  have HB1 := Lib.hid (HB.out.trans (hb1.mono HB.out.size))
  clear hown hb1
  go_wp2_with fail
  refine (numbers_any (byKey_eqv f) HV.out).mono ?_
  rintro e w2 ⟨Y, rfl, hY, hb2⟩
  have HR2 := Lib.hid (HR1.out.below hb2)
  have HB2 := Lib.hid (HB1.out.trans (hb2.mono HB1.out.size))
  have HY := Lib.hid hY
  clear hb2 hY
  go_wp2_with (refine wpList_store_arr rfl 22 (.tmp 2) (.tmp 7) rfl rfl rfl HR2.out HZ.out.size HY.out infoA ?_)
  have hld := (HR2.out.row Y).loadVar (P := Try.prog) HY.out.size Try.underlying22 infoA
  refine bodyPost_ret (v := .tuple #[.agg Y, .int .i64 (rk (byKey f) 256 : Nat)]) ?_ rfl ⟨Y, rfl, HY.out, below_row HB2.out (by omega) Y⟩
  rw [results_cell_tmp rfl]
  simp [asAddr, Result.andThen, hld]

set_option maxRecDepth 100000 in
theorem refRight_any {C : Array Value} {f : Nat → Nat} (hC : IsA C f) (hf : ∀ b, b < 256 → f b < 256) (n : Int) (w : World) :
    Calls Try.prog 40 #[.agg C, .int .i64 n] w fun e w' => e = .returned (.bool (sameA f (nm (byKey f)) && (n == (rk (byKey f) 256 : Nat)))) ∧ Below w.heap.size w w' := by
  obtain ⟨Z, hZ, hz⟩ := zeroA
  have HZ := Lib.hid hZ; have HC := Lib.hid hC
  have hb0 : Below w.heap.size w (w.alloc (.cells C 22)) := (Below.refl _ w).alloc (Nat.le_refl _) _
  have HB0 := Lib.hid hb0
  have HNO := Lib.hid (refNorm_any hC hf (w.alloc (.cells C 22)))
  have HR0 := Lib.hid (Ar.new w C 22)
  clear hZ hC hf hb0
  go_enter Try.func40, Try.ntmps40
  go_wp2_with (refine wpList_load_arr rfl 22 (.tmp 2) rfl rfl HR0.out HC.out.size Try.underlying22 infoA ?_)
  refine HNO.out.mono ?_
  rintro e w1 ⟨Y, rfl, hY, hb1⟩
  have HY := Lib.hid hY
  have HR1 := Lib.hid (HR0.out.below hb1)
  have HB1 := Lib.hid (HB0.out.trans (hb1.mono HB0.out.size))
  have heq := eqArr hY HC.out
  obtain ⟨b, hb⟩ : ∃ b, b = sameA f (nm (byKey f)) := ⟨_, rfl⟩
  rw [show sameA (nm (byKey f)) f = b from by rw [hb]; exact sameA_comm _ _] at heq
  have HBB := Lib.hid hb
  have HCM := Lib.hid (show ((rk (byKey f) 256 : Nat) : Int) = n ↔ n = (rk (byKey f) 256 : Nat) from eq_comm)
  clear hY hb1 hb
  have ha := HR1.out.alloc (.cells Y 22)
  have hay := Ar.new w1 Y 22
  have HA := Lib.hid ha; have HAY := Lib.hid hay
  have hb2 := HB1.out.alloc HB1.out.size (.cells Y 22)
  have HB2 := Lib.hid hb2
  clear ha hay hb2
  cases b
  · go_wp2_with (first | (refine wpList_store_arr rfl 22 (.tmp 5) (.tmp 10) rfl rfl rfl (Ar.new w1 Z 22) HZ.out.size HY.out infoA ?_; rw [World.setRow_alloc_new]) | (refine wpList_load_arr rfl 22 (.tmp 2) rfl rfl HA.out HC.out.size Try.underlying22 infoA ?_) | (refine wpList_load_arr rfl 22 (.tmp 5) rfl rfl HAY.out HY.out.size Try.underlying22 infoA ?_))
    go_ret
    exact ⟨by rw [← HBB.out]; rfl, HB2.out⟩
  · go_wp2_with (first | (refine wpList_store_arr rfl 22 (.tmp 5) (.tmp 10) rfl rfl rfl (Ar.new w1 Z 22) HZ.out.size HY.out infoA ?_; rw [World.setRow_alloc_new]) | (refine wpList_load_arr rfl 22 (.tmp 2) rfl rfl HA.out HC.out.size Try.underlying22 infoA ?_) | (refine wpList_load_arr rfl 22 (.tmp 5) rfl rfl HAY.out HY.out.size Try.underlying22 infoA ?_))
    go_ret
    refine ⟨?_, HB2.out⟩
    rw [← HBB.out, Bool.true_and]
    exact congrArg (fun b => Ending.returned (Value.bool b)) (BEq.comm)
end Go.Proofs.Ytfhddbjojpmbcaa.PartW
