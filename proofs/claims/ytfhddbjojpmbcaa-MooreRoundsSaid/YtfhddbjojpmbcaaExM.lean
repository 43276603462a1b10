/- What must come, a row of four states, of which the last one is told: where it lies. -/
import Derived.Test.YtfhddbjojpmbcaaMooC
import Derived.Test.YtfhddbjojpmbcaaSameL
import Derived.Lib.SlBytesConst
namespace Go.Proofs.Ytfhddbjojpmbcaa.DfaW
set_option linter.unusedVariables false
set_option linter.unusedSimpArgs false
open Go.RowKit Go.Maps Go.Proofs.Ytfhddbjojpmbcaa.PartM Go.Proofs.Ytfhddbjojpmbcaa.PartW
def txX : ByteArray := ⟨#[120]⟩
def exM : Mc := ⟨fun _ => 0, 1, [[1], [2], [3], [3], [1]], [0, 0, 0, 1, 0], [txX]⟩
theorem ex_cls : sameA (fun _ => 0) (PartM.nm (byKey fun (_ : Nat) => 0)) = true ∧ rk (byKey fun (_ : Nat) => 0) 256 = 1 := by decide +kernel
theorem ex_txX : nameOk txX = true := by decide +kernel
theorem ex_ok : Ok exM := by
  refine ⟨ex_cls.1, ?_, ⟨by decide, fun i hi => ?_⟩, ⟨by decide, by decide, fun i hi => ?_⟩, ⟨rfl, fun j hj => ?_⟩⟩
  · show (1 : Int) = (rk (byKey fun (_ : Nat) => 0) 256 : Nat)
    rw [ex_cls.2]; rfl
  · obtain rfl : i = 0 := by have : i < 1 := hi; omega
    exact ⟨ex_txX, by simp [exM]⟩
  · have : i < 5 := hi
    rcases i with _ | _ | _ | _ | _ | i
    · exact ⟨by decide, by decide⟩
    · exact ⟨by decide, by decide⟩
    · exact ⟨by decide, by decide⟩
    · exact ⟨by decide, by decide⟩
    · exact ⟨by decide, by decide⟩
    · omega
  · have : j < 5 := hj
    have key : ∀ (x : Int), 0 ≤ x → x < 5 → RowOk (exM.lb.length : Nat) exM.wd [x] := fun x h1 h2 => ⟨rfl, fun i hi => by
      obtain rfl : i = 0 := by simpa using hi
      exact ⟨h1, h2⟩⟩
    rcases j with _ | _ | _ | _ | _ | j
    · exact key 1 (by decide) (by decide)
    · exact key 2 (by decide) (by decide)
    · exact key 3 (by decide) (by decide)
    · exact key 3 (by decide) (by decide)
    · exact key 1 (by decide) (by decide)
    · omega
theorem ex_aft : aftN exM 0 = [0, 0, 0, 1, 0] ∧ aftN exM 1 = [0, 0, 1, 2, 0] ∧ aftN exM 2 = [0, 1, 2, 3, 0] ∧ blkN exM = [0, 1, 2, 3, 0] := by decide +kernel
theorem ex_rnd : rndN exM = 2 := by
  obtain ⟨h1, h2, _⟩ := rndN_spec ex_ok
  have e0 : ¬ Still exM 0 := fun h => by have := (still_iff ex_ok).2 h; rw [ex_aft.1, ex_aft.2.2.2] at this; exact absurd this (by decide)
  have e1 : ¬ Still exM 1 := fun h => by have := (still_iff ex_ok).2 h; rw [ex_aft.2.1, ex_aft.2.2.2] at this; exact absurd this (by decide)
  have e2 : Still exM 2 := (still_iff ex_ok).1 (by rw [ex_aft.2.2.1, ex_aft.2.2.2])
  by_cases h : rndN exM = 2
  · exact h
  · rcases Nat.lt_or_gt_of_ne h with h | h
    · have : rndN exM = 0 ∨ rndN exM = 1 := by omega
      rcases this with e | e
      · rw [e] at h1; exact absurd h1 e0
      · rw [e] at h1; exact absurd h1 e1
    · exact absurd e2 (h2 2 h)
/-- New slices, where they lie. -/
theorem is_new (w : World) (l : List Int) (t : TypeId) (b : Nat) (hb : b = w.heap.size) (hl : l.length ≤ maxLen) : IS (w.alloc (.cells (l.map (Value.int .i64)).toArray t)).heap.size (w.alloc (.cells (l.map (Value.int .i64)).toArray t)) (.slice (some ⟨b, 0, none⟩) l.length l.length) l := by
  subst hb
  refine ⟨_, l.length, by simp, by simp, hl, fun i hi => ⟨w.heap.size, 0, rfl, by simp, ?_⟩⟩
  rw [World.cell?_alloc_new, Nat.zero_add]; simp
theorem ts_new (w : World) (l : List ByteArray) (t : TypeId) (b : Nat) (hb : b = w.heap.size) (hl : l.length ≤ maxLen) (hz : Szs l) : TS (w.alloc (.cells (l.map Value.string).toArray t)).heap.size (w.alloc (.cells (l.map Value.string).toArray t)) (.slice (some ⟨b, 0, none⟩) l.length l.length) l := by
  subst hb
  refine ⟨⟨_, l.length, by simp, by simp, hl, fun i hi => ⟨w.heap.size, 0, rfl, by simp, ?_⟩⟩, hz.at⟩
  rw [World.cell?_alloc_new, Nat.zero_add]; simp
theorem rs_new (w : World) (us : List Value) (ls : List (List Int)) (t : TypeId) (b : Nat) (hb : b = w.heap.size) (hl : us.length = ls.length) (hm : us.length ≤ maxLen) (h : ∀ i, i < ls.length → ∃ u, us[i]? = some u ∧ IS w.heap.size w u (ls.getD i [])) :
    RS (w.alloc (.cells us.toArray t)).heap.size (w.alloc (.cells us.toArray t)) (.slice (some ⟨b, 0, none⟩) us.length us.length) ls := by
  subst hb
  have hb : Below w.heap.size w (w.alloc (.cells us.toArray t)) := (Below.refl _ _).alloc (Nat.le_refl _) _
  refine ⟨us, ⟨_, us.length, rfl, Nat.le_refl _, hm, fun i hi => ⟨w.heap.size, 0, rfl, by simp, ?_⟩⟩, hl, fun i hi => ?_⟩
  · rw [World.cell?_alloc_new, Nat.zero_add]; simp
  · obtain ⟨u, h1, h2⟩ := h i hi
    exact ⟨u, h1, (h2.below hb).up hb.size⟩
theorem IS.nx {w w' : World} {v : Value} {l : List Int} (h : IS w.heap.size w v l) (hb : Below w.heap.size w w') : IS w'.heap.size w' v l := (h.below hb).up hb.size
theorem RS.nx {w w' : World} {v : Value} {l : List (List Int)} (h : RS w.heap.size w v l) (hb : Below w.heap.size w w') : RS w'.heap.size w' v l := (h.below hb).up hb.size
abbrev slN (b n : Nat) : Value := .slice (some ⟨b, 0, none⟩) n n
theorem al (w : World) (o : Obj) : Below w.heap.size w (w.alloc o) := (Below.refl _ _).alloc (Nat.le_refl _) _
/-- The blocks of it. -/
def ex5 (w : World) : World := ((((w.alloc (.cells #[.int .i64 1] 3)).alloc (.cells #[.int .i64 2] 3)).alloc (.cells #[.int .i64 3] 3)).alloc (.cells #[.int .i64 3] 3)).alloc (.cells #[.int .i64 1] 3)
def exW (w : World) : World := (((ex5 w).alloc (.cells #[slN w.heap.size 1, slN (w.heap.size + 1) 1, slN (w.heap.size + 1 + 1) 1, slN (w.heap.size + 1 + 1 + 1) 1, slN (w.heap.size + 1 + 1 + 1 + 1) 1] 24)).alloc (.cells #[.int .i64 0, .int .i64 0, .int .i64 0, .int .i64 1, .int .i64 0] 3)).alloc (.cells #[.string ⟨#[120]⟩] 9)
def exC (w : World) : Array Value := mkC zA (.int .i64 1) (slN (w.heap.size + 1 + 1 + 1 + 1 + 1) 5) (slN (w.heap.size + 1 + 1 + 1 + 1 + 1 + 1) 5) (slN (w.heap.size + 1 + 1 + 1 + 1 + 1 + 1 + 1) 1)
theorem ex_build (w : World) : (((Try.zeroCells27.setIfInBounds 256 (.int .i64 1)).setIfInBounds 257 (slN (w.heap.size + 1 + 1 + 1 + 1 + 1) 5)).setIfInBounds 258 (slN (w.heap.size + 1 + 1 + 1 + 1 + 1 + 1) 5)).setIfInBounds 259 (slN (w.heap.size + 1 + 1 + 1 + 1 + 1 + 1 + 1) 1) = exC w := by
  have hz := zA_is.size
  rw [zc, (set_hi hz _ _ _ _ _).1, (set_hi hz _ _ _ _ _).2.1, (set_hi hz _ _ _ _ _).2.2.1, (set_hi hz _ _ _ _ _).2.2.2]
  rfl
theorem ex5_size (w : World) : (ex5 w).heap.size = w.heap.size + 1 + 1 + 1 + 1 + 1 := by unfold ex5; simp only [World.size_alloc]
theorem exW_size (w : World) : (exW w).heap.size = w.heap.size + 1 + 1 + 1 + 1 + 1 + 1 + 1 + 1 := by unfold exW; simp only [World.size_alloc, ex5_size]
theorem exW_below (w : World) : Below w.heap.size w (exW w) := by
  have h5 : Below w.heap.size w (ex5 w) := by
    unfold ex5
    refine (((((Below.refl _ w).alloc (Nat.le_refl _) _).alloc ?_ _).alloc ?_ _).alloc ?_ _).alloc ?_ _
    all_goals simp only [World.size_alloc]
    all_goals omega
  unfold exW
  refine ((h5.alloc h5.size _).alloc ?_ _).alloc ?_ _
  all_goals simp only [World.size_alloc, ex5_size]
  all_goals omega
theorem ex_is (w : World) : IsM (exW w).heap.size (exW w) (exC w) exM := by
  obtain ⟨w1, e1⟩ : ∃ x, x = w.alloc (.cells #[.int .i64 1] 3) := ⟨_, rfl⟩
  obtain ⟨w2, e2⟩ : ∃ x, x = w1.alloc (.cells #[.int .i64 2] 3) := ⟨_, rfl⟩
  obtain ⟨w3, e3⟩ : ∃ x, x = w2.alloc (.cells #[.int .i64 3] 3) := ⟨_, rfl⟩
  obtain ⟨w4, e4⟩ : ∃ x, x = w3.alloc (.cells #[.int .i64 3] 3) := ⟨_, rfl⟩
  have e5 : ex5 w = w4.alloc (.cells #[.int .i64 1] 3) := by rw [e4, e3, e2, e1]; rfl
  have s1 : w1.heap.size = w.heap.size + 1 := by rw [e1]; simp
  have s2 : w2.heap.size = w.heap.size + 1 + 1 := by rw [e2]; simp [s1]
  have s3 : w3.heap.size = w.heap.size + 1 + 1 + 1 := by rw [e3]; simp [s2]
  have s4 : w4.heap.size = w.heap.size + 1 + 1 + 1 + 1 := by rw [e4]; simp [s3]
  have b2 : Below w1.heap.size w1 w2 := by rw [e2]; exact al _ _
  have b3 : Below w2.heap.size w2 w3 := by rw [e3]; exact al _ _
  have b4 : Below w3.heap.size w3 w4 := by rw [e4]; exact al _ _
  have b5 : Below w4.heap.size w4 (ex5 w) := by rw [e5]; exact al _ _
  have i1 : IS w1.heap.size w1 (slN w.heap.size 1) [1] := by rw [e1]; exact is_new w [1] 3 w.heap.size rfl (by decide)
  have i2 : IS w2.heap.size w2 (slN (w.heap.size + 1) 1) [2] := by rw [e2]; exact is_new w1 [2] 3 (w.heap.size + 1) s1.symm (by decide)
  have i3 : IS w3.heap.size w3 (slN (w.heap.size + 1 + 1) 1) [3] := by rw [e3]; exact is_new w2 [3] 3 (w.heap.size + 1 + 1) s2.symm (by decide)
  have i4 : IS w4.heap.size w4 (slN (w.heap.size + 1 + 1 + 1) 1) [3] := by rw [e4]; exact is_new w3 [3] 3 (w.heap.size + 1 + 1 + 1) s3.symm (by decide)
  have i5 : IS (ex5 w).heap.size (ex5 w) (slN (w.heap.size + 1 + 1 + 1 + 1) 1) [1] := by rw [e5]; exact is_new w4 [1] 3 (w.heap.size + 1 + 1 + 1 + 1) s4.symm (by decide)
  have r := rs_new (ex5 w) [slN w.heap.size 1, slN (w.heap.size + 1) 1, slN (w.heap.size + 1 + 1) 1, slN (w.heap.size + 1 + 1 + 1) 1, slN (w.heap.size + 1 + 1 + 1 + 1) 1] [[1], [2], [3], [3], [1]] 24 (w.heap.size + 1 + 1 + 1 + 1 + 1) (ex5_size w).symm rfl (by show 5 ≤ maxLen; unfold maxLen; omega) (fun i hi => by
    have : i < 5 := hi
    rcases i with _ | _ | _ | _ | _ | i
    · exact ⟨_, rfl, (((i1.nx b2).nx b3).nx b4).nx b5⟩
    · exact ⟨_, rfl, ((i2.nx b3).nx b4).nx b5⟩
    · exact ⟨_, rfl, (i3.nx b4).nx b5⟩
    · exact ⟨_, rfl, i4.nx b5⟩
    · exact ⟨_, rfl, i5⟩
    · omega)
  obtain ⟨w6, e6⟩ : ∃ x, x = (ex5 w).alloc (.cells #[slN w.heap.size 1, slN (w.heap.size + 1) 1, slN (w.heap.size + 1 + 1) 1, slN (w.heap.size + 1 + 1 + 1) 1, slN (w.heap.size + 1 + 1 + 1 + 1) 1] 24) := ⟨_, rfl⟩
  obtain ⟨w7, e7⟩ : ∃ x, x = w6.alloc (.cells #[.int .i64 0, .int .i64 0, .int .i64 0, .int .i64 1, .int .i64 0] 3) := ⟨_, rfl⟩
  have e8 : exW w = w7.alloc (.cells #[.string ⟨#[120]⟩] 9) := by rw [e7, e6]; rfl
  have s6 : w6.heap.size = w.heap.size + 1 + 1 + 1 + 1 + 1 + 1 := by rw [e6, World.size_alloc, ex5_size]
  have s7 : w7.heap.size = w.heap.size + 1 + 1 + 1 + 1 + 1 + 1 + 1 := by rw [e7, World.size_alloc, s6]
  have b7 : Below w6.heap.size w6 w7 := by rw [e7]; exact al _ _
  have b8 : Below w7.heap.size w7 (exW w) := by rw [e8]; exact al _ _
  have r6 : RS w6.heap.size w6 (slN (w.heap.size + 1 + 1 + 1 + 1 + 1) 5) [[1], [2], [3], [3], [1]] := by rw [e6]; exact r
  have i7 : IS w7.heap.size w7 (slN (w.heap.size + 1 + 1 + 1 + 1 + 1 + 1) 5) [0, 0, 0, 1, 0] := by rw [e7]; exact is_new w6 [0, 0, 0, 1, 0] 3 _ s6.symm (by decide)
  have t8 : TS (exW w).heap.size (exW w) (slN (w.heap.size + 1 + 1 + 1 + 1 + 1 + 1 + 1) 1) [txX] := by rw [e8]; exact ts_new w7 [txX] 9 _ s7.symm (by decide) (by intro x hx; rw [List.mem_singleton.1 hx]; decide)
  exact mkC_is (m := exM) zA_is (fun i _ => by show (0 : Nat) < 256; decide) ((r6.nx b7).nx b8) (i7.nx b8) t8
end Go.Proofs.Ytfhddbjojpmbcaa.DfaW
