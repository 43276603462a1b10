/- Walk of what must come: the chapter's example, two states put together. -/
import Derived.Test.YthefhkgjadfhgaaDoorQuoC
import Derived.Test.YthefhkgjadfhgaaDoorSameL
namespace Go.Proofs.YthefhkgjadfhgaaDoor.DfaW
set_option linter.unusedVariables false
set_option linter.unusedSimpArgs false
open Go.RowKit Go.Maps Go.Proofs.YthefhkgjadfhgaaDoor.PartM Go.Proofs.YthefhkgjadfhgaaDoor.PartW
def exM : Mc := ⟨fun _ => 0, 1, [[1], [2], [1]], [0, 0, 0], []⟩
theorem ex_cls : sameA (fun _ => 0) (PartM.nm (byKey fun (_ : Nat) => 0)) = true ∧ rk (byKey fun (_ : Nat) => 0) 256 = 1 := by decide +kernel
theorem ex_ok : Ok exM := by
  refine ⟨ex_cls.1, ?_, ⟨by decide, fun i hi => absurd hi (Nat.not_lt_zero _)⟩, ⟨by decide, by decide, fun i hi => ?_⟩, ⟨rfl, fun j hj => ?_⟩⟩
  · show (1 : Int) = (rk (byKey fun (_ : Nat) => 0) 256 : Nat)
    rw [ex_cls.2]; rfl
  · have : i < 3 := hi
    rcases i with _ | _ | _ | i
    · exact ⟨by decide, by decide⟩
    · exact ⟨by decide, by decide⟩
    · exact ⟨by decide, by decide⟩
    · omega
  · have : j < 3 := hj
    have key : ∀ (x : Int), 0 ≤ x → x < 3 → RowOk (exM.lb.length : Nat) exM.wd [x] := fun x h1 h2 => ⟨rfl, fun i hi => by
      obtain rfl : i = 0 := by simpa using hi
      exact ⟨h1, h2⟩⟩
    rcases j with _ | _ | _ | j
    · exact key 1 (by decide) (by decide)
    · exact key 2 (by decide) (by decide)
    · exact key 1 (by decide) (by decide)
    · omega
theorem ex_stable : StableP exM [4, 4, 4] := by
  refine ⟨ex_ok, rfl, fun s t hs ht _ => ?_⟩
  have hs : s < 3 := hs
  have ht : t < 3 := ht
  have key : ∀ s, s < 3 → exM.lb.getD s 0 = 0 ∧ ([4, 4, 4] : List Int).getD (at2 exM.nx s 0) 0 = 4 := fun s hs => by
    rcases s with _ | _ | _ | s
    · exact ⟨rfl, rfl⟩
    · exact ⟨rfl, rfl⟩
    · exact ⟨rfl, rfl⟩
    · omega
  refine ⟨(key s hs).1.trans (key t ht).1.symm, fun k hk => ?_⟩
  obtain rfl : k = 0 := by have : (k : Int) < 1 := hk; omega
  exact (key s hs).2.trans (key t ht).2.symm
theorem ex_of : ofE exM [4, 4, 4] = 0 ∧ (ofM exM [4, 4, 4]).nx = [[0]] ∧ (ofM exM [4, 4, 4]).lb = [0] ∧ Ok (ofM exM [4, 4, 4]) := by
  have h := of_yes ex_stable
  have h2 : (ofN exM [4, 4, 4]).nx = [[0]] ∧ (ofN exM [4, 4, 4]).lb = [0] := by decide +kernel
  refine ⟨h.1, ?_, ?_, ?_⟩
  · rw [h.2]; exact h2.1
  · rw [h.2]; exact h2.2
  · rw [h.2]; exact ofN_ok ex_stable
theorem ex_normV : normV [7, 3, 7] = [0, 1, 0] := by decide +kernel
/-- New slices, where they lie. -/
theorem is_new (w : World) (l : List Int) (t : TypeId) (b : Nat) (hb : b = w.heap.size) (hl : l.length ≤ maxLen) : IS (w.alloc (.cells (l.map (Value.int .i64)).toArray t)).heap.size (w.alloc (.cells (l.map (Value.int .i64)).toArray t)) (.slice (some ⟨b, 0, none⟩) l.length l.length) l := by
  subst hb
  refine ⟨_, l.length, by simp, by simp, hl, fun i hi => ⟨w.heap.size, 0, rfl, by simp, ?_⟩⟩
  rw [World.cell?_alloc_new, Nat.zero_add]; simp
theorem rs_new3 (w : World) (u1 u2 u3 : Value) (l1 l2 l3 : List Int) (t : TypeId) (b : Nat) (hb : b = w.heap.size) (h1 : IS w.heap.size w u1 l1) (h2 : IS w.heap.size w u2 l2) (h3 : IS w.heap.size w u3 l3) :
    RS (w.alloc (.cells #[u1, u2, u3] t)).heap.size (w.alloc (.cells #[u1, u2, u3] t)) (.slice (some ⟨b, 0, none⟩) 3 3) [l1, l2, l3] := by
  subst hb
  have hb : Below w.heap.size w (w.alloc (.cells #[u1, u2, u3] t)) := (Below.refl _ _).alloc (Nat.le_refl _) _
  refine ⟨[u1, u2, u3], ⟨_, 3, rfl, Nat.le_refl _, by unfold maxLen; omega, fun i hi => ⟨w.heap.size, 0, rfl, by simp, ?_⟩⟩, rfl, fun i hi => ?_⟩
  · rw [World.cell?_alloc_new, Nat.zero_add]; simp
  · have : i = 0 ∨ i = 1 ∨ i = 2 := by simp at hi; omega
    rcases this with rfl | rfl | rfl
    · exact ⟨u1, rfl, (h1.below hb).up hb.size⟩
    · exact ⟨u2, rfl, (h2.below hb).up hb.size⟩
    · exact ⟨u3, rfl, (h3.below hb).up hb.size⟩
theorem IS.nx {w w' : World} {v : Value} {l : List Int} (h : IS w.heap.size w v l) (hb : Below w.heap.size w w') : IS w'.heap.size w' v l := (h.below hb).up hb.size
theorem RS.nx {w w' : World} {v : Value} {l : List (List Int)} (h : RS w.heap.size w v l) (hb : Below w.heap.size w w') : RS w'.heap.size w' v l := (h.below hb).up hb.size
abbrev slN (b n : Nat) : Value := .slice (some ⟨b, 0, none⟩) n n
/-- The five blocks of it. -/
def exW (w : World) : World := ((((w.alloc (.cells #[.int .i64 1] 3)).alloc (.cells #[.int .i64 2] 3)).alloc (.cells #[.int .i64 1] 3)).alloc (.cells #[slN w.heap.size 1, slN (w.heap.size + 1) 1, slN (w.heap.size + 1 + 1) 1] 24)).alloc (.cells #[.int .i64 0, .int .i64 0, .int .i64 0] 3)
def exC (w : World) : Array Value := mkC zA (.int .i64 1) (slN (w.heap.size + 1 + 1 + 1) 3) (slN (w.heap.size + 1 + 1 + 1 + 1) 3) nilS
theorem ex_build (w : World) : ((Tryd.zeroCells27.setIfInBounds 256 (.int .i64 1)).setIfInBounds 257 (slN (w.heap.size + 1 + 1 + 1) 3)).setIfInBounds 258 (slN (w.heap.size + 1 + 1 + 1 + 1) 3) = exC w := by
  have hz := zA_is.size
  rw [zc, (set_hi hz _ _ _ _ _).1, (set_hi hz _ _ _ _ _).2.1, (set_hi hz _ _ _ _ _).2.2.1]
  rfl
theorem al (w : World) (o : Obj) : Below w.heap.size w (w.alloc o) := (Below.refl _ _).alloc (Nat.le_refl _) _
theorem exW_below (w : World) : Below w.heap.size w (exW w) := by
  refine (((((Below.refl _ w).alloc (Nat.le_refl _) _).alloc ?_ _).alloc ?_ _).alloc ?_ _).alloc ?_ _
  all_goals simp only [World.size_alloc]
  all_goals omega
theorem ex_is (w : World) : IsM (exW w).heap.size (exW w) (exC w) exM := by
  have h1 := is_new w [1] 3 w.heap.size rfl (by decide)
  have h2 := is_new (w.alloc (.cells #[.int .i64 1] 3)) [2] 3 (w.heap.size + 1) (by simp) (by decide)
  have h3 := is_new ((w.alloc (.cells #[.int .i64 1] 3)).alloc (.cells #[.int .i64 2] 3)) [1] 3 (w.heap.size + 1 + 1) (by simp) (by decide)
  have r := rs_new3 _ _ _ _ _ _ _ 24 (w.heap.size + 1 + 1 + 1) (by simp) ((h1.nx (al _ _)).nx (al _ _)) (h2.nx (al _ _)) h3
  have h5 := is_new (l := [0, 0, 0]) (t := 3) (b := w.heap.size + 1 + 1 + 1 + 1) (hb := by simp) (hl := by decide) (w := (((w.alloc (.cells #[.int .i64 1] 3)).alloc (.cells #[.int .i64 2] 3)).alloc (.cells #[.int .i64 1] 3)).alloc (.cells #[slN w.heap.size 1, slN (w.heap.size + 1) 1, slN (w.heap.size + 1 + 1) 1] 24))
  exact mkC_is (m := exM) zA_is (fun i _ => by show (0 : Nat) < 256; decide) (r.nx (al _ _)) h5 ⟨VS.nil _ _ _, fun i hi => absurd hi (Nat.not_lt_zero _)⟩
theorem zA_one : zA.all (·.oneCell') = true := zA_is.one
set_option maxRecDepth 100000 in
set_option maxHeartbeats 4000000 in
theorem knows_of (HNO : NormC 18) (HOF : OfC 14) : KnowsC := fun w => by
  have HD := Lib.hid (ex_build w)
  have HS := Lib.hid (show (exC w).size = 260 from mkC_size zA_is.size _ _ _ _)
  have HO := Lib.hid (show (exC w).all (·.oneCell') = true from oneAll zA_one rfl rfl rfl rfl)
  have HZS := Lib.hid zc_size
  have HSX := Lib.hid (show (exW w).heap.size = w.heap.size + 1 + 1 + 1 + 1 + 1 from by unfold exW; simp only [World.size_alloc])
  have HXI := Lib.hid (ex_is w)
  have HXB := Lib.hid (exW_below w)
  have HAR : Hid (Ar ((exW w).alloc (.cells Tryd.zeroCells27 27)) (w.heap.size + 1 + 1 + 1 + 1 + 1) Tryd.zeroCells27 27) := Lib.hid (by rw [← HSX.out]; exact Ar.new _ _ _)
  go_enter Tryd.func5, Tryd.ntmps5
  have hX0 : Bx (((exW w).alloc (.cells Tryd.zeroCells27 27)).setRow (w.heap.size + 1 + 1 + 1 + 1 + 1) (exC w)) (w.heap.size + 1 + 1 + 1 + 1 + 1) (exC w) exM := by rw [← HSX.out]; exact bx_store HXI.out
  have HX0 := Lib.hid hX0
  have HB0 := Lib.hid (show Below w.heap.size w (((exW w).alloc (.cells Tryd.zeroCells27 27)).setRow (w.heap.size + 1 + 1 + 1 + 1 + 1) (exC w)) from by
    rw [← HSX.out]; exact HXB.out.trans ((ist_below _ _).mono HXB.out.size))
  clear hX0
  go_wp2_with (first | (refine wpList_store_dfa rfl (.tmp 1) (.tmp 9) rfl rfl rfl HAR.out HZS.out (by rw [HD.out]; exact HS.out) (by rw [HD.out]; exact HO.out) ?_; rw [HD.out]; simp only [Act.put]) | (refine wpList_load_dfa rfl (.tmp 1) rfl rfl HX0.out ?_))
  show Calls _ _ _ ((((exW w).alloc (.cells Tryd.zeroCells27 27)).setRow (w.heap.size + 1 + 1 + 1 + 1 + 1) (exC w)).alloc (.cells #[.int .i64 4, .int .i64 4, .int .i64 4] 3)) _
  have hsz : (((exW w).alloc (.cells Tryd.zeroCells27 27)).setRow (w.heap.size + 1 + 1 + 1 + 1 + 1) (exC w)).heap.size = w.heap.size + 1 + 1 + 1 + 1 + 1 + 1 := by rw [size_row, World.size_alloc, HSX.out]
  generalize (((exW w).alloc (.cells Tryd.zeroCells27 27)).setRow (w.heap.size + 1 + 1 + 1 + 1 + 1) (exC w)) = W1 at *
  have hl := is_new W1 [4, 4, 4] 3 (w.heap.size + 1 + 1 + 1 + 1 + 1 + 1) hsz.symm (by decide)
  have HB1 := Lib.hid (HB0.out.trans ((al W1 (.cells #[.int .i64 4, .int .i64 4, .int .i64 4] 3)).mono HB0.out.size))
  refine (HOF _ ((HX0.out.is.next (al W1 _)).rxb (Nat.le_refl _) (Below.refl _ _)) hl (by decide) (fun k hk => hk.2)).mono ?_
  clear hl hsz HX0 HB0 HAR HXI HXB HSX HD HS HO
  rintro e w1 ⟨D, he, hD, hb1⟩
  rw [ex_of.1] at he
  subst he
  obtain ⟨M, hM⟩ : ∃ M, M = ofM exM [4, 4, 4] := ⟨_, rfl⟩
  have hM' : M.nx = [[0]] ∧ M.lb = [0] ∧ Ok M := by rw [hM]; exact ex_of.2
  rw [← hM] at hD
  have HMM := Lib.hid hM'
  clear hM hM'
  have HB2 := Lib.hid ((HB1.out.trans (hb1.mono HB1.out.size)).trans ((ist_below w1 D).mono (HB1.out.trans (hb1.mono HB1.out.size)).size))
  have HDS := Lib.hid hD.is.size; have HDO := Lib.hid hD.is.one
  have HN := Lib.hid (bx_store hD.is)
  have HS2 := Lib.hid (show ((w1.alloc (.cells Tryd.zeroCells27 27)).setRow w1.heap.size D).heap.size = w1.heap.size + 1 by rw [size_row, World.size_alloc])
  obtain ⟨a1, a2, a3, c1, c2, c3, k1, k2, k3⟩ := hD.is.slices
  have HK := Lib.hid (show D[257]? = some (.slice a1 1 c1) ∧ D[258]? = some (.slice a2 1 c2) from ⟨by rw [k1, HMM.out.1]; rfl, by rw [k2, HMM.out.2.1]; rfl⟩)
  clear hD hb1 k1 k2 k3 HB1
  go_wp2_with (refine wpList_store_dfa rfl (.tmp 2) (.tmp 14) rfl rfl rfl (Ar.new _ _ _) HZS.out HDS.out HDO.out ?_; simp only [Act.put])
  generalize ((w1.alloc (.cells Tryd.zeroCells27 27)).setRow w1.heap.size D) = W2 at *
  have hl7 := is_new W2 [7, 3, 7] 3 (w1.heap.size + 1) HS2.out.symm (by decide)
  have hal := al W2 (.cells #[.int .i64 7, .int .i64 3, .int .i64 7] 3)
  have HN3 := Lib.hid (HN.out.below hal)
  have HB3 := Lib.hid (HB2.out.trans (hal.mono HB2.out.size))
  refine (HNO _ hl7 (by decide) (by decide)).mono ?_
  clear hl7 hal HN HB2
  rintro e w3 ⟨v3, rfl, ho3, hb3⟩
  rw [ex_normV] at ho3
  have HN4 := Lib.hid (HN3.out.below hb3)
  have HB4 := Lib.hid (HB3.out.trans (hb3.mono HB3.out.size))
  have HO3 := Lib.hid ho3.is
  clear ho3 hb3 HN3 HB3
  go_wp2_with fail
  have hal := al w3 (.cells #[.int .i64 0, .int .i64 1, .int .i64 0] 3)
  have HN5 := Lib.hid (HN4.out.below hal)
  have HB5 := Lib.hid (HB4.out.trans (hal.mono HB4.out.size))
  refine (Same17_any _ (Nat.le_refl _) (Nat.le_refl _) (HO3.out.nx hal) (is_new w3 [0, 1, 0] 3 w3.heap.size rfl (by decide))).mono ?_
  clear hal HN4 HB4 HO3
  rintro e w4 ⟨hs, hd⟩
  obtain rfl := hs.true rfl
  have hN6 := HN5.out.below (hd.below (B := _))
  have HB6 := Lib.hid (HB5.out.trans (hd.below (B := w.heap.size)))
  clear hs hd HN5 HB5
  have y2 := (hN6.lbv HK.out.2).1
  obtain ⟨y1, hrs⟩ := hN6.nxv HK.out.1
  have h0 : 0 < M.lb.length := by rw [HMM.out.2.1]; decide
  obtain ⟨b1, o1, bs, os, cs, rfl, hr1, hr2⟩ := rows_form HMM.out.2.2 hrs h0
  have hr3 := hr2 0 (by have := HMM.out.2.2.cls' (b := 0) (by decide); omega)
  rw [show at2 M.nx 0 0 = 0 by rw [HMM.out.1]; rfl, Nat.add_zero] at hr3
  rw [show (M.nx.getD 0 []).length = 1 by rw [HMM.out.1]; rfl, Nat.add_zero] at hr1
  clear hN6 hrs hr2 h0
  go_wp2_with fail
  go_ret
  exact ⟨rfl, HB6.out⟩
end Go.Proofs.YthefhkgjadfhgaaDoor.DfaW
