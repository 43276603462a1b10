/- Whether two machines are the same: walks of both texts. -/
import Derived.Test.YtfhddbjojpmbcaaRightF
namespace Go.Proofs.Ytfhddbjojpmbcaa.DfaW
set_option linter.unusedVariables false
open Go.RowKit Go.Maps Go.Proofs.Ytfhddbjojpmbcaa.PartM Go.Proofs.Ytfhddbjojpmbcaa.PartW

theorem same_of_getD {α : Type} {l l' : List α} {d : α} (h : l.length = l'.length) (e : ∀ i, i < l.length → l.getD i d = l'.getD i d) : l = l' := by
  apply List.ext_getElem h
  intro i h1 h2
  have := e i h1
  simpa [List.getD, h1, h2] using this
/-- The same world, some draws on. -/
def Dr (w W : World) : Prop := ∃ q, W = w.drewN q
theorem Dr.refl (w : World) : Dr w w := ⟨0, rfl⟩
theorem Dr.drew {w W : World} (h : Dr w W) : Dr w W.drew := by
  obtain ⟨q, rfl⟩ := h
  exact ⟨q + 1, (World.drewN_drewN w q 1)⟩
theorem Dr.below {w W : World} {B : Nat} (h : Dr w W) : Below B w W := by
  obtain ⟨q, rfl⟩ := h
  exact below_drewN (Below.refl _ _) q
theorem Dr.trans {w W X : World} (h : Dr w W) (k : Dr W X) : Dr w X := by
  obtain ⟨q, rfl⟩ := h
  obtain ⟨r, rfl⟩ := k
  exact ⟨q + r, World.drewN_drewN w q r⟩
set_option maxHeartbeats 1000000 in
theorem Same17_any {v v' : Value} {l l' : List Int} {B B' : Nat} (w : World) (hB : B ≤ w.heap.size) (hB' : B' ≤ w.heap.size) (h : IS B w v l) (k : IS B' w v' l') :
    Calls Try.prog 13 #[v, v'] w fun e w' => Says e (l = l') ∧ Dr w w' := by
  replace h := h.up hB
  replace k := k.up hB'
  obtain ⟨a, cap, rfl, h1, h2, h3⟩ := h.open
  obtain ⟨a', cap', rfl, k1, k2, k3⟩ := k.open
  obtain ⟨n, hn⟩ : ∃ n, n = l.length := ⟨_, rfl⟩
  obtain ⟨n', hn'⟩ : ∃ n, n = l'.length := ⟨_, rfl⟩
  have hm : (n : Int) ≤ 9223372036854775807 := by unfold maxLen at h2; omega
  have hm' : (n' : Int) ≤ 9223372036854775807 := by unfold maxLen at k2; omega
  have HL := Lib.hid (show n = l.length ∧ n' = l'.length from ⟨hn, hn'⟩)
  rw [← hn] at h3 ⊢
  rw [← hn'] at k3 ⊢
  have HC := Lib.hid h3; have HK := Lib.hid k3
  clear h k h1 h2 h3 k1 k2 k3 hn hn' hB hB'
  by_cases hq : n = n'
  case neg =>
    have t0 : ((n : Int) != (n' : Int)) = true := by simp; omega
    have HQ := Lib.hid hq
    clear hq
    go_enter Try.func13, Try.ntmps13
    go_wp2_with fail
    go_ret
    exact ⟨Says.no fun e => HQ.out (by rw [HL.out.1, HL.out.2, e]), Dr.refl _⟩
  subst hq
  go_enter Try.func13, Try.ntmps13
  go_wp2_with fail
  go_loopw [5] (fun i wr => ∃ j : Nat, j ≤ n ∧ i = .int .i64 j ∧ Hid (∀ i, i < j → l.getD i 0 = l'.getD i 0) ∧ Dr w wr) (fun i _ => n - (intOf i).toNat)
  case atStart => exact ⟨0, Nat.zero_le _, rfl, Lib.hid fun j hj => absurd hj (Nat.not_lt_zero _), Dr.refl _⟩
  case round =>
    obtain ⟨j, hj, rfl, HA, hb⟩ := hrel
    by_cases hlt : j < n
    · obtain ⟨b, o, rfl, hb1, hc1⟩ := HC.out j hlt
      obtain ⟨b', o', rfl, hb2, hc2⟩ := HK.out j hlt
      have c1 := (hb.drew.below.cell (p := ⟨b, o + j, none⟩) hb1).trans hc1
      have c2 := (hb.drew.below.cell (p := ⟨b', o' + j, none⟩) hb2).trans hc2
      obtain ⟨x, hx⟩ : ∃ x, x = l.getD j 0 := ⟨_, rfl⟩
      obtain ⟨y, hy⟩ : ∃ y, y = l'.getD j 0 := ⟨_, rfl⟩
      rw [← hx] at c1
      rw [← hy] at c2
      have HXY := Lib.hid (show x = l.getD j 0 ∧ y = l'.getD j 0 from ⟨hx, hy⟩)
      have HB := Lib.hid hb.drew
      have HLT := Lib.hid hlt
      clear hb1 hb2 hc1 hc2 hx hy hb
      by_cases hxy : x = y
      · have t0 : (x != y) = false := by simpa using hxy
        have HE := Lib.hid hxy
        go_wp2_with fail
        go_region
        go_wp2_with fail
        refine ⟨⟨j + 1, HLT.out, by go_num, Lib.hid fun i hi => ?_, HB.out⟩, by have := HLT.out; simp [intOf]; omega⟩
        by_cases e : i = j
        · subst e; rw [← HXY.out.1, ← HXY.out.2]; exact HE.out
        · exact HA.out i (by omega)
      · have t0 : (x != y) = true := by simpa using hxy
        have HE := Lib.hid hxy
        clear hxy
        go_wp2_with fail
        go_region
        go_wp2_with fail
        go_ret
        exact ⟨Says.no fun e => HE.out (by rw [HXY.out.1, HXY.out.2, e]), HB.out⟩
    · have hjn : j = n := by omega
      subst hjn
      have HB := Lib.hid hb
      have HE := Lib.hid (same_of_getD (d := 0) (show l.length = l'.length by rw [← HL.out.1]; exact HL.out.2) (fun i hi => HA.out i (by rw [HL.out.1]; exact hi)))
      clear hb
      go_wp2_with fail
      go_ret
      exact ⟨Says.yes HE.out, HB.out⟩
/-- The same, as a quiet call. -/
theorem Same17_q {v v' : Value} {l l' : List Int} {B B' : Nat} (w : World) (n : Nat) (hB : B ≤ w.heap.size) (hB' : B' ≤ w.heap.size) (h : IS B w v l) (k : IS B' w v' l') :
    Calls Try.prog 13 #[v, v'] (w.drewN n) fun e w' => e = .returned (.bool (l == l')) ∧ ∃ q, w' = w.drewN q := by
  refine (Same17_any (w.drewN n) (B := B) (B' := B') hB hB' (h.below (below_drewN (Below.refl _ _) n)) (k.below (below_drewN (Below.refl _ _) n))).mono ?_
  rintro e w' ⟨hs, q, rfl⟩
  refine ⟨?_, n + q, World.drewN_drewN w n q⟩
  rcases hs.elim with ⟨rfl, hn⟩ | ⟨rfl, hn⟩
  · rw [hn]; exact Base.ret_bool (by simp)
  · exact Base.ret_bool (by symm; rw [beq_eq_false_iff_ne]; exact hn)
end Go.Proofs.Ytfhddbjojpmbcaa.DfaW
