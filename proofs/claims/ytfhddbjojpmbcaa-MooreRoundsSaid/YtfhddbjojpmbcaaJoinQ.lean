/- Walks of Join, Finer. -/
import Derived.Test.YtfhddbjojpmbcaaNumJ
import Derived.Test.YtfhddbjojpmbcaaNormI
namespace Go.Proofs.Ytfhddbjojpmbcaa.DfaW
set_option linter.unusedVariables false
set_option linter.unusedSimpArgs false
open Go.RowKit Go.Maps Go.Proofs.Ytfhddbjojpmbcaa.PartM Go.Proofs.Ytfhddbjojpmbcaa.PartW
theorem I64.at {l : List Int} (h : I64 l) {i : Nat} (hi : i < l.length) : (Lit.int .i64 (l.getD i 0)).wf = true := h _ (by rw [List.getD_eq_getElem?_getD, List.getElem?_eq_getElem hi]; exact List.getElem_mem _)
set_option maxHeartbeats 1000000 in
theorem quoJoin_any : JoinC 29 := fun {va vb a b} w ha hb ha6 hb6 hl => by
  have hbA : Below w.heap.size w (w.alloc (.cells #[va] 24)) := (Below.refl _ _).alloc (Nat.le_refl _) _
  have hb0 : Below w.heap.size w ((w.alloc (.cells #[va] 24)).alloc (.cells #[vb] 24)) := hbA.alloc hbA.size _
  have hp : Ar ((w.alloc (.cells #[va] 24)).alloc (.cells #[vb] 24)) w.heap.size #[va] 24 := (Ar.new _ _ _).alloc _
  have hq : Ar ((w.alloc (.cells #[va] 24)).alloc (.cells #[vb] 24)) (w.heap.size + 1) #[vb] 24 := by
    have := Ar.new (w.alloc (.cells #[va] 24)) #[vb] 24
    rw [World.size_alloc] at this; exact this
  have HN := Lib.hid (numberedJ (w := (w.alloc (.cells #[va] 24)).alloc (.cells #[vb] 24)) (n := min a.length b.length) (f := fun i => a.getD i 0) (g := fun i => b.getD i 0) (E := blkE2 a b) ⟨w.heap.size, 0, none⟩ ⟨w.heap.size + 1, 0, none⟩ (by omega) (blkE2_eqv a b)
    (keysP (fun i hi => ha6.at (by omega)) (fun i hi => hb6.at (by omega)) (fun i j hi hj => blkE2_iff))
    fun W hb' i hi => joinF_any (B := w.heap.size) W (hp.below hb') (hq.below hb') (ha.below (hb0.trans (hb'.mono hb0.size))) (hb.below (hb0.trans (hb'.mono hb0.size))) (by omega) (by omega))
  obtain ⟨a1, c1, rfl, _, hm1, _⟩ := ha.open
  obtain ⟨a2, c2, rfl, _, hm2, _⟩ := hb.open
  obtain ⟨n1, hn1⟩ : ∃ n, n = a.length := ⟨_, rfl⟩
  obtain ⟨n2, hn2⟩ : ∃ n, n = b.length := ⟨_, rfl⟩
  have HE := Lib.hid (show joinV a b = numsTo (blkE2 a b) (min n1 n2) by rw [hn1, hn2]; rfl)
  have hmin : min (n1 : Int) (n2 : Int) = ((min n1 n2 : Nat) : Int) := by omega
  rw [← hn1, ← hn2] at HN
  rw [← hn1, ← hn2] at hb0 ⊢
  have HB0 := Lib.hid hb0
  have h1 : (n1 : Int) ≤ 9223372036854775807 := by unfold maxLen at hm1; omega
  have h2 : (n2 : Int) ≤ 9223372036854775807 := by unfold maxLen at hm2; omega
  clear ha hb ha6 hb6 hl hbA hb0 hp hq hn1 hn2 hm1 hm2
  go_enter Try.func29, Try.ntmps29
  go_wp2_with fail
  refine HN.out.mono ?_
  rintro e w1 ⟨u, x, rfl, k1, k2, hb⟩
  have HB := Lib.hid (HB0.out.trans (hb.mono HB0.out.size))
  have K1 := Lib.hid (owns_base k1 HB0.out.size)
  clear k1 k2 hb HN
  go_wp2_with fail
  go_ret
  exact ⟨_, rfl, by rw [HE.out]; exact K1.out, HB.out⟩
theorem EqualI_lens (a a' : Option Addr) (n c m d : Nat) (hnm : n ≠ m) (w : World) : Calls Try.prog 28 #[.slice a n c, .slice a' m d] w fun e w' => e = .returned (.bool false) ∧ Below w.heap.size w w' := by
  have hnm' : ¬ (n : Int) = (m : Int) := by omega
  go_enter Try.func28, Try.ntmps28
  go_wp2
  go_ret
  exact ⟨rfl, Below.refl _ _⟩
theorem EqualI_any {B B' : Nat} {w : World} {v v' : Value} {l l' : List Int} (h : IS B w v l) (k : IS B' w v' l') :
    Calls Try.prog 28 #[v, v'] w fun e w' => e = .returned (.bool (l == l')) ∧ Below w.heap.size w w' := by
  obtain ⟨a, cap, rfl, h1, h2, h3⟩ := h.open
  obtain ⟨a', cap', rfl, k1, k2, k3⟩ := k.open
  have hm : ∀ n : Nat, n ≤ maxLen → n ≤ 9223372036854775807 := fun n h => by unfold maxLen at h; omega
  by_cases hl : l.length = l'.length
  · rcases Nat.eq_zero_or_pos l.length with h0 | h0
    · have e1 : l = [] := List.length_eq_zero_iff.1 h0
      have e2 : l' = [] := List.length_eq_zero_iff.1 (by omega)
      subst e1 e2
      exact (Try.slices_Equal_int_empty a a' cap 0 cap' w (by omega)).mono fun e w' ⟨a, b⟩ => ⟨a, by rw [b]; exact Below.refl _ _⟩
    · obtain ⟨b, o, rfl, hb, hc⟩ := IS.cells (cap := cap) h3 h0
      obtain ⟨b', o', rfl, hb', hc'⟩ := IS.cells (cap := cap') k3 (by omega)
      have := Try.slices_Equal_int b o l.length cap b' o' l'.length cap' l l' w (Nat.le_refl _) (Nat.le_refl _) (hm _ (by omega)) (hm _ (by omega)) hc hc'
      rw [List.take_length, List.take_length] at this
      exact this.mono fun e w' ⟨a, q, b⟩ => ⟨a, by rw [b]; exact below_drewN (Below.refl _ _) q⟩
  · refine (EqualI_lens a a' _ cap _ cap' hl w).mono fun e w' ⟨a, b⟩ => ⟨?_, b⟩
    rw [a]
    refine Base.ret_bool ?_
    symm
    rw [beq_eq_false_iff_ne]
    rintro rfl
    exact hl rfl
/-- The blocks of both are those of the first just where the second parts none of these. -/
theorem finerQ_iff {a b : List Int} (h : a.length = b.length) : (joinV a b == normV a) = true ↔ FinerP a b := by
  rw [beq_iff_eq]
  have hmin : min a.length b.length = a.length := by omega
  constructor
  · intro e
    refine ⟨h, fun i j hi hj hij => ?_⟩
    have h1 := (normV_iff hi hj).2 hij
    rw [← e] at h1
    exact ((joinV_iff (by omega) (by omega)).1 h1).2
  · intro hF
    unfold joinV normV
    rw [hmin]
    refine numsTo_congr fun i j hi hj => ?_
    rw [Bool.eq_iff_iff, blkE2_iff, blkE_iff]
    exact ⟨fun x => x.1, fun x => ⟨x, hF.2 i j hi hj x⟩⟩
set_option maxHeartbeats 1000000 in
theorem quoFiner_any : FinerC 17 := fun {va vb a b} w ha hb ha6 hb6 hl => by
  obtain ⟨a1, c1, rfl, _, hm1, _⟩ := ha.open
  obtain ⟨a2, c2, rfl, _, hm2, _⟩ := hb.open
  have HA := Lib.hid ha; have HBB := Lib.hid hb; have H6 := Lib.hid (show I64 a ∧ I64 b from ⟨ha6, hb6⟩); have HLL := Lib.hid hl
  obtain ⟨n1, hn1⟩ : ∃ n, n = a.length := ⟨_, rfl⟩
  obtain ⟨n2, hn2⟩ : ∃ n, n = b.length := ⟨_, rfl⟩
  have h1 : (n1 : Int) ≤ 9223372036854775807 := by unfold maxLen at hm1; omega
  have h2 : (n2 : Int) ≤ 9223372036854775807 := by unfold maxLen at hm2; omega
  have HL := Lib.hid (show n1 = a.length ∧ n2 = b.length from ⟨hn1, hn2⟩)
  rw [← hn1] at HA ⊢
  rw [← hn2] at HBB ⊢
  clear ha hb ha6 hb6 hl hn1 hn2 hm1 hm2
  go_enter Try.func17, Try.ntmps17
  by_cases hne : n1 = n2
  · have t0 : ((n1 : Int) == (n2 : Int)) = true := by simp [hne]
    have HQ := Lib.hid hne
    clear hne
    go_wp2_with fail
    refine (quoJoin_any w HA.out HBB.out H6.out.1 H6.out.2 HLL.out).mono ?_
    rintro e w1 ⟨v1, rfl, ho1, hb1⟩
    have HB1 := Lib.hid hb1; have HO1 := Lib.hid ho1
    clear ho1 hb1
    go_wp2_with fail
    refine (quoNorm_any w1 ((HA.out.below HB1.out).up HB1.out.size) H6.out.1 HLL.out).mono ?_
    rintro e w2 ⟨v2, rfl, ho2, hb2⟩
    have HB2 := Lib.hid (HB1.out.trans (hb2.mono HB1.out.size)); have HO2 := Lib.hid ho2.is; have HO12 := Lib.hid (HO1.out.below hb2).is
    clear ho2 hb2 HO1
    go_wp2_with fail
    refine (EqualI_any HO12.out HO2.out).mono ?_
    rintro e w3 ⟨rfl, hb3⟩
    have HB3 := Lib.hid (HB2.out.trans (hb3.mono HB2.out.size))
    have HS := Lib.hid (finerQ_iff (a := a) (b := b) (by have := HL.out; have := HQ.out; omega))
    clear hb3
    generalize (joinV a b == normV a) = f at *
    go_wp2_with fail
    go_ret
    exact ⟨⟨f, rfl, HS.out⟩, HB3.out⟩
  · have t0 : ((n1 : Int) == (n2 : Int)) = false := by simp; omega
    have HF := Lib.hid (show ¬ FinerP a b from fun h => hne (by have := h.1; have := HL.out; omega))
    clear hne
    go_wp2_with fail
    go_ret
    exact ⟨⟨false, rfl, by simp [HF.out]⟩, Below.refl _ _⟩
end Go.Proofs.Ytfhddbjojpmbcaa.DfaW
