/- The sequence of a slice's parts of 64 sets. -/
import Derived.RangeFuncBox
import Derived.RangeFuncLeaves
import Derived.RangeFuncNested
import Derived.Shelf.Abstract
import Derived.WalkKit
import Derived.OwnWalkIn
import Derived.TacticsInMore
import Derived.LoopNIn
import Derived.LoopIn
import Derived.Maps.AppendAt
import Derived.Test.YtciggkebbhineaaDoorSets
namespace Go.Proofs.YtciggkebbhineaaDoor.PartW
set_option linter.unusedVariables false
open Go.RowKit Go.Shelf Go.Proofs.YtciggkebbhineaaDoor.PartM Go.Proofs.YtciggkebbhineaaDoor.SetM Go.Proofs.YtciggkebbhineaaDoor.SetW
attribute [local go_sem] Oper.semAt_some

/-- A part: where it begins, how long it is. -/
abbrev Win (L : Nat) := { p : Nat × Nat // p.1 + p.2 ≤ L ∧ p.2 ≤ 64 }
def winV (b o : Nat) {L : Nat} (p : Win L) : Value := .slice (some ⟨b, o + p.1.1 * 4, none⟩) p.1.2 p.1.2
def winF (fs : List (Nat → Bool)) (p : Win fs.length) : List (Nat → Bool) := (fs.drop p.1.1).take p.1.2
def Kp (n₀ p q : Nat) (W W' : World) : Prop := Below n₀ W W' ∧ W'.heap[p]? = W.heap[p]? ∧ W'.heap[q]? = W.heap[q]?
theorem Kp.trans {n₀ p q : Nat} {A B C : World} (h : Kp n₀ p q A B) (k : Kp n₀ p q B C) : Kp n₀ p q A C := ⟨h.1.trans k.1, k.2.1.trans h.2.1, k.2.2.trans h.2.2⟩

theorem Chunk_any (a : Option Addr) (L cap : Nat) (w : World) :
    Calls Tryd.prog 27 #[.slice a L cap, .int .i64 64] w fun e w' => e = .returned (.func (.func 33) #[] #[.pointer (some ⟨w.heap.size, 0, none⟩), .pointer (some ⟨w.heap.size + 1, 0, none⟩)]) ∧ (w.alloc (.cells #[.slice a L cap] 27)).alloc (.cells #[.int .i64 64] 3) = w' := by
  have h := hmf
  go_enter Tryd.func27, Tryd.ntmps27
  go_wp2_with fail
  go_ret
  exact ⟨rfl, rfl⟩

theorem chunk_step {fs : List (Nat → Bool)} {i m L : Nat} {pre : List (Win fs.length)} {x : Win fs.length} (hL : L = fs.length) (hm : 0 < m ∧ m ≤ 64 ∧ i + m ≤ L ∧ (m = 64 ∨ i + m = L))
    (hf : (pre.map (winF fs)).flatten = fs.take i ∧ pre.length * 64 = i) (hx : winF fs x = (fs.drop i).take m) : ((pre ++ [x]).map (winF fs)).flatten = fs.take (i + 64) ∧ (pre ++ [x]).length * 64 = i + 64 := by
  refine ⟨?_, by rw [List.length_append, List.length_cons, List.length_nil]; omega⟩
  rw [List.map_append, List.flatten_append, hf.1, List.map_cons, List.map_nil, List.flatten_cons, List.flatten_nil, List.append_nil, hx, ← List.take_add]
  rcases hm.2.2.2 with h | h
  · rw [h]
  · rw [List.take_of_length_le (by omega), List.take_of_length_le (by omega)]
theorem chunk_less {i L : Nat} (h : i < L) : L + 64 - (intOf (.int .i64 ((i : Int) + 64))).toNat < L + 64 - (intOf (.int .i64 (i : Int))).toNat := by simp [intOf]; omega
theorem le64 {i L : Nat} (h : i < L) : i + 64 ≤ L + 63 := by omega
theorem int64 (i : Nat) : Value.int .i64 ((i : Int) + 64) = Value.int .i64 ((i + 64 : Nat) : Int) := congrArg _ (by rw [Int.natCast_add]; rfl)
theorem wrap_small {x : Int} (h0 : 0 ≤ x) (h1 : x < 4611686018427387904) : wrap64 x = x := by unfold wrap64; omega
set_option maxRecDepth 100000 in
set_option maxHeartbeats 2000000 in
theorem Chunk1_in (n : Nat) (hn : 1 ≤ n) (l p q n₀ b o : Nat) (fs : List (Nat → Bool)) (a : Option Addr) (cap : Nat) (hcap : fs.length ≤ cap ∧ fs.length ≤ 1000000) (ha : fs = [] ∨ a = some ⟨b, o, none⟩) (J Jx : List (Win fs.length) → World → Prop) (hJ : ∀ s W W', J s W → W.grownBy W' none → J s W')
    (hY : ∀ (pre : List (Win fs.length)) (x : Win fs.length) (W : World), J pre W → pre.length < fs.length + 1 → YieldAt Fence.wide (n - 1) Tryd.prog l #[winV b o x] W fun e W' =>
      (e = .returned (.bool true) ∧ J (pre ++ [x]) W' ∧ Kp n₀ p q W W') ∨ (e = .returned (.bool false) ∧ Jx (pre ++ [x]) W'))
    (W : World) (hp : Boxed W p 27 (.slice a fs.length cap)) (hq : Boxed W q 3 (.int .i64 64)) (h0 : J [] W) :
    CallsIn Fence.wide n Tryd.prog 33 #[.func (.yield l) #[] #[], .pointer (some ⟨p, 0, none⟩), .pointer (some ⟨q, 0, none⟩)] W fun e W' => (∃ v, e = .returned v) ∧
      ((∃ ys : List (Win fs.length), (ys.map (winF fs)).flatten = fs ∧ J ys W') ∨ (∃ pre, True ∧ Jx pre W')) := by
  obtain ⟨L, hL⟩ : ∃ L, L = fs.length := ⟨_, rfl⟩
  have HL := Lib.hid hL
  have HY := Lib.hid hY
  have H0 := Lib.hid h0
  have HCAP := Lib.hid hcap
  have HA := Lib.hid ha
  have HP := Lib.hid hp
  have HQ := Lib.hid hq
  rw [← hL] at HP
  refine callsIn_of_wp Tryd.func33 rfl trivial ?_ rfl
  simp only [Tryd.ntmps33, List.size_toArray, List.length_cons, List.length_nil, Nat.reduceAdd, Nat.reduceSub, Array.replicate_succ, Array.replicate_zero, List.push_toArray, List.append_toArray, List.nil_append, List.cons_append]
  clear hL hY h0 hcap ha hp hq
  gi_wp2
  gi_loopw [4] (fun v wr => ∃ (pre : List (Win fs.length)) (i : Nat), v = .int .i64 i ∧ i ≤ L + 63 ∧ Hid ((pre.map (winF fs)).flatten = fs.take i ∧ pre.length * 64 = i) ∧ Hid (J pre wr) ∧ Boxed wr p 27 (.slice a L cap) ∧ Boxed wr q 3 (.int .i64 64)) (fun v _ => L + 64 - (intOf v).toNat)
  case atStart => exact ⟨[], 0, rfl, by omega, Lib.hid ⟨by simp, by simp⟩, H0, HP.out, HQ.out⟩
  case round =>
    obtain ⟨pre, i, rfl, hi, HF, HJ, hp, hq⟩ := hrel
    clear H0 HP HQ
    have c0 := hp.cell; have c1 := hq.cell
    by_cases hlt : i < L
    · have t0 : decide ((i : Int) < (L : Int)) = true := by simp; omega
      have t2 : (0 : Int) ≤ (i : Int) := by omega
      have t3 : (i : Int) ≤ (L : Int) := by omega
      have hLc : L ≤ cap ∧ L ≤ 1000000 := by have := HCAP.out; rw [← HL.out] at this; exact this
      obtain ⟨m, hm, hm1, hm2, hm3⟩ : ∃ m : Nat, min (64 : Int) ((L - i : Nat) : Int) = (m : Int) ∧ 0 < m ∧ m ≤ 64 ∧ i + m ≤ L ∧ (m = 64 ∨ i + m = L) := by
        by_cases h : 64 ≤ L - i
        · exact ⟨64, by rw [Int.min_eq_left (by omega)]; rfl, by omega, by omega, by omega, .inl rfl⟩
        · exact ⟨L - i, by rw [Int.min_eq_right (by omega)], by omega, by omega, by omega, .inr (by omega)⟩
      have hw : wrap64 ((i : Int) + (m : Int)) = ((i + m : Nat) : Int) := by unfold wrap64; omega
      have u0 : (0 : Int) ≤ ((i + m : Nat) : Int) := by omega
      have u1 : ((i + m : Nat) : Int) ≤ (cap : Int) := by omega
      have u2 : (i : Int) ≤ ((i + m : Nat) : Int) := by omega
      have u3 : ¬ cap = i := by omega
      have u4 : ¬ i + m = i := by omega
      have u5 : i + m - i = m := by omega
      obtain rfl : a = some ⟨b, o, none⟩ := by
        rcases HA.out with h | h
        · have := HL.out; rw [h] at this; simp at this; omega
        · exact h
      have hadd : (⟨b, o, none⟩ : Addr).add (i * 4) = ⟨b, o + i * 4, none⟩ := Addr.add_mid b o (i * 4)
      have HM := Lib.hid (show 0 < m ∧ m ≤ 64 ∧ i + m ≤ L ∧ (m = 64 ∨ i + m = L) from ⟨hm1, hm2, hm3⟩)
      have HLT := Lib.hid hlt
      have HLC := Lib.hid hLc
      clear hlt hi hLc hm1 hm2 hm3
      gi_wp2
      gi_region
      have hwin : i + m ≤ fs.length ∧ m ≤ 64 := by have := HM.out; rw [← HL.out]; omega
      have hpl : pre.length < fs.length + 1 := by have := HF.out.2; have := HLT.out; have := HL.out; omega
      obtain ⟨x, hx1, hx2⟩ : ∃ x : Win fs.length, winV b o x = .slice (some ⟨b, o + i * 4, none⟩) m m ∧ winF fs x = (fs.drop i).take m := ⟨⟨(i, m), hwin⟩, rfl, rfl⟩
      obtain ⟨fn, tmps, assign, body, hyy, hR⟩ := HY.out pre x wr.drew (hJ _ _ _ HJ.out ⟨rfl, rfl, rfl, Nat.le_refl _, fun _ _ _ => rfl⟩) hpl
      rw [hx1] at hyy
      have HX := Lib.hid hx2
      have HR := Lib.hid hR
      have HW := Lib.hid hw
      have HP := Lib.hid hp; have HQ := Lib.hid hq
      clear hwin hpl hR hx1 hx2 HA hp hq
      gi_wp2
      refine HR.out.mono ?_
      rintro e W3 (⟨rfl, hJ3, hk3⟩ | ⟨rfl, hJx3⟩)
      · have hw2 : wrap64 ((i : Int) + 64) = (i : Int) + 64 := by have h1 := HLT.out; have h2 := HLC.out; clear HM HF hm; exact wrap_small (by omega) (by omega)
        have hp3 : Boxed W3 p 27 (.slice (some ⟨b, o, none⟩) L cap) := hk3.2.1.trans HP.out
        have hq3 : Boxed W3 q 3 (.int .i64 64) := hk3.2.2.trans HQ.out
        have d1 := hq3.cell
        have HJ3 := Lib.hid hJ3; have HP3 := Lib.hid hp3; have HQ3 := Lib.hid hq3
        clear hJ3 hk3 c0 c1 hp3 hq3
        gi_wp2
        have hfin := chunk_step HL.out HM.out HF.out HX.out
        have hle := le64 HLT.out
        have hcl := chunk_less HLT.out
        have hi64 := int64 i
        rw [hw2]
        refine ⟨⟨pre ++ [x], i + 64, ?_, ?_, ?_, ?_, ?_, ?_⟩, ?_⟩
        · exact hi64
        · exact hle
        · exact Lib.hid hfin
        · exact HJ3
        · exact HP3.out
        · exact HQ3.out
        · exact hcl
      · gi_wp2
        refine bodyPost_ret (results_none rfl _ _ _) rfl ?_
        exact ⟨⟨_, rfl⟩, .inr ⟨_, trivial, hJx3⟩⟩
    · have t0 : decide ((i : Int) < (L : Int)) = false := by simp; omega
      have t1 : decide (i < L) = false := by simp; omega
      have HX := Lib.hid (show (pre.map (winF fs)).flatten = fs by rw [HF.out.1, List.take_of_length_le (by rw [← HL.out]; omega)])
      clear hlt hi
      gi_wp2
      apply bodyPost_end
      · exact results_none rfl _ _ _
      · rfl
      · exact ⟨⟨_, rfl⟩, .inl ⟨_, HX.out, HJ.out⟩⟩
theorem chunk_stops (n : Nat) (hn : 1 ≤ n) (p q n₀ b o : Nat) (fs : List (Nat → Bool)) (a : Option Addr) (cap : Nat) (hcap : fs.length ≤ cap ∧ fs.length ≤ 1000000) (ha : fs = [] ∨ a = some ⟨b, o, none⟩) (w : World)
    (hp : Boxed w p 27 (.slice a fs.length cap)) (hq : Boxed w q 3 (.int .i64 64)) :
    SeqStopsK Fence.wide n Tryd.prog 33 #[.pointer (some ⟨p, 0, none⟩), .pointer (some ⟨q, 0, none⟩)] (fun x : Win fs.length => #[winV b o x]) (Kp n₀ p q) (fun ys => (ys.map (winF fs)).flatten = fs) (fun _ => True) (fs.length + 1) w := fun l J Jx W hW hJ _ hY h0 =>
  Chunk1_in n hn l p q n₀ b o fs a cap hcap ha J Jx (fun s A B hs hg => hJ s A B none hs hg (fun r e => by cases e)) hY W ((hW.block p hp.lt).trans hp) ((hW.block q hq.lt).trans hq) h0
end Go.Proofs.YtciggkebbhineaaDoor.PartW
