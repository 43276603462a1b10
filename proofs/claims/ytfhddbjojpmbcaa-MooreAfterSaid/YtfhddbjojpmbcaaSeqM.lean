/- The sequence of blocks, as moore goes through it: rounds, and the function that it hands back. -/
import Derived.Test.YtfhddbjojpmbcaaRoundM
import Derived.Test.YtfhddbjojpmbcaaSeqT
import Derived.Test.YtfhddbjojpmbcaaMooC
import Derived.Test.YtfhddbjojpmbcaaJoinQ
import Derived.Shelf.Abstract
import Derived.Shelf.RegionOpen
import Derived.WalkKit
import Derived.OwnWalkIn
import Derived.TacticsInMore
import Derived.LoopNIn
import Derived.LoopIn
import Derived.Sort.LoopGhostIn
import Derived.Laws.EntriesVeiled
namespace Go.Proofs.Ytfhddbjojpmbcaa.DfaW
set_option linter.unusedVariables false
set_option linter.unusedSimpArgs false
open Go.RowKit Go.Maps Go.Shelf Go.Proofs.Ytfhddbjojpmbcaa.PartM Go.Proofs.Ytfhddbjojpmbcaa.PartW
attribute [local go_sem] Oper.semAt_some
section
variable {F : Fence} {nF : Nat} {ops : Array Oper} {rest : List Oper} {op : Oper} {a : Act} {w : World} {Q : Exit → Act → World → Prop}
theorem wpListIn_load_dfa (hg : op.guard = none) (x : Operand) (ho : op.op = .load 27 x) {b : Nat} (hx : a.eval x = .pointer (some ⟨b, 0, none⟩)) {C : Array Value} {m : Mc} (h : Bx w b C m)
    (hK : wpListIn F nF Try.prog ops Q rest (a.put op.dst (.agg C)) w) : wpListIn F nF Try.prog ops Q (op :: rest) a w := by
  refine wpListIn_plain hg fun K' hK' => ?_
  unfold Oper.wpIn
  refine ⟨by simp [Oper.about, ho], ?_⟩
  rw [Oper.semAt_plain F _ _ (by rw [ho]; intro c hc; cases hc), run_load_dfa x ho hx h]
  exact hK' _ _ hK
end
/-- What a round of a caller keeps: what lay below n₀ ahead of all, and every cell from p on. -/
structure Kpt (n₀ p : Nat) (W W' : World) : Prop where
  below : Below n₀ W W'
  cells : ∀ (k : Nat) (o : Obj), p ≤ k → W.heap[k]? = some o → o.isCells = true → W'.heap[k]? = some o
theorem Kpt.trans {n₀ p : Nat} {A B C : World} (h : Kpt n₀ p A B) (k : Kpt n₀ p B C) : Kpt n₀ p A C := ⟨h.below.trans k.below, fun i o hi ho hc => k.cells i o hi (h.cells i o hi ho hc) hc⟩
theorem Kpt.refl (n₀ p : Nat) (A : World) : Kpt n₀ p A A := ⟨Below.refl _ _, fun _ _ _ h _ => h⟩
theorem Kpt.put {n₀ p B : Nat} (hn : n₀ ≤ B) (W : World) (l : Nat) (r r' : Loop) (hl : B ≤ l) (h : W.heap[l]? = some (.loop r)) : Kpt n₀ p W (W.putObj l (.loop r')) :=
  ⟨(Below.refl n₀ W).grown (grownBy_putObj' W l _) (by have := (Array.getElem?_eq_some_iff.1 h).1; omega) (fun k e => by cases e; omega), fun k o _ hk hc => (World.putObj_heap_other (by intro e; subst e; rw [h] at hk; cases hk; cases hc)).trans hk⟩
theorem Kpt.set {n₀ p b : Nat} (h1 : n₀ ≤ b) (h2 : b < p) (W : World) (v : Value) : Kpt n₀ p W (W.setCell ⟨b, 0, none⟩ v) :=
  ⟨below_set (Below.refl _ _) h1, fun k o hk ho _ => (Below.heap_setCell _ ⟨b, 0, none⟩ _ k (by intro e; have e : k = b := e; omega)).trans ho⟩
theorem Kpt.oi {n₀ p : Nat} {W W' : World} (h : Kpt n₀ p W W') {v : Value} {l : List Int} (ho : OI W p v l) : OI W' p v l :=
  own_keep ho fun g hg => by
    obtain ⟨⟨cur, h1⟩, h2, _⟩ := own_at ho hg
    rw [h1]; exact h.cells g _ h2 h1 rfl
/-- A machine in box p, all of which lies below n₀. -/
structure Mb (n₀ p : Nat) (C : Array Value) (m : Mc) (W : World) : Prop where
  ar : Ar W p C 27
  is : IsM n₀ W C m
  sz : n₀ ≤ W.heap.size
section
variable {n₀ p : Nat} {C : Array Value} {m : Mc} {W W' : World}
theorem Mb.bx (h : Mb n₀ p C m W) : Bx W p C m := ⟨h.ar, h.is.up h.sz⟩
theorem Mb.below (h : Mb n₀ p C m W) (hb : Below W.heap.size W W') : Mb n₀ p C m W' := ⟨Ar.below h.ar hb, h.is.below (hb.mono h.sz), Nat.le_trans h.sz hb.size⟩
theorem Mb.kp (h : Mb n₀ p C m W) (k : Kpt n₀ p W W') : Mb n₀ p C m W' := ⟨k.cells p _ (Nat.le_refl _) h.ar rfl, h.is.below k.below, Nat.le_trans h.sz k.below.size⟩
theorem Mb.lt (h : Mb n₀ p C m W) : p < W.heap.size := Ar.lt h.ar
end
theorem abide_below {β : Type} {B : Nat} {J : β → World → Prop} (h : AbidesFrom B J) {s : β} {W W' : World} (hj : J s W) (hb : Below W.heap.size W W') : J s W' :=
  h s W W' none hj ⟨hb.os, hb.tape, hb.output, hb.size, fun k hk _ => hb.block k hk⟩ (fun r e => by cases e)
theorem Says.sure {e : Ending} {p : Prop} (h : Says e p) (hp : p) : e = .returned (.bool Bool.true) := by
  rcases h.elim with ⟨h1, _⟩ | ⟨_, h2⟩
  · exact h1
  · exact absurd hp h2
theorem Says.nope {e : Ending} {p : Prop} (h : Says e p) (hp : ¬ p) : e = .returned (.bool Bool.false) := by
  rcases h.elim with ⟨_, h2⟩ | ⟨h1, _⟩
  · exact absurd h2 hp
  · exact h1
theorem lb_64 {m : Mc} (h : Ok m) : I64 m.lb ∧ m.lb.length ≤ 1048576 := by
  obtain ⟨_, h2, h3⟩ := h.lbs
  have h4 := h.nms.1
  refine ⟨I64.of (N := 65) (fun x hx => ?_) (by omega), by omega⟩
  obtain ⟨i, hi, rfl⟩ := List.getElem_of_mem hx
  have := h3 i hi
  rw [List.getD_eq_getElem?_getD, List.getElem?_eq_getElem hi] at this
  simp only [Option.getD_some] at this
  omega
theorem still_eq {m : Mc} {k : Nat} : aftN m (k + 1) = aftN m k ↔ Still m k := by
  rw [aftN_eq]
  constructor
  · intro h s t hs ht x; rw [h s t hs ht]; exact x
  · intro h s t hs ht
    rw [Bool.eq_iff_iff]
    exact ⟨fun x => (alk_succ.1 x).1, h s t hs ht⟩
open Classical in
/-- How many blocks come. -/
noncomputable def tellsN (m : Mc) : Nat := if Ok m then rndN m + 1 else 0
theorem tells_yes {m : Mc} (h : Ok m) : tellsN m = rndN m + 1 := if_pos h
theorem tells_no {m : Mc} (h : ¬ Ok m) : tellsN m = 0 := if_neg h
theorem rounds_any {C : Array Value} (w : World) : Calls Try.prog 24 #[.agg C] w fun e w' => e = .returned (.func (.func 38) #[] #[.pointer (some ⟨w.heap.size, 0, none⟩)]) ∧ w.alloc (.cells C 27) = w' := by
  have hmf : ∀ (fn : Fn) (first cap : Array Value) (w : World), (Instr.makeFunc fn first cap).run Try.prog w = .ok (.func fn first cap) w := fun _ _ _ _ => rfl
  go_enter Try.func24, Try.ntmps24
  go_wp2_with fail
  go_ret
  exact ⟨rfl, rfl⟩
set_option maxRecDepth 100000 in
set_option maxHeartbeats 8000000 in
theorem rounds1_tells {n : Nat} (hn : 1 ≤ n) {n₀ p : Nat} {C : Array Value} {m : Mc} (w : World) (hS : Mb n₀ p C m w) :
    SeqTells Fence.wide n Try.prog 38 #[.pointer (some ⟨p, 0, none⟩)] (fun x : Value => #[x]) (Kpt n₀ p) (fun k x W => OI W p x (aftN m k) ∧ Ok m) (tellsN m) w := by
  intro l J Jx W hW hJ hY h0
  have hS1 := hS.below hW
  have HJ := Lib.hid hJ; have HY := Lib.hid hY; have H0 := Lib.hid h0; have HS := Lib.hid hS1
  clear hS hW hJ hY h0 hS1
  refine callsIn_of_wp Try.func38 rfl trivial ?_ rfl
  simp only [Try.ntmps38, List.size_toArray, List.length_cons, List.length_nil, Nat.reduceAdd, Nat.reduceSub, Array.replicate_succ, Array.replicate_zero, List.push_toArray, List.append_toArray, List.nil_append, List.cons_append]
  by_cases hok : Ok m
  case neg =>
    have HT := Lib.hid (tells_no hok); have HN := Lib.hid hok
    clear hok
    gi_wp2_with (first | (refine wpListIn_load_dfa rfl (.tmp 1) rfl rfl HS.out.bx ?_) | (refine ⟨trivial, ?_⟩; gi_at_call 7; refine (callsIn_wide.2 (RightD_any _ HS.out.bx.is)).mono ?_; rintro e w2 ⟨hs, hb⟩; obtain rfl := hs.nope HN.out; have HJ2 := Lib.hid (abide_below HJ.out H0.out hb); clear hs hb))
    refine bodyPost_ret (results_none rfl _ _ _) rfl ?_
    exact ⟨⟨_, rfl⟩, .inl ⟨[], by rw [HT.out]; rfl, HJ2.out⟩⟩
  case pos =>
    have HT := Lib.hid (tells_yes hok); have HOK := Lib.hid hok; have H64 := Lib.hid (lb_64 hok)
    obtain ⟨a1, a2, a3, c1, c2, c3, k1, k2, k3⟩ := HS.out.is.slices
    have HK2 := Lib.hid k2
    clear hok k1 k2 k3
    gi_wp2_with (first | (refine wpListIn_load_dfa rfl (.tmp 1) rfl rfl HS.out.bx ?_) | (refine ⟨trivial, ?_⟩; gi_at_call 7; refine (callsIn_wide.2 (RightD_any _ HS.out.bx.is)).mono ?_; rintro e w2 ⟨hs, hb⟩; obtain rfl := hs.sure HOK.out; have HJ2 := Lib.hid (abide_below HJ.out H0.out hb); have HS2 := Lib.hid (HS.out.below hb); have hlv := HS2.out.bx.lbv HK2.out; have HLV := Lib.hid hlv.2; have y1 := hlv.1; clear hs hb hlv) | (refine ⟨trivial, ?_⟩; gi_at_call 30; refine (callsIn_wide.2 (quoNorm_any _ HLV.out H64.out.1 H64.out.2)).mono ?_; rintro e w3 ⟨v3, rfl, ho3, hb3⟩; have HJ3 := Lib.hid (abide_below HJ.out HJ2.out hb3); have HS3 := Lib.hid (HS2.out.below hb3); have HO3 := Lib.hid (show OI w3 p v3 (aftN m 0) by rw [aftN_zero]; exact owns_base ho3 (Nat.le_of_lt HS2.out.lt)); clear ho3 hb3))
    gi_loopg [3] (rndN m) (fun k v wr => ∃ pre : List Value, pre.length + k = rndN m ∧ OI wr p v (aftN m pre.length) ∧ J pre wr ∧ Mb n₀ p C m wr)
    case atStart => exact ⟨[], by simp, HO3.out, HJ3.out, HS3.out⟩
    case round =>
      obtain ⟨pre, hk, hO, hj, hS4⟩ := hrel
      obtain ⟨fn, tmps, assign, body, hyy, hR⟩ := HY.out pre u3 wr hj (by rw [HT.out]; omega) ⟨hO, HOK.out⟩
      have HR := Lib.hid hR; have HO4 := Lib.hid hO; have HK := Lib.hid hk; have HS4 := Lib.hid hS4
      have hsp := (rndN_spec HOK.out)
      have HST := Lib.hid (show (aftN m (pre.length + 1) = aftN m pre.length) ↔ gk = 0 by
        rw [still_eq]
        constructor
        · intro h
          by_cases e : pre.length < rndN m
          · exact absurd h (hsp.2.1 _ e)
          · omega
        · intro h
          have e : pre.length = rndN m := by omega
          rw [e]; exact hsp.1)
      clear hR hO hj hS4 hk hsp
      obtain ⟨au, nu, cu, rfl⟩ : ∃ a n c, u3 = .slice a n c := by obtain ⟨a, c, e, _⟩ := HO4.out.len; exact ⟨a, _, c, e⟩
      by_cases hg : gk = 0
      case pos =>
        have t0 : (aftN m (pre.length + 1) == aftN m pre.length) = true := by rw [beq_iff_eq]; exact HST.out.2 hg
        have HT0 := Lib.hid t0; have HG := Lib.hid hg
        clear hg t0
        gi_wp2
        refine HR.out.mono ?_
        rintro e W3 (⟨rfl, hJ3, hk3⟩ | ⟨rfl, hJx3⟩)
        · have HM3 := Lib.hid (HS4.out.kp hk3); have HO5 := Lib.hid (hk3.oi HO4.out); have HJ3' := Lib.hid hJ3
          clear hJ3 hk3
          gi_wp2_with (first | (refine wpListIn_load_dfa rfl (.tmp 1) rfl rfl HM3.out.bx ?_) | (refine ⟨trivial, ?_⟩; gi_at_call 39; refine (callsIn_wide.2 (round_any HM3.out.bx.is HOK.out (alk_eqv m pre.length) HO5.out.is)).mono ?_; rintro e w4 ⟨v4, rfl, ho4, hb4⟩; rw [rndE_alk] at ho4; have HO6 := Lib.hid (show OI w4 p v4 (aftN m (pre.length + 1)) from owns_base ho4 (Nat.le_of_lt HM3.out.lt)); have HO7 := Lib.hid (HO5.out.below hb4); have HM4 := Lib.hid (HM3.out.below hb4); have HJ4 := Lib.hid (abide_below HJ.out HJ3'.out hb4); clear ho4 hb4) | (refine ⟨trivial, ?_⟩; gi_at_call 28; refine (callsIn_wide.2 (EqualI_any HO6.out.is HO7.out.is)).mono ?_; rintro e w5 ⟨rfl, hb5⟩; rw [HT0.out]; have HO8 := Lib.hid (HO6.out.below hb5); have HM5 := Lib.hid (HM4.out.below hb5); have HJ5 := Lib.hid (abide_below HJ.out HJ4.out hb5); clear hb5))
          refine bodyPost_ret (results_none rfl _ _ _) rfl ?_
          exact ⟨⟨_, rfl⟩, .inl ⟨_, by rw [List.length_append, HT.out]; have := HK.out; have := HG.out; simp; omega, HJ5.out⟩⟩
        · gi_wp2
          go_end0
          exact ⟨⟨_, rfl⟩, .inr ⟨_, hJx3⟩⟩
      case neg =>
        have t0 : (aftN m (pre.length + 1) == aftN m pre.length) = false := by
          rw [beq_eq_false_iff_ne]; exact fun h => hg (HST.out.1 h)
        have HT0 := Lib.hid t0; have HG := Lib.hid hg
        clear hg t0
        gi_wp2
        refine HR.out.mono ?_
        rintro e W3 (⟨rfl, hJ3, hk3⟩ | ⟨rfl, hJx3⟩)
        · have HM3 := Lib.hid (HS4.out.kp hk3); have HO5 := Lib.hid (hk3.oi HO4.out); have HJ3' := Lib.hid hJ3
          clear hJ3 hk3
          gi_wp2_with (first | (refine wpListIn_load_dfa rfl (.tmp 1) rfl rfl HM3.out.bx ?_) | (refine ⟨trivial, ?_⟩; gi_at_call 39; refine (callsIn_wide.2 (round_any HM3.out.bx.is HOK.out (alk_eqv m pre.length) HO5.out.is)).mono ?_; rintro e w4 ⟨v4, rfl, ho4, hb4⟩; rw [rndE_alk] at ho4; have HO6 := Lib.hid (show OI w4 p v4 (aftN m (pre.length + 1)) from owns_base ho4 (Nat.le_of_lt HM3.out.lt)); have HO7 := Lib.hid (HO5.out.below hb4); have HM4 := Lib.hid (HM3.out.below hb4); have HJ4 := Lib.hid (abide_below HJ.out HJ3'.out hb4); clear ho4 hb4) | (refine ⟨trivial, ?_⟩; gi_at_call 28; refine (callsIn_wide.2 (EqualI_any HO6.out.is HO7.out.is)).mono ?_; rintro e w5 ⟨rfl, hb5⟩; rw [HT0.out]; have HO8 := Lib.hid (HO6.out.below hb5); have HM5 := Lib.hid (HM4.out.below hb5); have HJ5 := Lib.hid (abide_below HJ.out HJ4.out hb5); clear hb5))
          gi_roundg (gk - 1)
          case rel => exact ⟨pre ++ [_], by have := HK.out; have := HG.out; rw [List.length_append]; simp; omega, by rw [List.length_append]; exact HO8.out, HJ5.out, HM5.out⟩
          case measure => have := HG.out; omega
        · gi_wp2
          go_end0
          exact ⟨⟨_, rfl⟩, .inr ⟨_, hJx3⟩⟩
end Go.Proofs.Ytfhddbjojpmbcaa.DfaW
