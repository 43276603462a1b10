/- A region that draws its order, inside a fence: a head whose operations make memory and leave what lay as it lay, in one walk, and a tail in one order. -/
import Derived.Test.YtkghnjgioijgpaaRegionU
import Derived.StillTail
import Derived.OrdersIn
import Derived.CallsIn
import Derived.OwnWalkIn
set_option linter.unusedVariables false
namespace Go.Proofs.Ytkghnjgioijgpaa.RegionU
open Go Go.RowKit
section
variable {P : Program} {ops : Array Oper} {Q : Exit → Act → World → Prop} {md : Region.Mode} {n g : Nat} {E : Act → World → Prop} {F : Fence} {m : Nat}

def wpT (P : Program) (md : Region.Mode) (ops : Array Oper) (n g : Nat) (E : Act → World → Prop) : Nat → Array Bool → Act → (World → Prop) → Prop
  | 0, listed, a, C => ∀ W, C W → Region.seqB md ops g n listed = true ∧ E a W
  | fuel + 1, listed, a, C => (∃ W, C W) → Region.ready md ops listed ≠ [] ∧ ∀ i ∈ Region.ready md ops listed, i < n ∧ uOp P ops i (wpT P md ops n g E fuel (listed.setIfInBounds i true)) a C
theorem wpT_mono : ∀ (fuel : Nat) (listed : Array Bool) (a : Act) (C C' : World → Prop), (∀ W, C' W → C W) → wpT P md ops n g E fuel listed a C → wpT P md ops n g E fuel listed a C'
  | 0, _, _, _, _, hC, h => fun W hW => h W (hC W hW)
  | fuel + 1, _, _, _, _, hC, h => fun ⟨W, hW⟩ => ⟨(h ⟨W, hC W hW⟩).1, fun i hi => ⟨((h ⟨W, hC W hW⟩).2 i hi).1, uOp_mono hC (fun a D D' hD hk => wpT_mono fuel _ a D D' hD hk) ((h ⟨W, hC W hW⟩).2 i hi).2⟩⟩
theorem wpT_bot (fuel : Nat) (listed : Array Bool) (a : Act) (C : World → Prop) (h : ∀ W, ¬ C W) : wpT P md ops n g E fuel listed a C := by
  cases fuel with
  | zero => exact fun W hW => absurd hW (h W)
  | succ f => exact fun ⟨W, hW⟩ => absurd hW (h W)
theorem YieldsU.uOpT {i : Nat} {o : Oper} {v : Value} {a : Act} {C : World → Prop} {fuel : Nat} {listed : Array Bool} (hi : ops[i]? = some o) (hy : YieldsU P ops C o v a)
    (h : wpT P md ops n g E fuel listed (a.put o.dst v) C) : RegionU.uOp P ops i (wpT P md ops n g E fuel listed) a C := by
  unfold RegionU.uOp
  simp only [hi]
  rcases hy with ⟨hw, hv⟩ | ⟨hw, rfl⟩
  · simp only [hw, if_true]
    refine ⟨fun u _ => u = v, fun u => up_const _, hv, fun u => ?_⟩
    by_cases hu : u = v
    · subst hu; exact wpT_mono _ _ _ _ _ (fun W hW => hW.1) h
    · exact wpT_bot _ _ _ _ (fun W hW => hu hW.2)
  · simp only [hw, Bool.false_eq_true, if_false]; exact h

theorem wpT_first {i : Nat} {oi : Oper} {v : Value} (hi : ops[i]? = some oi) (hsel : ∀ (j : Nat) (o : Oper) cs b, ops[j]? = some o → o.op ≠ .select cs b)
    (hs : Region.sinkB md ops n = true) (hc : Region.chainB md ops n = true) (hn : n < ops.size) (hin : i < n) :
    ∀ (fuel : Nat) (listed : Array Bool) (a : Act) (C : World → Prop), HeadInv md ops n listed →
      (∀ j oj, ops[j]? = some oj → j ≠ i → listed.getD j true = false → (∀ e ∈ oj.after, Region.binds md e = true → e.on ≠ i) → oi.apart ops oj = true) →
      i ∈ Region.ready md ops listed → YieldsU P ops C oi v a → Up C →
      wpT P md ops n g E fuel (listed.setIfInBounds i true) (a.put oi.dst v) C → wpT P md ops n g E (fuel + 1) listed a C := by
  intro fuel
  induction fuel with
  | zero =>
    intro listed a C inv _ hr hy hU H
    have hun := (mem_ready.1 hr).1
    rintro ⟨W, hW⟩
    refine ⟨fun h => (by rw [h] at hr; cases hr), fun j hj => ?_⟩
    have hjn : j < n := by
      rcases Nat.lt_or_ge j n with h | h
      · exact h
      · exact absurd hj (tail_waits hs hc hn inv _ i rfl hin hun j h)
    refine ⟨hjn, ?_⟩
    by_cases hji : j = i
    · subst hji; exact hy.uOpT hi H
    · have := seqB_ready (H W hW).1 j (ready_mono hj hji)
      omega
  | succ fuel ih =>
    intro listed a C inv hfree hr hy hU H
    have hun := (mem_ready.1 hr).1
    rintro ⟨W, hW⟩
    refine ⟨fun h => (by rw [h] at hr; cases hr), fun j hj => ?_⟩
    have hjn : j < n := by
      rcases Nat.lt_or_ge j n with h | h
      · exact h
      · exact absurd hj (tail_waits hs hc hn inv _ i rfl hin hun j h)
    refine ⟨hjn, ?_⟩
    by_cases hji : j = i
    · subst hji; exact hy.uOpT hi H
    · have h1 := ((H ⟨W, hW⟩).2 j (ready_mono hj hji)).2
      obtain ⟨hjun, oj, hoj, hall⟩ := mem_ready.1 hj
      have hnot : ∀ e ∈ oj.after, Region.binds md e = true → e.on ≠ i := fun e he hb heq => by
        have h1 := hall e he hb
        rw [heq, getD_both hun] at h1
        cases h1
      have h2 := uOp_put hoj (hfree j oj hoj hji hjun hnot) (fun cs b => hsel i oi cs b hi) (fun cs b => hsel j oj cs b hoj) hy hU h1
      have hfree' : ∀ k ok, ops[k]? = some ok → k ≠ i → (listed.setIfInBounds j true).getD k true = false →
          (∀ e ∈ ok.after, Region.binds md e = true → e.on ≠ i) → oi.apart ops ok = true := fun k ok hk hki hun hno => by
        refine hfree k ok hk hki ?_ hno
        by_cases hjk : j = k
        · subst hjk; exact hjun
        · rw [getD_set_ne true hjk] at hun; exact hun
      refine uOp_mono (fun W hW => hW) (fun a' D D' hD h3 => ?_) h2
      refine wpT_mono _ _ _ _ _ hD (ih (listed.setIfInBounds j true) a' D (inv.set hj hjn) hfree' (ready_mono hr (Ne.symm hji)) h3.1 h3.2.1 ?_)
      rw [Array.setIfInBounds_comm _ _ hji]
      exact h3.2.2

/-! ### The moves -/
def headB (md : Region.Mode) (ops : Array Oper) (n : Nat) (listed : Array Bool) : Bool :=
  listed.size == ops.size && (List.range ops.size).all (fun j => !(listed.getD j false) || (match ops[j]? with | some oj => oj.after.toList.all fun e => !(Region.binds md e) || listed.getD e.on false | none => true)) &&
    (List.range ops.size).all fun t => decide (t < n) || !(listed.getD t true)
theorem headB_spec {listed : Array Bool} (h : headB md ops n listed = true) : HeadInv md ops n listed := by
  simp only [headB, Bool.and_eq_true, beq_iff_eq, List.all_eq_true, List.mem_range, Bool.or_eq_true, Bool.not_eq_true', decide_eq_true_eq] at h
  obtain ⟨⟨h1, h2⟩, h3⟩ := h
  refine ⟨h1, fun j oj hj hl e he hb => ?_, fun t ht ht' => ?_⟩
  · have hjs := (Array.getElem?_eq_some_iff.1 hj).1
    rcases h2 j hjs with h4 | h4
    · rw [hl] at h4; cases h4
    · simp only [hj] at h4
      rw [List.all_eq_true] at h4
      have := h4 e (by simpa using he)
      rw [hb] at this
      simpa using this
  · rcases h3 t ht' with h4 | h4
    · omega
    · exact h4
def setB (md : Region.Mode) (ops : Array Oper) (n : Nat) : Bool := Region.noSelect ops && decide (n < ops.size) && Region.sinkB md ops n && Region.chainB md ops n
theorem wpT_taken {i : Nat} {oi : Oper} {rest : List Oper} {fuel : Nat} {listed : Array Bool} {a : Act} {C : World → Prop} (hi : ops.toList.drop i = oi :: rest)
    (hs : setB md ops n = true) (hin : decide (i < n) = true) (hh : headB md ops n listed = true) (hf : Region.free md ops listed i = true) (hr : (Region.ready md ops listed).contains i = true) (hU : Up C)
    (h : ∃ v, YieldsU P ops C oi v a ∧ wpT P md ops n g E fuel (listed.setIfInBounds i true) (a.put oi.dst v) C) : wpT P md ops n g E (fuel + 1) listed a C := by
  obtain ⟨v, h1, h2⟩ := h
  simp only [setB, Bool.and_eq_true, decide_eq_true_eq] at hs
  exact wpT_first (at_drop hi) (Region.noSelect_spec hs.1.1.1) hs.1.2 hs.2 hs.1.1.2 (by simpa using hin) fuel listed a C (headB_spec hh) (Region.free_spec (at_drop hi) hf) (by simpa using hr) h1 hU h2
theorem wpT_one {i : Nat} {o : Oper} {rest : List Oper} {fuel : Nat} {listed : Array Bool} {a : Act} {C : World → Prop} (hr : Region.ready md ops listed = [i]) (hin : decide (i < n) = true) (hi : ops.toList.drop i = o :: rest) (hw : Region.wanted o (yielded ops a.tmps) = true)
    (T : Value → World → Prop) (hT : ∀ u, Up (T u)) (hd : doesIn P o a C T) (h : ∀ u, wpT P md ops n g E fuel (listed.setIfInBounds i true) (a.put o.dst u) (fun W => C W ∧ T u W)) : wpT P md ops n g E (fuel + 1) listed a C :=
  fun _ => ⟨(fun h0 => by rw [h0] at hr; cases hr), fun j hj => by
    rw [hr] at hj
    rw [List.mem_singleton] at hj
    subst hj
    refine ⟨by simpa using hin, ?_⟩
    unfold uOp
    simp only [at_drop hi, hw, if_true]
    exact ⟨T, hT, hd, h⟩⟩
theorem wpT_done {listed : Array Bool} {a : Act} {C : World → Prop} (hq : Region.seqB md ops g n listed = true) (h : ∀ W, C W → E a W) : wpT P md ops n g E 0 listed a C :=
  fun W hW => ⟨hq, h W hW⟩

/-! ### It serves every order -/
def noDefer (ops : Array Oper) : Bool := ops.toList.all fun o => match o.op with | .defer _ => false | _ => true
theorem noDefer_spec (h : noDefer ops = true) {i : Nat} {o : Oper} (hi : ops[i]? = some o) : ∀ c, o.op ≠ .defer c := fun c hc => by
  simp only [noDefer, List.all_eq_true] at h
  have := h o (by
    rw [Array.getElem?_eq_some_iff] at hi
    obtain ⟨h1, h2⟩ := hi
    rw [← h2]; simp)
  rw [hc] at this; cases this
theorem wpAnyIn_of_seq (hF : ∀ f, F.fn f) : ∀ (l : List Oper) (k : Nat) (listed : Array Bool) (a : Act) (w : World), (∀ j, l[j]? = ops[k + j]?) →
    Region.seqB md ops l.length k listed = true → wpListIn F m P ops Q l a w → wpAnyIn F m P md ops Q l.length listed a w
  | [], _, _, _, _, _, hB, h => ⟨by simpa [Region.seqB] using hB, h⟩
  | o :: l, k, listed, a, w, hl, hB, h => by
    have h0 : ops[k]? = some o := by simpa using (hl 0).symm
    simp only [List.length_cons, Region.seqB, Bool.and_eq_true, decide_eq_true_eq] at hB
    refine ⟨fun h1 => (by rw [hB.1] at h1; cases h1), fun i hi => ?_⟩
    rw [hB.1] at hi
    have hik : i = k := by simpa using hi
    subst hik
    have hw : wpOpIn F m P ops Q i (wpListIn F m P ops Q l) a w := by unfold wpOpIn; simp only [h0]; exact h
    exact wpOpIn_mono (fun a' w' h' => wpAnyIn_of_seq hF l (i + 1) _ a' w' (fun j => by have := hl (j + 1); simpa [Nat.add_assoc, Nat.add_comm 1 j] using this) hB.2 h') hw
theorem wpAnyIn_of_T (hF : ∀ f, F.fn f) (hd : F.depth = none) (hc : ∀ {f : FuncId} {args : Array Value} {W : World} {R : Ending → World → Prop}, Calls P f args W R → CallsIn F (m - 1) P f args W R) (hnd : noDefer ops = true)
    (hE : ∀ listed a W, Region.seqB md ops g n listed = true → E a W → wpAnyIn F m P md ops Q g listed a W) :
    ∀ (fuel : Nat) (listed : Array Bool) (a : Act) (C : World → Prop) (W : World), Up C → C W → wpT P md ops n g E fuel listed a C → wpAnyIn F m P md ops Q (fuel + g) listed a W
  | 0, listed, a, C, W, _, hW, h => by rw [Nat.zero_add]; exact hE _ _ _ (h W hW).1 (h W hW).2
  | fuel + 1, listed, a, C, W, hU, hW, h => by
    rw [show fuel + 1 + g = (fuel + g) + 1 by omega]
    refine ⟨fun h0 => absurd h0 (h ⟨W, hW⟩).1, fun i hi => ?_⟩
    have h1 := ((h ⟨W, hW⟩).2 i hi).2
    unfold uOp at h1
    unfold wpOpIn
    split
    · rename_i ho; simp only [ho] at h1; exact wpAnyIn_of_T hF hd hc hnd hE fuel _ _ C W hU hW h1
    · rename_i o ho
      simp only [ho] at h1
      split
      · rename_i hw
        simp only [hw, if_true] at h1
        obtain ⟨T, hT, hdd, hk⟩ := h1
        have hd1 := hdd W hW
        unfold Oper.wpIn
        refine ⟨fun f _ => hF f, ?_⟩
        rw [Oper.semAt_plain F a.eval o (noDefer_spec hnd ho)]
        generalize (execOp a.eval o).run P W = r at *
        have go : ∀ u W', T u W' → R W W' → wpAnyIn F m P md ops Q (fuel + g) (listed.setIfInBounds i true) (a.put o.dst u) W' := fun u W' ht hr =>
          wpAnyIn_of_T hF hd hc hnd hE fuel _ _ _ W' (hU.and (hT u)) ⟨hU W W' hW hr, ht⟩ (hk u)
        cases r with
        | ok x W' =>
          cases x <;> simp only [does] at hd1 <;> simp only [Oper.uponIn]
          case value u => exact go u W' hd1.1 hd1.2
          case skip => exact go undef W' hd1.1 hd1.2
          case enter f args =>
            obtain ⟨e1, hcall⟩ := hd1
            rw [e1]
            refine ⟨fun h => (by rw [hd] at h; cases h), (hc hcall).mono fun e W'' ⟨u, he, ht, hr⟩ => ?_⟩
            subst he; exact go u W'' ht hr
        | halt x W' => simp only [does] at hd1
      · rename_i hw; simp only [hw] at h1; exact ⟨fun f _ => hF f, wpAnyIn_of_T hF hd hc hnd hE fuel _ _ C W hU hW h1⟩
theorem wpIn_region_T {id : Nat} {a : Act} {w : World} {l : List Oper} {C : World → Prop} (k : Nat) (hF : ∀ f, F.fn f) (hd : F.depth = none) (hc : ∀ {f : FuncId} {args : Array Value} {W : World} {R : Ending → World → Prop}, Calls P f args W R → CallsIn F (m - 1) P f args W R)
    (hm : P.follows .mixedOrders = true) (hnd : noDefer l.toArray = true) (hk : decide (k ≤ l.length) = true) (hU : Up C) (hC : C w.drew)
    (h : wpT P .any l.toArray k (l.length - k) (fun a' W => wpListIn F m P l.toArray Q (l.drop k) a' W) k (Array.replicate l.toArray.size false) a C) : (Code.region id l.toArray true).wpIn F m P Q a w := by
  refine wpIn_region_any hm ?_
  have hk' : k ≤ l.length := by simpa using hk
  have := wpAnyIn_of_T (Q := Q) hF hd hc hnd (fun listed a' W hB hE => by
    have hl : (l.drop k).length = l.length - k := by simp
    have := wpAnyIn_of_seq (md := .any) (Q := Q) hF (l.drop k) k listed a' W (fun j => by simp [List.getElem?_drop]) (by rw [hl]; exact hB) hE
    rwa [hl] at this) k _ a C w.drew hU hC h
  rw [show k + (l.length - k) = l.toArray.size by simp; omega] at this
  exact this
end
end Go.Proofs.Ytkghnjgioijgpaa.RegionU
