/- The document's Keep and Trim (with a law for regions whose store need not wait for a plain operation), and the walk of DfaKeeps. -/
import Derived.Test.YtkghnjgioijgpaaRegionT2
import Derived.Test.YtkghnjgioijgpaaKeep
import Derived.Test.YtkghnjgioijgpaaTrim
import Derived.Test.YtkghnjgioijgpaaSameF
set_option linter.unusedVariables false
namespace Go.Proofs.Ytkghnjgioijgpaa.RegionU
open Go Go.RowKit
section
variable {P : Program} {ops : Array Oper} {Q : Exit → Act → World → Prop} {md : Region.Mode} {n g : Nat}

def wpS (P : Program) (md : Region.Mode) (ops : Array Oper) (Q : Exit → Act → World → Prop) (n g : Nat) : Nat → Array Bool → Act → (World → Prop) → Prop
  | 0, listed, a, C => ∀ W, C W → (∀ j ∈ Region.ready md ops listed, n ≤ j) ∧ wpAny P md ops Q g listed a W
  | fuel + 1, listed, a, C => (∃ W, C W) → Region.ready md ops listed ≠ [] ∧ ∀ i ∈ Region.ready md ops listed,
      (i < n ∧ uOp P ops i (wpS P md ops Q n g fuel (listed.setIfInBounds i true)) a C) ∨ (n ≤ i ∧ ∀ W, C W → wpOp P ops Q i (wpAny P md ops Q (fuel + g) (listed.setIfInBounds i true)) a W)
theorem wpS_mono : ∀ (fuel : Nat) (listed : Array Bool) (a : Act) (C C' : World → Prop), (∀ W, C' W → C W) → wpS P md ops Q n g fuel listed a C → wpS P md ops Q n g fuel listed a C'
  | 0, _, _, _, _, hC, h => fun W hW => h W (hC W hW)
  | fuel + 1, _, _, _, _, hC, h => fun ⟨W, hW⟩ => ⟨(h ⟨W, hC W hW⟩).1, fun i hi => ((h ⟨W, hC W hW⟩).2 i hi).imp (fun h1 => ⟨h1.1, uOp_mono hC (fun a D D' hD hk => wpS_mono fuel _ a D D' hD hk) h1.2⟩) fun h1 => ⟨h1.1, fun W hW => h1.2 W (hC W hW)⟩⟩
theorem wpS_bot (fuel : Nat) (listed : Array Bool) (a : Act) (C : World → Prop) (h : ∀ W, ¬ C W) : wpS P md ops Q n g fuel listed a C := by
  cases fuel with
  | zero => exact fun W hW => absurd hW (h W)
  | succ f => exact fun ⟨W, hW⟩ => absurd hW (h W)
/-- What is known of whatever world there is. -/
theorem wpS_have {p : Prop} {fuel : Nat} {listed : Array Bool} {a : Act} {C : World → Prop} (h : ∀ W, C W → p) (hp : p → wpS P md ops Q n g fuel listed a C) : wpS P md ops Q n g fuel listed a C := by
  by_cases hC : ∃ W, C W
  · obtain ⟨W, hW⟩ := hC; exact hp (h W hW)
  · exact wpS_bot _ _ _ _ fun W hW => hC ⟨W, hW⟩
theorem YieldsU.uOpS {i : Nat} {o : Oper} {v : Value} {a : Act} {C : World → Prop} {fuel : Nat} {listed : Array Bool} (hi : ops[i]? = some o) (hy : YieldsU P ops C o v a)
    (h : wpS P md ops Q n g fuel listed (a.put o.dst v) C) : RegionU.uOp P ops i (wpS P md ops Q n g fuel listed) a C := by
  unfold RegionU.uOp
  simp only [hi]
  rcases hy with ⟨hw, hv⟩ | ⟨hw, rfl⟩
  · simp only [hw, if_true]
    refine ⟨fun u _ => u = v, fun u => up_const _, hv, fun u => ?_⟩
    by_cases hu : u = v
    · subst hu; exact wpS_mono _ _ _ _ _ (fun W hW => hW.1) h
    · exact wpS_bot _ _ _ _ (fun W hW => hu hW.2)
  · simp only [hw, Bool.false_eq_true, if_false]; exact h
theorem yields_u {o : Oper} {v : Value} {a : Act} {C : World → Prop} (h : Yields P ops o v a) : YieldsU P ops C o v a := by
  rcases h with ⟨h1, h2⟩ | h
  · exact .inl ⟨h1, fun W _ => by rw [h2 W]; exact does_value rfl⟩
  · exact .inr h
theorem uOp_putY {j : Nat} {oi oj : Oper} {v : Value} (hj : ops[j]? = some oj) (hap : oi.apart ops oj = true)
    (hsi : ∀ cs b, oi.op ≠ .select cs b) (hsj : ∀ cs b, oj.op ≠ .select cs b) {K : Act → (World → Prop) → Prop} {a : Act} {C : World → Prop}
    (hy : Yields P ops oi v a) (hU : Up C) (h : uOp P ops j K (a.put oi.dst v) C) :
    uOp P ops j (fun a' C' => Yields P ops oi v a' ∧ Up C' ∧ K (a'.put oi.dst v) C') a C := by
  obtain ⟨h1, h2, h3⟩ := Oper.apart_spec hap
  have keep : ∀ u : Value, Yields P ops oi v (a.put oj.dst u) := fun u => hy.of_same (execOp_put oi hsi a oj.dst u h3) (wanted_put oi a oj.dst u h3)
  unfold uOp at *
  simp only [hj] at *
  rw [wanted_put oj a oi.dst v h1] at h
  split
  · rename_i hw
    simp only [hw, if_true] at h
    obtain ⟨T, hT, hd, hk⟩ := h
    refine ⟨T, hT, ?_, fun u => ⟨keep u, hU.and (hT u), by rw [← Act.put_comm a v u h2]; exact hk u⟩⟩
    unfold doesIn at *
    rw [execOp_put oj hsj a oi.dst v h1] at hd
    exact hd
  · rename_i hw
    simp only [hw] at h
    exact ⟨keep undef, hU, by rw [← Act.put_comm a v undef h2]; exact h⟩
/-- Each operation of the tail waits for number i. -/
def tailAfter (md : Region.Mode) (ops : Array Oper) (n i : Nat) : Bool := (List.range ops.size).all fun j => decide (j < n) || (match ops[j]? with | some oj => oj.after.any (fun e => Region.binds md e && e.on == i) | none => true)
theorem tailAfter_spec {i j : Nat} {listed : Array Bool} (h : tailAfter md ops n i = true) (hi : i ∈ Region.ready md ops listed) (hj : j ∈ Region.ready md ops listed) : j < n := by
  obtain ⟨_, oj, hoj, hall⟩ := mem_ready.1 hj
  unfold tailAfter at h
  rw [List.all_eq_true] at h
  have h1 := h j (List.mem_range.2 (Array.getElem?_eq_some_iff.1 hoj).1)
  simp only [hoj, Bool.or_eq_true, decide_eq_true_eq] at h1
  rcases h1 with h1 | h1
  · exact h1
  · obtain ⟨e, he, hb⟩ := Array.any_eq_true'.1 h1
    simp only [Bool.and_eq_true, beq_iff_eq] at hb
    have h2 := hall e he hb.1
    have h0 := (mem_ready.1 hi).1
    rw [hb.2, getD_both h0] at h2
    cases h2
theorem wpS_first {i : Nat} {oi : Oper} {v : Value} (hi : ops[i]? = some oi) (hsel : ∀ (j : Nat) (o : Oper) cs b, ops[j]? = some o → o.op ≠ .select cs b) (ht : tailAfter md ops n i = true) :
    ∀ (fuel : Nat) (listed : Array Bool) (a : Act) (C : World → Prop),
      (∀ j oj, ops[j]? = some oj → j ≠ i → listed.getD j true = false → (∀ e ∈ oj.after, Region.binds md e = true → e.on ≠ i) → oi.apart ops oj = true) →
      i ∈ Region.ready md ops listed → YieldsU P ops C oi v a → Up C →
      wpS P md ops Q n g fuel (listed.setIfInBounds i true) (a.put oi.dst v) C → wpS P md ops Q n g (fuel + 1) listed a C := by
  intro fuel
  induction fuel with
  | zero =>
    intro listed a C _ hr hy hU H
    rintro ⟨W, hW⟩
    refine ⟨fun h => (by rw [h] at hr; cases hr), fun j hj => .inl ?_⟩
    have hjn := tailAfter_spec ht hr hj
    refine ⟨hjn, ?_⟩
    by_cases hji : j = i
    · subst hji; exact hy.uOpS hi H
    · have := (H W hW).1 j (ready_mono hj hji)
      omega
  | succ fuel ih =>
    intro listed a C hfree hr hy hU H
    rintro ⟨W, hW⟩
    refine ⟨fun h => (by rw [h] at hr; cases hr), fun j hj => .inl ?_⟩
    have hjn := tailAfter_spec ht hr hj
    refine ⟨hjn, ?_⟩
    by_cases hji : j = i
    · subst hji; exact hy.uOpS hi H
    · rcases (H ⟨W, hW⟩).2 j (ready_mono hj hji) with h1 | h1
      rotate_left
      · omega
      have h1 := h1.2
      obtain ⟨hjun, oj, hoj, hall⟩ := mem_ready.1 hj
      have hnot : ∀ e ∈ oj.after, Region.binds md e = true → e.on ≠ i := fun e he hb heq => by
        have h1 := hall e he hb
        rw [heq, getD_both (mem_ready.1 hr).1] at h1
        cases h1
      have h2 := uOp_put hoj (hfree j oj hoj hji hjun hnot) (fun cs b => hsel i oi cs b hi) (fun cs b => hsel j oj cs b hoj) hy hU h1
      have hfree' : ∀ k ok, ops[k]? = some ok → k ≠ i → (listed.setIfInBounds j true).getD k true = false →
          (∀ e ∈ ok.after, Region.binds md e = true → e.on ≠ i) → oi.apart ops ok = true := fun k ok hk hki hun hno => by
        refine hfree k ok hk hki ?_ hno
        by_cases hjk : j = k
        · subst hjk; exact hjun
        · rw [getD_set_ne true hjk] at hun; exact hun
      refine uOp_mono (fun W hW => hW) (fun a' D D' hD h3 => ?_) h2
      refine wpS_mono _ _ _ _ _ hD (ih (listed.setIfInBounds j true) a' D hfree' (ready_mono hr (Ne.symm hji)) h3.1 h3.2.1 ?_)
      rw [Array.setIfInBounds_comm _ _ hji]
      exact h3.2.2
/-- A plain operation of the head, which the tail need not wait for. -/
theorem wpS_firstY {i : Nat} {oi : Oper} {v : Value} (hi : ops[i]? = some oi) (hsel : ∀ (j : Nat) (o : Oper) cs b, ops[j]? = some o → o.op ≠ .select cs b) (hin : i < n)
    (hQ : ∀ c a w, Q (.panic c) (a.put oi.dst v) w → Q (.panic c) a w) :
    ∀ (fuel : Nat) (listed : Array Bool) (a : Act) (C : World → Prop),
      (∀ j oj, ops[j]? = some oj → j ≠ i → listed.getD j true = false → (∀ e ∈ oj.after, Region.binds md e = true → e.on ≠ i) → oi.apart ops oj = true) →
      i ∈ Region.ready md ops listed → Yields P ops oi v a → Up C →
      wpS P md ops Q n g fuel (listed.setIfInBounds i true) (a.put oi.dst v) C → wpS P md ops Q n g (fuel + 1) listed a C := by
  intro fuel
  induction fuel with
  | zero =>
    intro listed a C hfree hr hy hU H
    rintro ⟨W, hW⟩
    refine ⟨fun h => (by rw [h] at hr; cases hr), fun j hj => ?_⟩
    by_cases hji : j = i
    · subst hji; exact .inl ⟨hin, (yields_u hy).uOpS hi H⟩
    · refine .inr ⟨(H W hW).1 j (ready_mono hj hji), fun W hW => ?_⟩
      rw [Nat.zero_add]
      exact (wpAny_first hi hsel hQ g listed a W hfree hr hy (H W hW).2).2 j hj
  | succ fuel ih =>
    intro listed a C hfree hr hy hU H
    rintro ⟨W, hW⟩
    refine ⟨fun h => (by rw [h] at hr; cases hr), fun j hj => ?_⟩
    by_cases hji : j = i
    · subst hji; exact .inl ⟨hin, (yields_u hy).uOpS hi H⟩
    · obtain ⟨hjun, oj, hoj, hall⟩ := mem_ready.1 hj
      have hnot : ∀ e ∈ oj.after, Region.binds md e = true → e.on ≠ i := fun e he hb heq => by
        have h1 := hall e he hb
        rw [heq, getD_both (mem_ready.1 hr).1] at h1
        cases h1
      have hfree' : ∀ k ok, ops[k]? = some ok → k ≠ i → (listed.setIfInBounds j true).getD k true = false →
          (∀ e ∈ ok.after, Region.binds md e = true → e.on ≠ i) → oi.apart ops ok = true := fun k ok hk hki hun hno => by
        refine hfree k ok hk hki ?_ hno
        by_cases hjk : j = k
        · subst hjk; exact hjun
        · rw [getD_set_ne true hjk] at hun; exact hun
      rcases (H ⟨W, hW⟩).2 j (ready_mono hj hji) with h1 | h1
      · refine .inl ⟨h1.1, ?_⟩
        have h2 := uOp_putY hoj (hfree j oj hoj hji hjun hnot) (fun cs b => hsel i oi cs b hi) (fun cs b => hsel j oj cs b hoj) hy hU h1.2
        refine uOp_mono (fun W hW => hW) (fun a' D D' hD h3 => ?_) h2
        refine wpS_mono _ _ _ _ _ hD (ih (listed.setIfInBounds j true) a' D hfree' (ready_mono hr (Ne.symm hji)) h3.1 h3.2.1 ?_)
        rw [Array.setIfInBounds_comm _ _ hji]
        exact h3.2.2
      · refine .inr ⟨h1.1, fun W hW => ?_⟩
        have h2 := wpOp_put hoj (hfree j oj hoj hji hjun hnot) (fun cs b => hsel i oi cs b hi) (fun cs b => hsel j oj cs b hoj) hQ hy (h1.2 W hW)
        refine wpOp_mono (fun a' w' h3 => ?_) h2
        rw [show fuel + 1 + g = (fuel + g) + 1 by omega]
        refine wpAny_first hi hsel hQ (fuel + g) (listed.setIfInBounds j true) a' w' hfree' (ready_mono hr (Ne.symm hji)) h3.1 ?_
        rw [Array.setIfInBounds_comm _ _ hji]
        exact h3.2

/-! ### The moves -/
theorem wpS_taken {i : Nat} {oi : Oper} {rest : List Oper} {fuel : Nat} {listed : Array Bool} {a : Act} {C : World → Prop} (hi : ops.toList.drop i = oi :: rest)
    (hs : Region.noSelect ops = true) (ht : tailAfter md ops n i = true) (hf : Region.free md ops listed i = true) (hr : (Region.ready md ops listed).contains i = true) (hU : Up C)
    (h : ∃ v, YieldsU P ops C oi v a ∧ wpS P md ops Q n g fuel (listed.setIfInBounds i true) (a.put oi.dst v) C) : wpS P md ops Q n g (fuel + 1) listed a C := by
  obtain ⟨v, h1, h2⟩ := h
  exact wpS_first (at_drop hi) (Region.noSelect_spec hs) ht fuel listed a C (Region.free_spec (at_drop hi) hf) (by simpa using hr) h1 hU h2
theorem wpS_takenY {i : Nat} {oi : Oper} {rest : List Oper} {fuel : Nat} {listed : Array Bool} {a : Act} {C : World → Prop} (hi : ops.toList.drop i = oi :: rest)
    (hs : Region.noSelect ops = true) (hin : decide (i < n) = true) (hf : Region.free md ops listed i = true) (hr : (Region.ready md ops listed).contains i = true) (hU : Up C)
    (h : ∃ v, (∀ c a w, Q (.panic c) (a.put oi.dst v) w → Q (.panic c) a w) ∧ Yields P ops oi v a ∧ wpS P md ops Q n g fuel (listed.setIfInBounds i true) (a.put oi.dst v) C) : wpS P md ops Q n g (fuel + 1) listed a C := by
  obtain ⟨v, hQ, h1, h2⟩ := h
  exact wpS_firstY (at_drop hi) (Region.noSelect_spec hs) (by simpa using hin) hQ fuel listed a C (Region.free_spec (at_drop hi) hf) (by simpa using hr) h1 hU h2
theorem wpS_one {i : Nat} {o : Oper} {rest : List Oper} {fuel : Nat} {listed : Array Bool} {a : Act} {C : World → Prop} (hr : Region.ready md ops listed = [i]) (hin : decide (i < n) = true) (hi : ops.toList.drop i = o :: rest) (hw : Region.wanted o (yielded ops a.tmps) = true)
    (T : Value → World → Prop) (hT : ∀ u, Up (T u)) (hd : doesIn P o a C T) (h : ∀ u, wpS P md ops Q n g fuel (listed.setIfInBounds i true) (a.put o.dst u) (fun W => C W ∧ T u W)) : wpS P md ops Q n g (fuel + 1) listed a C :=
  fun _ => ⟨(fun h0 => by rw [h0] at hr; cases hr), fun j hj => .inl (by
    rw [hr] at hj
    rw [List.mem_singleton] at hj
    subst hj
    refine ⟨by simpa using hin, ?_⟩
    unfold uOp
    simp only [at_drop hi, hw, if_true]
    exact ⟨T, hT, hd, h⟩)⟩
theorem wpS_two {i j : Nat} {o o' : Oper} {rest rest' : List Oper} {fuel : Nat} {listed : Array Bool} {a : Act} {C : World → Prop} (hr : Region.ready md ops listed = [i, j]) (hin : decide (i < n) = true) (hjn : decide (j < n) = true) (hi : ops.toList.drop i = o :: rest) (hj : ops.toList.drop j = o' :: rest')
    (hw : Region.wanted o (yielded ops a.tmps) = true) (hw' : Region.wanted o' (yielded ops a.tmps) = true)
    (T T' : Value → World → Prop) (hT : ∀ u, Up (T u)) (hT' : ∀ u, Up (T' u)) (hd : doesIn P o a C T) (hd' : doesIn P o' a C T')
    (h : ∀ u, wpS P md ops Q n g fuel (listed.setIfInBounds i true) (a.put o.dst u) (fun W => C W ∧ T u W)) (h' : ∀ u, wpS P md ops Q n g fuel (listed.setIfInBounds j true) (a.put o'.dst u) (fun W => C W ∧ T' u W)) : wpS P md ops Q n g (fuel + 1) listed a C :=
  fun _ => ⟨(fun h0 => by rw [h0] at hr; cases hr), fun k hk => .inl (by
    rw [hr] at hk
    rcases List.mem_cons.1 hk with rfl | hk
    · refine ⟨by simpa using hin, ?_⟩
      unfold uOp
      simp only [at_drop hi, hw, if_true]
      exact ⟨T, hT, hd, h⟩
    · rw [List.mem_singleton] at hk
      subst hk
      refine ⟨by simpa using hjn, ?_⟩
      unfold uOp
      simp only [at_drop hj, hw', if_true]
      exact ⟨T', hT', hd', h'⟩)⟩
/-- Behind the head, in one order. -/
theorem wpS_done {l : List Oper} {g : Nat} {listed : Array Bool} {a : Act} {C : World → Prop} (hgl : (l.drop n).length = g) (hj : (Region.ready md l.toArray listed).all (fun j => decide (n ≤ j)) = true) (hq : Region.seqB md l.toArray g n listed = true) (h : ∀ W, C W → wpList P l.toArray Q (l.drop n) a W) :
    wpS P md l.toArray Q n g 0 listed a C := fun W hW => ⟨fun j h1 => by
      rw [List.all_eq_true] at hj
      simpa using hj j h1, by
    subst hgl
    exact wpAny_of_seq (l.drop n) n listed a W (fun j => by simp [List.getElem?_drop]) hq (h W hW)⟩
theorem wpAny_of_S : ∀ (fuel : Nat) (listed : Array Bool) (a : Act) (C : World → Prop) (W : World), Up C → C W → wpS P md ops Q n g fuel listed a C → wpAny P md ops Q (fuel + g) listed a W
  | 0, listed, a, C, W, _, hW, h => by rw [Nat.zero_add]; exact (h W hW).2
  | fuel + 1, listed, a, C, W, hU, hW, h => by
    rw [show fuel + 1 + g = (fuel + g) + 1 by omega]
    refine ⟨fun h0 => absurd h0 (h ⟨W, hW⟩).1, fun i hi => ?_⟩
    rcases (h ⟨W, hW⟩).2 i hi with h1 | h1
    rotate_left
    · exact h1.2 W hW
    have h1 := h1.2
    unfold uOp at h1
    unfold wpOp
    split
    · rename_i ho; simp only [ho] at h1; exact wpAny_of_S fuel _ _ C W hU hW h1
    · rename_i o ho
      simp only [ho] at h1
      split
      · rename_i hw
        simp only [hw, if_true] at h1
        obtain ⟨T, hT, hdd, hk⟩ := h1
        refine .inl ?_
        have hd1 := hdd W hW
        unfold Oper.wp
        generalize (execOp a.eval o).run P W = r at *
        have go : ∀ u W', T u W' → R W W' → wpAny P md ops Q (fuel + g) (listed.setIfInBounds i true) (a.put o.dst u) W' := fun u W' ht hr =>
          wpAny_of_S fuel _ _ _ W' (hU.and (hT u)) ⟨hU W W' hW hr, ht⟩ (hk u)
        cases r with
        | ok x W' =>
          cases x <;> simp only [does] at hd1 <;> simp only [Oper.upon]
          case value u => exact go u W' hd1.1 hd1.2
          case skip => exact go undef W' hd1.1 hd1.2
          case enter f args =>
            obtain ⟨e1, hcall⟩ := hd1
            rw [e1]
            exact hcall.mono fun e W'' ⟨u, he, ht, hr⟩ => by subst he; exact go u W'' ht hr
        | halt x W' => simp only [does] at hd1
      · rename_i hw; simp only [hw] at h1; exact wpAny_of_S fuel _ _ C W hU hW h1
theorem wp_region_S {id : Nat} {a : Act} {w : World} {l : List Oper} {C : World → Prop} (n g : Nat)
    (hm : P.follows .mixedOrders = true) (hk : decide (n + g = l.length) = true) (hU : Up C) (hC : C w.drew)
    (h : wpS P .any l.toArray Q n g n (Array.replicate l.toArray.size false) a C) : (Code.region id l.toArray true).wp P Q a w := by
  refine wp_region_any hm ?_
  have hk' : n + g = l.length := by simpa using hk
  have := wpAny_of_S n _ a C w.drew hU hC h
  rw [show n + g = l.toArray.size by simp; omega] at this
  exact this
end
end Go.Proofs.Ytkghnjgioijgpaa.RegionU
namespace Go.Proofs.Ytkghnjgioijgpaa.DfaW
set_option linter.unusedVariables false
open Go.RowKit Go.Maps Go.Proofs.Ytkghnjgioijgpaa.PartM Go.Proofs.Ytkghnjgioijgpaa.PartW Go.Proofs.Ytkghnjgioijgpaa.DfaM

/-- Where a number stands first. -/
theorem plc_first {l : List Int} {i : Nat} (h : i < l.length) : plc l (l.getD i 0) = (i : Nat) ↔ l.getD i 0 ∉ l.take i := by
  have hm : l.getD i 0 ∈ l := getD_mem h
  have e : l = l.take i ++ l.drop i := (List.take_append_drop i l).symm
  have ed : l.drop i = l.getD i 0 :: l.drop (i + 1) := by
    rw [List.drop_eq_getElem_cons h, List.getD_eq_getElem?_getD, List.getElem?_eq_getElem h]; rfl
  have hl : (l.take i).length = i := by rw [List.length_take]; omega
  rw [plc_in hm]
  constructor
  · intro hp hin
    have h1 := idx_take hin
    have h2 := List.idxOf_lt_length_of_mem hin
    omega
  · intro hn
    have : l.idxOf (l.getD i 0) = i := by
      conv => lhs; rw [e]
      rw [List.idxOf_append, if_neg]
      · rw [← e, ed, List.idxOf_cons_self]; omega
      · rw [← e]; exact hn
    rw [this]
theorem nodup_firsts {l : List Int} (h : ∀ i, i < l.length → l.getD i 0 ∉ l.take i) : l.Nodup := by
  unfold List.Nodup
  rw [List.pairwise_iff_getElem]
  intro i j hi hj hij e
  refine h j hj ?_
  rw [List.getD_eq_getElem?_getD, List.getElem?_eq_getElem hj]
  show l[j] ∈ l.take j
  rw [← e]
  exact List.mem_take_iff_getElem.2 ⟨i, by omega, rfl⟩
/-- A machine that reads nowhere between n and lo. -/
def Rk (n lo : Nat) (w : World) (D : Array Value) (m : Mc) : Prop := ∀ w'' : World, w.heap.size ≤ w''.heap.size → (∀ k, (k < n ∨ lo ≤ k) → k < w.heap.size → w''.heap[k]? = w.heap[k]?) → IsM w''.heap.size w'' D m
theorem Rk.is {n lo : Nat} {w : World} {D : Array Value} {m : Mc} (h : Rk n lo w D m) : IsM w.heap.size w D m := h w (Nat.le_refl _) fun _ _ _ => rfl
theorem Rk.next {n lo : Nat} {w w' : World} {D : Array Value} {m : Mc} (h : Rk n lo w D m) (hb : Below w.heap.size w w') : Rk n lo w' D m := fun w'' h1 h2 => h w'' (Nat.le_trans hb.size h1) fun k k1 k2 => (h2 k k1 (Nat.lt_of_lt_of_le k2 hb.size)).trans (hb.block k k2)
theorem Rk.row {n lo b : Nat} {w : World} {D : Array Value} {m : Mc} (h : Rk n lo w D m) (hn : n ≤ b) (hb : b < lo) (E : Array Value) : Rk n lo (w.setRow b E) D m := fun w'' h1 h2 => h w'' (by rw [size_row] at h1; exact h1) fun k k1 k2 => (h2 k k1 (by rw [size_row]; exact k2)).trans (heap_row _ _ _ (by omega))
theorem Rk.mono {n lo lo' : Nat} {w : World} {D : Array Value} {m : Mc} (h : Rk n lo w D m) (hl : lo' ≤ lo) : Rk n lo' w D m := fun w'' h1 h2 => h w'' h1 fun k k1 k2 => h2 k (k1.elim .inl fun k1 => .inr (Nat.le_trans hl k1)) k2
theorem zero_rk (n lo : Nat) (w : World) : Rk n lo w Try.zeroCells27 zeroM := fun w'' _ _ => zero_is w''
/-- The document's copy reads the names where they lay. -/
theorem Kept.rk {W wr : World} {bk B : Nat} {A : Array Value} {x : Int} {v1 v2 u : Value} {Ms : List (List Int)} {ls : List Int} (h : Kept W wr bk B A x v1 v2 u Ms ls) {f : Nat → Nat} (hA : IsA A f) (hf : ∀ i, i < 256 → f i < 256) {tl : List ByteArray} {n lo : Nat}
    (hu : TS n wr u tl) (hn : n ≤ wr.heap.size) (h1 : lo ≤ B) : Rk n lo wr (mkC A (.int .i64 x) v1 v2 u) ⟨f, x, Ms, ls, tl⟩ := fun w'' hsz hk => by
  have ok : ∀ {b : Nat} {e : TypeId} {s : Nat} {v : Value} {n : Nat} {xs : List Value}, lo ≤ b → wr.ownsRow b e s v n xs → w''.ownsRow b e s v n xs := fun hb ho => own_keep ho fun g hg => hk g (.inr (Nat.le_trans hb (own_at ho hg).2.1)) (own_at ho hg).2.2
  have hts : TS w''.heap.size w'' u tl := by
    refine TS.up ⟨?_, hu.2⟩ (Nat.le_trans hn hsz)
    obtain ⟨a, cap, g1, g2, g3, g4⟩ := hu.1
    exact ⟨a, cap, g1, g2, g3, fun i hi => by obtain ⟨b, o, k1, k2, k3⟩ := g4 i hi; exact ⟨b, o, k1, k2, (cell_block (hk b (.inl k2) (by omega))).trans k3⟩⟩
  refine mkC_is (m := ⟨f, x, Ms, ls, tl⟩) hA hf ?_ (OI.is (base := B) (ok h1 h.o2)) hts
  obtain ⟨vs, k1, k2⟩ := h.o1
  have hl : vs.length = Ms.length := by have := k1.1; simpa using this
  refine ⟨vs, VS.of_owns (ok h1 k1) fun a c e => ?_, hl, fun i hi => ?_⟩
  · rcases k1.2 with ⟨e2, _⟩ | ⟨g, cap, cur, e2, _, _, _, hc, _⟩
    · rw [e2] at e; simp only [Value.slice.injEq] at e; have := e.2.2; omega
    · rw [e2] at e; simp only [Value.slice.injEq] at e; rw [← e.2.2]; exact hc
  · obtain ⟨vi, h3, h4, _⟩ := k2 i hi
    exact ⟨vi, h3, OI.is (base := B) (ok h1 h4)⟩
end Go.Proofs.Ytkghnjgioijgpaa.DfaW
namespace Go.Proofs.Ytkghnjgioijgpaa.DfaW
set_option linter.unusedVariables false
set_option linter.unusedSimpArgs false
open Go.Proofs.Ytkghnjgioijgpaa.RegionU (Up wpU_taken wpU_one wpU_mono wpU_done wp_region_U does)
open Go.RowKit Go.Maps Go.Proofs.Ytkghnjgioijgpaa.PartM Go.Proofs.Ytkghnjgioijgpaa.PartW Go.Proofs.Ytkghnjgioijgpaa.DfaM
section
variable {ops : Array Oper} {rest : List Oper} {op : Oper} {a : Act} {w : World} {Q : Exit → Act → World → Prop}
theorem wpList_build3 (hg : op.guard = none) (p0 p1 p4 : Operand) (ho : op.op = .build 27 #[(0, p0), (1, p1), (4, p4)]) {A : Array Value} (hA : A.size = 256) {x : Int} {a3 : Option Addr} {n3 c3 : Nat} (h0 : a.eval p0 = .agg A) (h1 : a.eval p1 = .int .i64 x) (h4 : a.eval p4 = .slice a3 n3 c3)
    (hK : wpList Try.prog ops Q rest (a.put op.dst (.agg (mkC A (.int .i64 x) nilS nilS (.slice a3 n3 c3)))) w) : wpList Try.prog ops Q (op :: rest) a w :=
  wpList_plain hg fun _ hK' => by
    unfold Oper.wp
    rw [run_op_build3 p0 p1 p4 ho hA h0 h1 h4]
    exact hK' _ _ hK
end
/-- What the inner loop knows: the row so far is the call's own. -/
def RowL (W1 : World) (l r : List Int) (R : Nat) (v i : Value) (wi : World) : Prop := ∃ c : Nat, c ≤ R ∧ i = .int .i64 c ∧ OI wi W1.heap.size v (turnL l (r.take c)) ∧ (∀ y ∈ r.take c, y ∈ l) ∧ Below W1.heap.size W1 wi
theorem turn_snoc {l r : List Int} {c : Nat} (h : c < r.length) : turnL l (r.take (c + 1)) = turnL l (r.take c) ++ [((l.idxOf (r.getD c 0) : Nat) : Int)] := by unfold turnL; rw [takeI_snoc r h, List.map_append]; rfl
/-- What the first loop knows. -/
def FirstL (W0 : World) (N : Nat) (l : List Int) (L : Nat) (i : Value) (wr : World) : Prop := ∃ j : Nat, j ≤ L ∧ i = .int .i64 j ∧ (∀ x ∈ l.take j, 0 ≤ x ∧ x < (N : Int)) ∧ (∀ i, i < j → l.getD i 0 ∉ l.take i) ∧ Below W0.heap.size W0 wr
set_option maxRecDepth 100000 in
set_option maxHeartbeats 4000000 in
theorem refKeep_any {C : Array Value} {m : Mc} {v : Value} {l : List Int} {n : Nat} (w : World) (hm : IsM n w C m) (hn : n ≤ w.heap.size) (hk : Ok m) (hv : IS w.heap.size w v l) :
    Calls Try.prog 29 #[.agg C, v] w fun e w' => ∃ D, e = .returned (.tuple #[.agg D, .int .i64 (keptE m l)]) ∧ Rk n w.heap.size w' D (keptM m l) ∧ Below w.heap.size w w' := by
  have h := hm.up hn
  have hx := (Bx.new h).alloc (.cells Try.zeroCells27 27)
  have hz : Ar ((w.alloc (.cells C 27)).alloc (.cells Try.zeroCells27 27)) (w.heap.size + 1) Try.zeroCells27 27 := by
    have := Ar.new (w.alloc (.cells C 27)) Try.zeroCells27 27
    rw [World.size_alloc] at this; exact this
  have hb0 : Below w.heap.size w ((w.alloc (.cells C 27)).alloc (.cells Try.zeroCells27 27)) := ((Below.refl _ _).alloc (Nat.le_refl _) _).alloc (by simp) _
  have hs0 : ((w.alloc (.cells C 27)).alloc (.cells Try.zeroCells27 27)).heap.size = w.heap.size + 2 := by simp
  have hv0 := (hv.below hb0).up hb0.size
  have HVW := Lib.hid hv
  obtain ⟨a, cap, rfl, g1, g2, g3⟩ := hv0.open
  have HV := Lib.hid hv0; have HC := Lib.hid g3
  obtain ⟨L, hL⟩ : ∃ L, L = l.length := ⟨_, rfl⟩
  have hLi : (L : Int) ≤ 9223372036854775807 := by unfold maxLen at g2; omega
  rw [← hL] at HV HC HVW ⊢
  have HX := Lib.hid hx; have HZ := Lib.hid hz; have HB0 := Lib.hid hb0; have HS0 := Lib.hid hs0; have HLL := Lib.hid hL; have HM := Lib.hid hm; have HN := Lib.hid hn; have HK := Lib.hid hk
  have HZO := Lib.hid (IsM.one (zero_is w)); have HZS := Lib.hid zc_size
  clear hx hz hs0 hv hv0 h hm hn hk g1 g2 g3
  by_cases h0 : L = 0
  · have hng : ¬ Good m l := fun g => by have := g.first.1; omega
    have HE := Lib.hid (keptE_bad HK.out hng); have HKM := Lib.hid (keptM_bad hng)
    clear hL hng hb0
    subst h0
    go_enter Try.func29, Try.ntmps29
    go_wp2_with (refine wpList_store_dfa rfl (.tmp 4) (.tmp 21) rfl rfl rfl HZ.out HZS.out HZS.out HZO.out ?_; simp only [Act.put])
    refine bodyPost_ret (res_kept rfl rfl rfl ((HZ.out).row _) HZS.out) rfl ⟨_, by rw [HE.out]; rfl, by rw [HKM.out]; exact zero_rk _ _ _, below_row HB0.out (by omega) _⟩
  obtain ⟨b, o, rfl, hb, hc⟩ := HC.out 0 (by omega)
  rw [Nat.add_zero] at hc
  have hl0 : ((L : Int) == 0) = false := by simp; omega
  have hL1 : 0 < L := by omega
  by_cases hz0 : l.getD 0 0 = 0
  case neg =>
    have hng : ¬ Good m l := fun g => hz0 g.first.2
    have HE := Lib.hid (keptE_bad HK.out hng); have HKM := Lib.hid (keptM_bad hng)
    obtain ⟨y, hy⟩ : ∃ y, y = l.getD 0 0 := ⟨_, rfl⟩
    rw [← hy] at hc hz0
    have hyb : (y == 0) = false := by simpa using hz0
    clear hL hng hb0 hy h0 hz0
    go_enter Try.func29, Try.ntmps29
    go_wp2_with (refine wpList_store_dfa rfl (.tmp 4) (.tmp 21) rfl rfl rfl HZ.out HZS.out HZS.out HZO.out ?_; simp only [Act.put])
    refine bodyPost_ret (res_kept rfl rfl rfl ((HZ.out).row _) HZS.out) rfl ⟨_, by rw [HE.out]; rfl, by rw [HKM.out]; exact zero_rk _ _ _, below_row HB0.out (by omega) _⟩
  rw [hz0] at hc
  have HF := Lib.hid (show 0 < l.length ∧ l.getD 0 0 = 0 from ⟨by omega, hz0⟩)
  obtain ⟨v3, k3, hv3⟩ := HM.out.nm
  have x3 := (Ar.at' HX.out.ar 259).trans k3
  obtain ⟨a3, c3, rfl, _, _, _⟩ := hv3.open
  have HUN := Lib.hid hv3
  have x4 := HX.out.wd
  have HOF := Lib.hid HX.out.is.isA
  have HAN := Lib.hid (show Ar (((w.alloc (.cells C 27)).alloc (.cells Try.zeroCells27 27)).alloc (.cells Try.zeroCells27 27)) (w.heap.size + 1 + 1) Try.zeroCells27 27 by
    have := Ar.new ((w.alloc (.cells C 27)).alloc (.cells Try.zeroCells27 27)) Try.zeroCells27 27
    rw [World.size_alloc, World.size_alloc] at this; exact this)
  have HON := Lib.hid (oneAll (one_of HOF.out) (x := .int .i64 m.wd) (v1 := nilS) (v2 := nilS) (v3 := .slice a3 m.nm.length c3) rfl rfl rfl rfl)
  clear hL h0 hz0 hv3 hb0 k3
  go_enter Try.func29, Try.ntmps29
  go_wp2_with (first | (refine wpList_load_of rfl (.tmp 22) rfl rfl HX.out ?_) | (refine wpList_build3 rfl (.tmp 23) (.tmp 25) (.tmp 27) rfl HOF.out.size rfl rfl rfl ?_) | (refine wpList_store_dfa rfl (.tmp 6) (.tmp 28) rfl (by rfl) (by rfl) HAN.out HZS.out (mkC_size HOF.out.size _ _ _ _) HON.out ?_; simp only [Act.put]))
  have hk0 := Kept.first ((HAN.out).row (mkC (ofC C) (.int .i64 m.wd) nilS nilS (.slice a3 m.nm.length c3)))
  have hbn : Below ((w.alloc (.cells C 27)).alloc (.cells Try.zeroCells27 27)).heap.size ((w.alloc (.cells C 27)).alloc (.cells Try.zeroCells27 27)) ((((w.alloc (.cells C 27)).alloc (.cells Try.zeroCells27 27)).alloc (.cells Try.zeroCells27 27)).setRow (w.heap.size + 1 + 1) (mkC (ofC C) (.int .i64 m.wd) nilS nilS (.slice a3 m.nm.length c3))) := below_row ((Below.refl _ _).alloc (Nat.le_refl _) _) (by rw [HS0.out]; omega) _
  have HK0 := Lib.hid hk0; have HX3 := Lib.hid (HX.out.below hbn); have HZ3 := Lib.hid (HZ.out.below hbn); have HV3 := Lib.hid ((HV.out.below hbn).up hbn.size); have HB3 := Lib.hid (HB0.out.trans (hbn.mono HB0.out.size))
  obtain ⟨B, hB⟩ : ∃ B, B = w.heap.size := ⟨_, rfl⟩
  have HBB := Lib.hid hB
  clear hk0 hbn HAN HX HZ HV HC HB0 HS0 x3 x4 hc hb
  generalize ((((w.alloc (.cells C 27)).alloc (.cells Try.zeroCells27 27)).alloc (.cells Try.zeroCells27 27)).setRow (w.heap.size + 1 + 1) (mkC (ofC C) (.int .i64 m.wd) nilS nilS (.slice a3 m.nm.length c3))) = W0 at *
  rw [← hB] at HK0 HX3 HZ3 ⊢
  clear hB
  obtain ⟨N, hN⟩ : ∃ N, N = m.lb.length := ⟨_, rfl⟩
  have HNN := Lib.hid hN
  have hNi : (N : Int) ≤ 65536 := by have := HK.out.lbs.2.1; omega
  clear hN
  go_loopw [7] (fun i wr => FirstL W0 N l L i wr) (fun i _ => L - (intOf i).toNat)
  case atStart => exact ⟨0, Nat.zero_le _, rfl, (fun x hx => by cases hx), (fun i hi => by omega), Below.refl _ _⟩
  case round =>
    obtain ⟨j, hj, rfl, hbd, hfi, hBr⟩ := hrel
    have HBR := Lib.hid hBr; have HBD := Lib.hid hbd; have HFI := Lib.hid hfi
    clear hbd hfi
    by_cases hjL : j < L
    · have hjl : j < l.length := by rw [← HLL.out]; exact hjL
      have HJ := Lib.hid hjL
      have hv := (HV3.out.below hBr).up hBr.size
      obtain ⟨_, _, e, _, _, hvj⟩ := hv.open
      simp only [Value.slice.injEq] at e
      obtain ⟨rfl, hLe, rfl⟩ := e
      clear hLe
      obtain ⟨b', o', e, hb, hc⟩ := hvj j hjl
      simp only [Option.some.injEq, Addr.mk.injEq, and_true] at e
      obtain ⟨rfl, rfl⟩ := e
      have hxr := HX3.out.below hBr
      obtain ⟨v2, x2, hv2⟩ := hxr.lb
      obtain ⟨a2, c2, rfl, _, _, _⟩ := hv2.open
      rw [← HNN.out] at x2
      have HCL := Lib.hid (fun W (h : Below wr.heap.size wr W) => (h.cell (p := ⟨B, 258, none⟩) hxr.ar.lt).trans x2)
      have HTK := Lib.hid (takeI_snoc l hjl); have HPF := Lib.hid (plc_first hjl); have HMEM := Lib.hid (show l.getD j 0 ∈ l from getD_mem hjl)
      obtain ⟨x, hx⟩ : ∃ x, x = l.getD j 0 := ⟨_, rfl⟩
      have HXE := Lib.hid hx
      rw [← hx] at hc HTK HPF HMEM
      have HCE := Lib.hid (fun W (h : Below wr.heap.size wr W) => (h.cell (p := ⟨b, o + j, none⟩) hb).trans hc)
      obtain ⟨q, hq⟩ : ∃ q, q = plc l x := ⟨_, rfl⟩
      rw [← hq] at HPF
      have HPL := Lib.hid (fun W (h : Below wr.heap.size wr W) => (place_any W (hv.below h) x).mono fun e w' (y : e = .returned (.int .i64 (plc l x)) ∧ W = w') => And.intro (show e = .returned (.int .i64 q) by rw [hq]; exact y.1) (show Below W.heap.size W w' by rw [← y.2]; exact Below.refl _ _))
      have HD := Lib.hid (KD.of hxr (Below.refl _ _).drew)
      have hxi := trivial
      clear hvj hv hxr x2 hv2 hx hq hb hc hBr hjl
      by_cases hx0 : x < 0
      · have t1 : decide (x < 0) = true := by simpa using hx0
        have hng : ¬ Good m l := fun g => by have := g.lt x HMEM.out; omega
        have HE := Lib.hid (keptE_bad HK.out hng); have HKM := Lib.hid (keptM_bad hng)
        clear hng
        go_wp2_with fail
        refine wp_region_U (by kernel_rfl) (KD.up wr B C m) HD.out ?_
        refine wpU_taken (i := 0) rfl (by kernel_rfl) (by kernel_rfl) (by kernel_rfl) (KD.up wr B C m) ?_
        apply Exists.intro
        refine ⟨Or.inl ⟨rfl, fun W hW => ?hy⟩, ?_⟩
        case hy =>
          obtain ⟨hX, hB⟩ := hW
          go_simp
          exact RegionU.does_value rfl
        simp only [Act.put, List.setIfInBounds_toArray, List.set]
        refine wpU_taken (i := 1) rfl (by kernel_rfl) (by kernel_rfl) (by kernel_rfl) (KD.up wr B C m) ?_
        apply Exists.intro
        refine ⟨Or.inl ⟨rfl, fun W hW => ?hy⟩, ?_⟩
        case hy =>
          obtain ⟨hX, hB⟩ := hW
          go_simp
          exact RegionU.does_value rfl
        simp only [Act.put, List.setIfInBounds_toArray, List.set]
        refine wpU_taken (i := 2) rfl (by kernel_rfl) (by kernel_rfl) (by kernel_rfl) (KD.up wr B C m) ?_
        apply Exists.intro
        refine ⟨Or.inl ⟨rfl, fun W hW => ?hy⟩, ?_⟩
        case hy =>
          obtain ⟨hX, hB⟩ := hW
          go_simp
          exact RegionU.does_value rfl
        simp only [Act.put, List.setIfInBounds_toArray, List.set]
        refine wpU_taken (i := 3) rfl (by kernel_rfl) (by kernel_rfl) (by kernel_rfl) (KD.up wr B C m) ?_
        apply Exists.intro
        refine ⟨Or.inl ⟨rfl, fun W hW => ?hy⟩, ?_⟩
        case hy =>
          obtain ⟨hX, hB⟩ := hW
          have hc := HCE.out W hB
          go_simp
          exact RegionU.does_value rfl
        simp only [Act.put, List.setIfInBounds_toArray, List.set]
        refine wpU_taken (i := 4) rfl (by kernel_rfl) (by kernel_rfl) (by kernel_rfl) (KD.up wr B C m) ?_
        apply Exists.intro
        refine ⟨Or.inl ⟨rfl, fun W hW => ?hy⟩, ?_⟩
        case hy =>
          obtain ⟨hX, hB⟩ := hW
          go_simp
          exact RegionU.does_value rfl
        simp only [Act.put, List.setIfInBounds_toArray, List.set]
        refine wpU_taken (i := 5) rfl (by kernel_rfl) (by kernel_rfl) (by kernel_rfl) (KD.up wr B C m) ?_
        apply Exists.intro
        refine ⟨Or.inl ⟨rfl, fun W hW => ?hy⟩, ?_⟩
        case hy =>
          obtain ⟨hX, hB⟩ := hW
          go_simp
          exact RegionU.does_value rfl
        simp only [Act.put, List.setIfInBounds_toArray, List.set]
        refine wpU_taken (i := 6) rfl (by kernel_rfl) (by kernel_rfl) (by kernel_rfl) (KD.up wr B C m) ?_
        apply Exists.intro
        refine ⟨Or.inr ⟨rfl, rfl⟩, ?_⟩
        simp only [Act.put, List.setIfInBounds_toArray, List.set]
        refine wpU_taken (i := 7) rfl (by kernel_rfl) (by kernel_rfl) (by kernel_rfl) (KD.up wr B C m) ?_
        apply Exists.intro
        refine ⟨Or.inr ⟨rfl, rfl⟩, ?_⟩
        simp only [Act.put, List.setIfInBounds_toArray, List.set]
        refine wpU_taken (i := 8) rfl (by kernel_rfl) (by kernel_rfl) (by kernel_rfl) (KD.up wr B C m) ?_
        apply Exists.intro
        refine ⟨Or.inr ⟨rfl, rfl⟩, ?_⟩
        simp only [Act.put, List.setIfInBounds_toArray, List.set]
        refine wpU_taken (i := 9) rfl (by kernel_rfl) (by kernel_rfl) (by kernel_rfl) (KD.up wr B C m) ?_
        apply Exists.intro
        refine ⟨Or.inr ⟨rfl, rfl⟩, ?_⟩
        simp only [Act.put, List.setIfInBounds_toArray, List.set]
        refine wpU_taken (i := 10) rfl (by kernel_rfl) (by kernel_rfl) (by kernel_rfl) (KD.up wr B C m) ?_
        apply Exists.intro
        refine ⟨Or.inr ⟨rfl, rfl⟩, ?_⟩
        simp only [Act.put, List.setIfInBounds_toArray, List.set]
        refine wpU_taken (i := 11) rfl (by kernel_rfl) (by kernel_rfl) (by kernel_rfl) (KD.up wr B C m) ?_
        apply Exists.intro
        refine ⟨Or.inr ⟨rfl, rfl⟩, ?_⟩
        simp only [Act.put, List.setIfInBounds_toArray, List.set]
        refine wpU_taken (i := 12) rfl (by kernel_rfl) (by kernel_rfl) (by kernel_rfl) (KD.up wr B C m) ?_
        apply Exists.intro
        refine ⟨Or.inr ⟨rfl, rfl⟩, ?_⟩
        simp only [Act.put, List.setIfInBounds_toArray, List.set]
        refine wpU_taken (i := 13) rfl (by kernel_rfl) (by kernel_rfl) (by kernel_rfl) (KD.up wr B C m) ?_
        apply Exists.intro
        refine ⟨Or.inr ⟨rfl, rfl⟩, ?_⟩
        simp only [Act.put, List.setIfInBounds_toArray, List.set]
        refine wpU_taken (i := 14) rfl (by kernel_rfl) (by kernel_rfl) (by kernel_rfl) (KD.up wr B C m) ?_
        apply Exists.intro
        refine ⟨Or.inl ⟨rfl, fun W hW => ?hy⟩, ?_⟩
        case hy =>
          obtain ⟨hX, hB⟩ := hW
          go_simp
          exact RegionU.does_value rfl
        simp only [Act.put, List.setIfInBounds_toArray, List.set]
        refine wpU_taken (i := 15) rfl (by kernel_rfl) (by kernel_rfl) (by kernel_rfl) (KD.up wr B C m) ?_
        apply Exists.intro
        refine ⟨Or.inl ⟨rfl, fun W hW => ?hy⟩, ?_⟩
        case hy =>
          obtain ⟨hX, hB⟩ := hW
          go_simp
          exact RegionU.does_value rfl
        simp only [Act.put, List.setIfInBounds_toArray, List.set]
        refine wpU_taken (i := 16) rfl (by kernel_rfl) (by kernel_rfl) (by kernel_rfl) (KD.up wr B C m) ?_
        apply Exists.intro
        refine ⟨Or.inr ⟨rfl, rfl⟩, ?_⟩
        simp only [Act.put, List.setIfInBounds_toArray, List.set]
        refine wpU_taken (i := 17) rfl (by kernel_rfl) (by kernel_rfl) (by kernel_rfl) (KD.up wr B C m) ?_
        apply Exists.intro
        refine ⟨Or.inr ⟨rfl, rfl⟩, ?_⟩
        simp only [Act.put, List.setIfInBounds_toArray, List.set]
        refine wpU_taken (i := 18) rfl (by kernel_rfl) (by kernel_rfl) (by kernel_rfl) (KD.up wr B C m) ?_
        apply Exists.intro
        refine ⟨Or.inr ⟨rfl, rfl⟩, ?_⟩
        simp only [Act.put, List.setIfInBounds_toArray, List.set]
        refine wpU_taken (i := 19) rfl (by kernel_rfl) (by kernel_rfl) (by kernel_rfl) (KD.up wr B C m) ?_
        apply Exists.intro
        refine ⟨Or.inr ⟨rfl, rfl⟩, ?_⟩
        simp only [Act.put, List.setIfInBounds_toArray, List.set]
        refine wpU_taken (i := 20) rfl (by kernel_rfl) (by kernel_rfl) (by kernel_rfl) (KD.up wr B C m) ?_
        apply Exists.intro
        refine ⟨Or.inr ⟨rfl, rfl⟩, ?_⟩
        simp only [Act.put, List.setIfInBounds_toArray, List.set]
        refine wpU_taken (i := 21) rfl (by kernel_rfl) (by kernel_rfl) (by kernel_rfl) (KD.up wr B C m) ?_
        apply Exists.intro
        refine ⟨Or.inr ⟨rfl, rfl⟩, ?_⟩
        simp only [Act.put, List.setIfInBounds_toArray, List.set]
        refine wpU_taken (i := 22) rfl (by kernel_rfl) (by kernel_rfl) (by kernel_rfl) (KD.up wr B C m) ?_
        apply Exists.intro
        refine ⟨Or.inr ⟨rfl, rfl⟩, ?_⟩
        simp only [Act.put, List.setIfInBounds_toArray, List.set]
        refine wpU_taken (i := 23) rfl (by kernel_rfl) (by kernel_rfl) (by kernel_rfl) (KD.up wr B C m) ?_
        apply Exists.intro
        refine ⟨Or.inr ⟨rfl, rfl⟩, ?_⟩
        simp only [Act.put, List.setIfInBounds_toArray, List.set]
        refine wpU_taken (i := 24) rfl (by kernel_rfl) (by kernel_rfl) (by kernel_rfl) (KD.up wr B C m) ?_
        apply Exists.intro
        refine ⟨Or.inl ⟨rfl, fun W hW => ?hy⟩, ?_⟩
        case hy =>
          obtain ⟨hX, hB⟩ := hW
          go_simp
          exact RegionU.does_value rfl
        simp only [Act.put, List.setIfInBounds_toArray, List.set]
        refine wpU_done (by kernel_rfl) ?_
        rintro W ⟨-, hB⟩
        have HZW := Lib.hid (HZ3.out.below (HBR.out.trans (hB.mono HBR.out.size)))
        have HBW := Lib.hid ((HB3.out.trans (HBR.out.mono HB3.out.size)).trans (hB.mono (Nat.le_trans HB3.out.size HBR.out.size)))
        clear hB
        go_wp2_with (refine wpList_store_dfa rfl (.tmp 4) (.tmp 60) rfl rfl rfl HZW.out HZS.out HZS.out HZO.out ?_; simp only [Act.put])
        refine bodyPost_ret (res_kept rfl rfl rfl ((HZW.out).row _) HZS.out) rfl ⟨_, by rw [HE.out]; rfl, by rw [HKM.out]; exact zero_rk _ _ _, below_row HBW.out (by rw [HBB.out]; omega) _⟩
      have t1 : decide (x < 0) = false := by simp; omega
      by_cases hxN : (N : Int) ≤ x
      · have t2 : decide ((N : Int) ≤ x) = true := by simpa using hxN
        have hng : ¬ Good m l := fun g => by have := g.lt x HMEM.out; rw [← HNN.out] at this; omega
        have HE := Lib.hid (keptE_bad HK.out hng); have HKM := Lib.hid (keptM_bad hng)
        clear hng
        go_wp2_with fail
        refine wp_region_U (by kernel_rfl) (KD.up wr B C m) HD.out ?_
        refine wpU_taken (i := 0) rfl (by kernel_rfl) (by kernel_rfl) (by kernel_rfl) (KD.up wr B C m) ?_
        apply Exists.intro
        refine ⟨Or.inl ⟨rfl, fun W hW => ?hy⟩, ?_⟩
        case hy =>
          obtain ⟨hX, hB⟩ := hW
          go_simp
          exact RegionU.does_value rfl
        simp only [Act.put, List.setIfInBounds_toArray, List.set]
        refine wpU_taken (i := 1) rfl (by kernel_rfl) (by kernel_rfl) (by kernel_rfl) (KD.up wr B C m) ?_
        apply Exists.intro
        refine ⟨Or.inl ⟨rfl, fun W hW => ?hy⟩, ?_⟩
        case hy =>
          obtain ⟨hX, hB⟩ := hW
          go_simp
          exact RegionU.does_value rfl
        simp only [Act.put, List.setIfInBounds_toArray, List.set]
        refine wpU_taken (i := 2) rfl (by kernel_rfl) (by kernel_rfl) (by kernel_rfl) (KD.up wr B C m) ?_
        apply Exists.intro
        refine ⟨Or.inl ⟨rfl, fun W hW => ?hy⟩, ?_⟩
        case hy =>
          obtain ⟨hX, hB⟩ := hW
          go_simp
          exact RegionU.does_value rfl
        simp only [Act.put, List.setIfInBounds_toArray, List.set]
        refine wpU_taken (i := 3) rfl (by kernel_rfl) (by kernel_rfl) (by kernel_rfl) (KD.up wr B C m) ?_
        apply Exists.intro
        refine ⟨Or.inl ⟨rfl, fun W hW => ?hy⟩, ?_⟩
        case hy =>
          obtain ⟨hX, hB⟩ := hW
          have hc := HCE.out W hB
          go_simp
          exact RegionU.does_value rfl
        simp only [Act.put, List.setIfInBounds_toArray, List.set]
        refine wpU_taken (i := 4) rfl (by kernel_rfl) (by kernel_rfl) (by kernel_rfl) (KD.up wr B C m) ?_
        apply Exists.intro
        refine ⟨Or.inl ⟨rfl, fun W hW => ?hy⟩, ?_⟩
        case hy =>
          obtain ⟨hX, hB⟩ := hW
          go_simp
          exact RegionU.does_value rfl
        simp only [Act.put, List.setIfInBounds_toArray, List.set]
        refine wpU_taken (i := 5) rfl (by kernel_rfl) (by kernel_rfl) (by kernel_rfl) (KD.up wr B C m) ?_
        apply Exists.intro
        refine ⟨Or.inl ⟨rfl, fun W hW => ?hy⟩, ?_⟩
        case hy =>
          obtain ⟨hX, hB⟩ := hW
          go_simp
          exact RegionU.does_value rfl
        simp only [Act.put, List.setIfInBounds_toArray, List.set]
        refine wpU_taken (i := 6) rfl (by kernel_rfl) (by kernel_rfl) (by kernel_rfl) (KD.up wr B C m) ?_
        apply Exists.intro
        refine ⟨Or.inl ⟨rfl, fun W hW => ?hy⟩, ?_⟩
        case hy =>
          obtain ⟨hX, hB⟩ := hW
          go_simp
          exact RegionU.does_value rfl
        simp only [Act.put, List.setIfInBounds_toArray, List.set]
        refine wpU_taken (i := 7) rfl (by kernel_rfl) (by kernel_rfl) (by kernel_rfl) (KD.up wr B C m) ?_
        apply Exists.intro
        refine ⟨Or.inl ⟨rfl, fun W hW => ?hy⟩, ?_⟩
        case hy =>
          obtain ⟨hX, hB⟩ := hW
          go_simp
          exact RegionU.does_value rfl
        simp only [Act.put, List.setIfInBounds_toArray, List.set]
        refine wpU_taken (i := 8) rfl (by kernel_rfl) (by kernel_rfl) (by kernel_rfl) (KD.up wr B C m) ?_
        apply Exists.intro
        refine ⟨Or.inl ⟨rfl, fun W hW => ?hy⟩, ?_⟩
        case hy =>
          obtain ⟨hX, hB⟩ := hW
          go_simp
          exact RegionU.does_value rfl
        simp only [Act.put, List.setIfInBounds_toArray, List.set]
        refine wpU_taken (i := 9) rfl (by kernel_rfl) (by kernel_rfl) (by kernel_rfl) (KD.up wr B C m) ?_
        apply Exists.intro
        refine ⟨Or.inl ⟨rfl, fun W hW => ?hy⟩, ?_⟩
        case hy =>
          obtain ⟨hX, hB⟩ := hW
          have hc := HCE.out W hB
          go_simp
          exact RegionU.does_value rfl
        simp only [Act.put, List.setIfInBounds_toArray, List.set]
        refine wpU_taken (i := 10) rfl (by kernel_rfl) (by kernel_rfl) (by kernel_rfl) (KD.up wr B C m) ?_
        apply Exists.intro
        refine ⟨Or.inl ⟨rfl, fun W hW => ?hy⟩, ?_⟩
        case hy =>
          obtain ⟨hX, hB⟩ := hW
          go_simp
          exact RegionU.does_value rfl
        simp only [Act.put, List.setIfInBounds_toArray, List.set]
        refine wpU_taken (i := 11) rfl (by kernel_rfl) (by kernel_rfl) (by kernel_rfl) (KD.up wr B C m) ?_
        apply Exists.intro
        refine ⟨Or.inl ⟨rfl, fun W hW => ?hy⟩, ?_⟩
        case hy =>
          obtain ⟨hX, hB⟩ := hW
          have hc := HCL.out W hB
          go_simp
          exact RegionU.does_value rfl
        simp only [Act.put, List.setIfInBounds_toArray, List.set]
        refine wpU_taken (i := 12) rfl (by kernel_rfl) (by kernel_rfl) (by kernel_rfl) (KD.up wr B C m) ?_
        apply Exists.intro
        refine ⟨Or.inl ⟨rfl, fun W hW => ?hy⟩, ?_⟩
        case hy =>
          obtain ⟨hX, hB⟩ := hW
          go_simp
          exact RegionU.does_value rfl
        simp only [Act.put, List.setIfInBounds_toArray, List.set]
        refine wpU_taken (i := 13) rfl (by kernel_rfl) (by kernel_rfl) (by kernel_rfl) (KD.up wr B C m) ?_
        apply Exists.intro
        refine ⟨Or.inl ⟨rfl, fun W hW => ?hy⟩, ?_⟩
        case hy =>
          obtain ⟨hX, hB⟩ := hW
          go_simp
          exact RegionU.does_value rfl
        simp only [Act.put, List.setIfInBounds_toArray, List.set]
        refine wpU_taken (i := 14) rfl (by kernel_rfl) (by kernel_rfl) (by kernel_rfl) (KD.up wr B C m) ?_
        apply Exists.intro
        refine ⟨Or.inl ⟨rfl, fun W hW => ?hy⟩, ?_⟩
        case hy =>
          obtain ⟨hX, hB⟩ := hW
          go_simp
          exact RegionU.does_value rfl
        simp only [Act.put, List.setIfInBounds_toArray, List.set]
        refine wpU_taken (i := 15) rfl (by kernel_rfl) (by kernel_rfl) (by kernel_rfl) (KD.up wr B C m) ?_
        apply Exists.intro
        refine ⟨Or.inl ⟨rfl, fun W hW => ?hy⟩, ?_⟩
        case hy =>
          obtain ⟨hX, hB⟩ := hW
          go_simp
          exact RegionU.does_value rfl
        simp only [Act.put, List.setIfInBounds_toArray, List.set]
        refine wpU_taken (i := 16) rfl (by kernel_rfl) (by kernel_rfl) (by kernel_rfl) (KD.up wr B C m) ?_
        apply Exists.intro
        refine ⟨Or.inr ⟨rfl, rfl⟩, ?_⟩
        simp only [Act.put, List.setIfInBounds_toArray, List.set]
        refine wpU_taken (i := 17) rfl (by kernel_rfl) (by kernel_rfl) (by kernel_rfl) (KD.up wr B C m) ?_
        apply Exists.intro
        refine ⟨Or.inr ⟨rfl, rfl⟩, ?_⟩
        simp only [Act.put, List.setIfInBounds_toArray, List.set]
        refine wpU_taken (i := 18) rfl (by kernel_rfl) (by kernel_rfl) (by kernel_rfl) (KD.up wr B C m) ?_
        apply Exists.intro
        refine ⟨Or.inr ⟨rfl, rfl⟩, ?_⟩
        simp only [Act.put, List.setIfInBounds_toArray, List.set]
        refine wpU_taken (i := 19) rfl (by kernel_rfl) (by kernel_rfl) (by kernel_rfl) (KD.up wr B C m) ?_
        apply Exists.intro
        refine ⟨Or.inr ⟨rfl, rfl⟩, ?_⟩
        simp only [Act.put, List.setIfInBounds_toArray, List.set]
        refine wpU_taken (i := 20) rfl (by kernel_rfl) (by kernel_rfl) (by kernel_rfl) (KD.up wr B C m) ?_
        apply Exists.intro
        refine ⟨Or.inr ⟨rfl, rfl⟩, ?_⟩
        simp only [Act.put, List.setIfInBounds_toArray, List.set]
        refine wpU_taken (i := 21) rfl (by kernel_rfl) (by kernel_rfl) (by kernel_rfl) (KD.up wr B C m) ?_
        apply Exists.intro
        refine ⟨Or.inr ⟨rfl, rfl⟩, ?_⟩
        simp only [Act.put, List.setIfInBounds_toArray, List.set]
        refine wpU_taken (i := 22) rfl (by kernel_rfl) (by kernel_rfl) (by kernel_rfl) (KD.up wr B C m) ?_
        apply Exists.intro
        refine ⟨Or.inr ⟨rfl, rfl⟩, ?_⟩
        simp only [Act.put, List.setIfInBounds_toArray, List.set]
        refine wpU_taken (i := 23) rfl (by kernel_rfl) (by kernel_rfl) (by kernel_rfl) (KD.up wr B C m) ?_
        apply Exists.intro
        refine ⟨Or.inr ⟨rfl, rfl⟩, ?_⟩
        simp only [Act.put, List.setIfInBounds_toArray, List.set]
        refine wpU_taken (i := 24) rfl (by kernel_rfl) (by kernel_rfl) (by kernel_rfl) (KD.up wr B C m) ?_
        apply Exists.intro
        refine ⟨Or.inl ⟨rfl, fun W hW => ?hy⟩, ?_⟩
        case hy =>
          obtain ⟨hX, hB⟩ := hW
          go_simp
          exact RegionU.does_value rfl
        simp only [Act.put, List.setIfInBounds_toArray, List.set]
        refine wpU_done (by kernel_rfl) ?_
        rintro W ⟨-, hB⟩
        have HZW := Lib.hid (HZ3.out.below (HBR.out.trans (hB.mono HBR.out.size)))
        have HBW := Lib.hid ((HB3.out.trans (HBR.out.mono HB3.out.size)).trans (hB.mono (Nat.le_trans HB3.out.size HBR.out.size)))
        clear hB
        go_wp2_with (refine wpList_store_dfa rfl (.tmp 4) (.tmp 60) rfl rfl rfl HZW.out HZS.out HZS.out HZO.out ?_; simp only [Act.put])
        refine bodyPost_ret (res_kept rfl rfl rfl ((HZW.out).row _) HZS.out) rfl ⟨_, by rw [HE.out]; rfl, by rw [HKM.out]; exact zero_rk _ _ _, below_row HBW.out (by rw [HBB.out]; omega) _⟩
      have t2 : decide ((N : Int) ≤ x) = false := by simp; omega
      have HXB := Lib.hid (show 0 ≤ x ∧ x < (N : Int) by omega)
      by_cases hq : q = (j : Nat)
      case neg =>
        have t3 : (q == (j : Int)) = false := by simpa using hq
        have hng : ¬ Good m l := fun g => hq (HPF.out.2 (by
          have hp := g.once
          have e : l = l.take j ++ l.drop j := (List.take_append_drop j l).symm
          have ed : l.drop j = l.getD j 0 :: l.drop (j + 1) := by
            have hjl : j < l.length := by rw [← HLL.out]; exact HJ.out
            rw [List.drop_eq_getElem_cons hjl, List.getD_eq_getElem?_getD, List.getElem?_eq_getElem hjl]; rfl
          rw [e, List.nodup_append] at hp
          intro hm
          refine hp.2.2 _ hm x ?_ rfl
          rw [ed, ← HXE.out]
          exact List.mem_cons_self ..))
        have HE := Lib.hid (keptE_bad HK.out hng); have HKM := Lib.hid (keptM_bad hng)
        clear hng hq
        go_wp2_with fail
        refine wp_region_U (by kernel_rfl) (KD.up wr B C m) HD.out ?_
        refine wpU_taken (i := 0) rfl (by kernel_rfl) (by kernel_rfl) (by kernel_rfl) (KD.up wr B C m) ?_
        apply Exists.intro
        refine ⟨Or.inl ⟨rfl, fun W hW => ?hy⟩, ?_⟩
        case hy =>
          obtain ⟨hX, hB⟩ := hW
          go_simp
          exact RegionU.does_value rfl
        simp only [Act.put, List.setIfInBounds_toArray, List.set]
        refine wpU_taken (i := 1) rfl (by kernel_rfl) (by kernel_rfl) (by kernel_rfl) (KD.up wr B C m) ?_
        apply Exists.intro
        refine ⟨Or.inl ⟨rfl, fun W hW => ?hy⟩, ?_⟩
        case hy =>
          obtain ⟨hX, hB⟩ := hW
          go_simp
          exact RegionU.does_value rfl
        simp only [Act.put, List.setIfInBounds_toArray, List.set]
        refine wpU_taken (i := 2) rfl (by kernel_rfl) (by kernel_rfl) (by kernel_rfl) (KD.up wr B C m) ?_
        apply Exists.intro
        refine ⟨Or.inl ⟨rfl, fun W hW => ?hy⟩, ?_⟩
        case hy =>
          obtain ⟨hX, hB⟩ := hW
          go_simp
          exact RegionU.does_value rfl
        simp only [Act.put, List.setIfInBounds_toArray, List.set]
        refine wpU_taken (i := 3) rfl (by kernel_rfl) (by kernel_rfl) (by kernel_rfl) (KD.up wr B C m) ?_
        apply Exists.intro
        refine ⟨Or.inl ⟨rfl, fun W hW => ?hy⟩, ?_⟩
        case hy =>
          obtain ⟨hX, hB⟩ := hW
          have hc := HCE.out W hB
          go_simp
          exact RegionU.does_value rfl
        simp only [Act.put, List.setIfInBounds_toArray, List.set]
        refine wpU_taken (i := 4) rfl (by kernel_rfl) (by kernel_rfl) (by kernel_rfl) (KD.up wr B C m) ?_
        apply Exists.intro
        refine ⟨Or.inl ⟨rfl, fun W hW => ?hy⟩, ?_⟩
        case hy =>
          obtain ⟨hX, hB⟩ := hW
          go_simp
          exact RegionU.does_value rfl
        simp only [Act.put, List.setIfInBounds_toArray, List.set]
        refine wpU_taken (i := 5) rfl (by kernel_rfl) (by kernel_rfl) (by kernel_rfl) (KD.up wr B C m) ?_
        apply Exists.intro
        refine ⟨Or.inl ⟨rfl, fun W hW => ?hy⟩, ?_⟩
        case hy =>
          obtain ⟨hX, hB⟩ := hW
          go_simp
          exact RegionU.does_value rfl
        simp only [Act.put, List.setIfInBounds_toArray, List.set]
        refine wpU_taken (i := 6) rfl (by kernel_rfl) (by kernel_rfl) (by kernel_rfl) (KD.up wr B C m) ?_
        apply Exists.intro
        refine ⟨Or.inl ⟨rfl, fun W hW => ?hy⟩, ?_⟩
        case hy =>
          obtain ⟨hX, hB⟩ := hW
          go_simp
          exact RegionU.does_value rfl
        simp only [Act.put, List.setIfInBounds_toArray, List.set]
        refine wpU_taken (i := 7) rfl (by kernel_rfl) (by kernel_rfl) (by kernel_rfl) (KD.up wr B C m) ?_
        apply Exists.intro
        refine ⟨Or.inl ⟨rfl, fun W hW => ?hy⟩, ?_⟩
        case hy =>
          obtain ⟨hX, hB⟩ := hW
          go_simp
          exact RegionU.does_value rfl
        simp only [Act.put, List.setIfInBounds_toArray, List.set]
        refine wpU_taken (i := 8) rfl (by kernel_rfl) (by kernel_rfl) (by kernel_rfl) (KD.up wr B C m) ?_
        apply Exists.intro
        refine ⟨Or.inl ⟨rfl, fun W hW => ?hy⟩, ?_⟩
        case hy =>
          obtain ⟨hX, hB⟩ := hW
          go_simp
          exact RegionU.does_value rfl
        simp only [Act.put, List.setIfInBounds_toArray, List.set]
        refine wpU_taken (i := 9) rfl (by kernel_rfl) (by kernel_rfl) (by kernel_rfl) (KD.up wr B C m) ?_
        apply Exists.intro
        refine ⟨Or.inl ⟨rfl, fun W hW => ?hy⟩, ?_⟩
        case hy =>
          obtain ⟨hX, hB⟩ := hW
          have hc := HCE.out W hB
          go_simp
          exact RegionU.does_value rfl
        simp only [Act.put, List.setIfInBounds_toArray, List.set]
        refine wpU_taken (i := 10) rfl (by kernel_rfl) (by kernel_rfl) (by kernel_rfl) (KD.up wr B C m) ?_
        apply Exists.intro
        refine ⟨Or.inl ⟨rfl, fun W hW => ?hy⟩, ?_⟩
        case hy =>
          obtain ⟨hX, hB⟩ := hW
          go_simp
          exact RegionU.does_value rfl
        simp only [Act.put, List.setIfInBounds_toArray, List.set]
        refine wpU_taken (i := 11) rfl (by kernel_rfl) (by kernel_rfl) (by kernel_rfl) (KD.up wr B C m) ?_
        apply Exists.intro
        refine ⟨Or.inl ⟨rfl, fun W hW => ?hy⟩, ?_⟩
        case hy =>
          obtain ⟨hX, hB⟩ := hW
          have hc := HCL.out W hB
          go_simp
          exact RegionU.does_value rfl
        simp only [Act.put, List.setIfInBounds_toArray, List.set]
        refine wpU_taken (i := 12) rfl (by kernel_rfl) (by kernel_rfl) (by kernel_rfl) (KD.up wr B C m) ?_
        apply Exists.intro
        refine ⟨Or.inl ⟨rfl, fun W hW => ?hy⟩, ?_⟩
        case hy =>
          obtain ⟨hX, hB⟩ := hW
          go_simp
          exact RegionU.does_value rfl
        simp only [Act.put, List.setIfInBounds_toArray, List.set]
        refine wpU_taken (i := 13) rfl (by kernel_rfl) (by kernel_rfl) (by kernel_rfl) (KD.up wr B C m) ?_
        apply Exists.intro
        refine ⟨Or.inl ⟨rfl, fun W hW => ?hy⟩, ?_⟩
        case hy =>
          obtain ⟨hX, hB⟩ := hW
          go_simp
          exact RegionU.does_value rfl
        simp only [Act.put, List.setIfInBounds_toArray, List.set]
        refine wpU_taken (i := 14) rfl (by kernel_rfl) (by kernel_rfl) (by kernel_rfl) (KD.up wr B C m) ?_
        apply Exists.intro
        refine ⟨Or.inl ⟨rfl, fun W hW => ?hy⟩, ?_⟩
        case hy =>
          obtain ⟨hX, hB⟩ := hW
          go_simp
          exact RegionU.does_value rfl
        simp only [Act.put, List.setIfInBounds_toArray, List.set]
        refine wpU_taken (i := 15) rfl (by kernel_rfl) (by kernel_rfl) (by kernel_rfl) (KD.up wr B C m) ?_
        apply Exists.intro
        refine ⟨Or.inl ⟨rfl, fun W hW => ?hy⟩, ?_⟩
        case hy =>
          obtain ⟨hX, hB⟩ := hW
          go_simp
          exact RegionU.does_value rfl
        simp only [Act.put, List.setIfInBounds_toArray, List.set]
        refine wpU_taken (i := 16) rfl (by kernel_rfl) (by kernel_rfl) (by kernel_rfl) (KD.up wr B C m) ?_
        apply Exists.intro
        refine ⟨Or.inl ⟨rfl, fun W hW => ?hy⟩, ?_⟩
        case hy =>
          obtain ⟨hX, hB⟩ := hW
          go_simp
          exact RegionU.does_value rfl
        simp only [Act.put, List.setIfInBounds_toArray, List.set]
        refine wpU_taken (i := 17) rfl (by kernel_rfl) (by kernel_rfl) (by kernel_rfl) (KD.up wr B C m) ?_
        apply Exists.intro
        refine ⟨Or.inl ⟨rfl, fun W hW => ?hy⟩, ?_⟩
        case hy =>
          obtain ⟨hX, hB⟩ := hW
          go_simp
          exact RegionU.does_value rfl
        simp only [Act.put, List.setIfInBounds_toArray, List.set]
        refine wpU_taken (i := 18) rfl (by kernel_rfl) (by kernel_rfl) (by kernel_rfl) (KD.up wr B C m) ?_
        apply Exists.intro
        refine ⟨Or.inl ⟨rfl, fun W hW => ?hy⟩, ?_⟩
        case hy =>
          obtain ⟨hX, hB⟩ := hW
          go_simp
          exact RegionU.does_value rfl
        simp only [Act.put, List.setIfInBounds_toArray, List.set]
        refine wpU_taken (i := 19) rfl (by kernel_rfl) (by kernel_rfl) (by kernel_rfl) (KD.up wr B C m) ?_
        apply Exists.intro
        refine ⟨Or.inl ⟨rfl, fun W hW => ?hy⟩, ?_⟩
        case hy =>
          obtain ⟨hX, hB⟩ := hW
          go_simp
          exact RegionU.does_value rfl
        simp only [Act.put, List.setIfInBounds_toArray, List.set]
        refine wpU_taken (i := 20) rfl (by kernel_rfl) (by kernel_rfl) (by kernel_rfl) (KD.up wr B C m) ?_
        apply Exists.intro
        refine ⟨Or.inl ⟨rfl, fun W hW => ?hy⟩, ?_⟩
        case hy =>
          obtain ⟨hX, hB⟩ := hW
          have hc := HCE.out W hB
          go_simp
          exact RegionU.does_value rfl
        simp only [Act.put, List.setIfInBounds_toArray, List.set]
        refine wpU_taken (i := 21) rfl (by kernel_rfl) (by kernel_rfl) (by kernel_rfl) (KD.up wr B C m) ?_
        apply Exists.intro
        refine ⟨Or.inl ⟨rfl, fun W hW => ?hy⟩, ?_⟩
        case hy =>
          obtain ⟨hX, hB⟩ := hW
          go_simp
          exact RegionU.does_call (HPL.out W hB)
        simp only [Act.put, List.setIfInBounds_toArray, List.set]
        refine wpU_taken (i := 22) rfl (by kernel_rfl) (by kernel_rfl) (by kernel_rfl) (KD.up wr B C m) ?_
        apply Exists.intro
        refine ⟨Or.inl ⟨rfl, fun W hW => ?hy⟩, ?_⟩
        case hy =>
          obtain ⟨hX, hB⟩ := hW
          go_simp
          exact RegionU.does_value rfl
        simp only [Act.put, List.setIfInBounds_toArray, List.set]
        refine wpU_taken (i := 23) rfl (by kernel_rfl) (by kernel_rfl) (by kernel_rfl) (KD.up wr B C m) ?_
        apply Exists.intro
        refine ⟨Or.inl ⟨rfl, fun W hW => ?hy⟩, ?_⟩
        case hy =>
          obtain ⟨hX, hB⟩ := hW
          go_simp
          exact RegionU.does_value rfl
        simp only [Act.put, List.setIfInBounds_toArray, List.set]
        refine wpU_taken (i := 24) rfl (by kernel_rfl) (by kernel_rfl) (by kernel_rfl) (KD.up wr B C m) ?_
        apply Exists.intro
        refine ⟨Or.inl ⟨rfl, fun W hW => ?hy⟩, ?_⟩
        case hy =>
          obtain ⟨hX, hB⟩ := hW
          go_simp
          exact RegionU.does_value rfl
        simp only [Act.put, List.setIfInBounds_toArray, List.set]
        refine wpU_done (by kernel_rfl) ?_
        rintro W ⟨-, hB⟩
        have HZW := Lib.hid (HZ3.out.below (HBR.out.trans (hB.mono HBR.out.size)))
        have HBW := Lib.hid ((HB3.out.trans (HBR.out.mono HB3.out.size)).trans (hB.mono (Nat.le_trans HB3.out.size HBR.out.size)))
        clear hB
        go_wp2_with (refine wpList_store_dfa rfl (.tmp 4) (.tmp 60) rfl rfl rfl HZW.out HZS.out HZS.out HZO.out ?_; simp only [Act.put])
        refine bodyPost_ret (res_kept rfl rfl rfl ((HZW.out).row _) HZS.out) rfl ⟨_, by rw [HE.out]; rfl, by rw [HKM.out]; exact zero_rk _ _ _, below_row HBW.out (by rw [HBB.out]; omega) _⟩
      have HNI := Lib.hid (HPF.out.1 hq)
      subst hq
      go_wp2_with fail
      refine wp_region_U (by kernel_rfl) (KD.up wr B C m) HD.out ?_
      refine wpU_taken (i := 0) rfl (by kernel_rfl) (by kernel_rfl) (by kernel_rfl) (KD.up wr B C m) ?_
      apply Exists.intro
      refine ⟨Or.inl ⟨rfl, fun W hW => ?hy⟩, ?_⟩
      case hy =>
        obtain ⟨hX, hB⟩ := hW
        go_simp
        exact RegionU.does_value rfl
      simp only [Act.put, List.setIfInBounds_toArray, List.set]
      refine wpU_taken (i := 1) rfl (by kernel_rfl) (by kernel_rfl) (by kernel_rfl) (KD.up wr B C m) ?_
      apply Exists.intro
      refine ⟨Or.inl ⟨rfl, fun W hW => ?hy⟩, ?_⟩
      case hy =>
        obtain ⟨hX, hB⟩ := hW
        go_simp
        exact RegionU.does_value rfl
      simp only [Act.put, List.setIfInBounds_toArray, List.set]
      refine wpU_taken (i := 2) rfl (by kernel_rfl) (by kernel_rfl) (by kernel_rfl) (KD.up wr B C m) ?_
      apply Exists.intro
      refine ⟨Or.inl ⟨rfl, fun W hW => ?hy⟩, ?_⟩
      case hy =>
        obtain ⟨hX, hB⟩ := hW
        go_simp
        exact RegionU.does_value rfl
      simp only [Act.put, List.setIfInBounds_toArray, List.set]
      refine wpU_taken (i := 3) rfl (by kernel_rfl) (by kernel_rfl) (by kernel_rfl) (KD.up wr B C m) ?_
      apply Exists.intro
      refine ⟨Or.inl ⟨rfl, fun W hW => ?hy⟩, ?_⟩
      case hy =>
        obtain ⟨hX, hB⟩ := hW
        have hc := HCE.out W hB
        go_simp
        exact RegionU.does_value rfl
      simp only [Act.put, List.setIfInBounds_toArray, List.set]
      refine wpU_taken (i := 4) rfl (by kernel_rfl) (by kernel_rfl) (by kernel_rfl) (KD.up wr B C m) ?_
      apply Exists.intro
      refine ⟨Or.inl ⟨rfl, fun W hW => ?hy⟩, ?_⟩
      case hy =>
        obtain ⟨hX, hB⟩ := hW
        go_simp
        exact RegionU.does_value rfl
      simp only [Act.put, List.setIfInBounds_toArray, List.set]
      refine wpU_taken (i := 5) rfl (by kernel_rfl) (by kernel_rfl) (by kernel_rfl) (KD.up wr B C m) ?_
      apply Exists.intro
      refine ⟨Or.inl ⟨rfl, fun W hW => ?hy⟩, ?_⟩
      case hy =>
        obtain ⟨hX, hB⟩ := hW
        go_simp
        exact RegionU.does_value rfl
      simp only [Act.put, List.setIfInBounds_toArray, List.set]
      refine wpU_taken (i := 6) rfl (by kernel_rfl) (by kernel_rfl) (by kernel_rfl) (KD.up wr B C m) ?_
      apply Exists.intro
      refine ⟨Or.inl ⟨rfl, fun W hW => ?hy⟩, ?_⟩
      case hy =>
        obtain ⟨hX, hB⟩ := hW
        go_simp
        exact RegionU.does_value rfl
      simp only [Act.put, List.setIfInBounds_toArray, List.set]
      refine wpU_taken (i := 7) rfl (by kernel_rfl) (by kernel_rfl) (by kernel_rfl) (KD.up wr B C m) ?_
      apply Exists.intro
      refine ⟨Or.inl ⟨rfl, fun W hW => ?hy⟩, ?_⟩
      case hy =>
        obtain ⟨hX, hB⟩ := hW
        go_simp
        exact RegionU.does_value rfl
      simp only [Act.put, List.setIfInBounds_toArray, List.set]
      refine wpU_taken (i := 8) rfl (by kernel_rfl) (by kernel_rfl) (by kernel_rfl) (KD.up wr B C m) ?_
      apply Exists.intro
      refine ⟨Or.inl ⟨rfl, fun W hW => ?hy⟩, ?_⟩
      case hy =>
        obtain ⟨hX, hB⟩ := hW
        go_simp
        exact RegionU.does_value rfl
      simp only [Act.put, List.setIfInBounds_toArray, List.set]
      refine wpU_taken (i := 9) rfl (by kernel_rfl) (by kernel_rfl) (by kernel_rfl) (KD.up wr B C m) ?_
      apply Exists.intro
      refine ⟨Or.inl ⟨rfl, fun W hW => ?hy⟩, ?_⟩
      case hy =>
        obtain ⟨hX, hB⟩ := hW
        have hc := HCE.out W hB
        go_simp
        exact RegionU.does_value rfl
      simp only [Act.put, List.setIfInBounds_toArray, List.set]
      refine wpU_taken (i := 10) rfl (by kernel_rfl) (by kernel_rfl) (by kernel_rfl) (KD.up wr B C m) ?_
      apply Exists.intro
      refine ⟨Or.inl ⟨rfl, fun W hW => ?hy⟩, ?_⟩
      case hy =>
        obtain ⟨hX, hB⟩ := hW
        go_simp
        exact RegionU.does_value rfl
      simp only [Act.put, List.setIfInBounds_toArray, List.set]
      refine wpU_taken (i := 11) rfl (by kernel_rfl) (by kernel_rfl) (by kernel_rfl) (KD.up wr B C m) ?_
      apply Exists.intro
      refine ⟨Or.inl ⟨rfl, fun W hW => ?hy⟩, ?_⟩
      case hy =>
        obtain ⟨hX, hB⟩ := hW
        have hc := HCL.out W hB
        go_simp
        exact RegionU.does_value rfl
      simp only [Act.put, List.setIfInBounds_toArray, List.set]
      refine wpU_taken (i := 12) rfl (by kernel_rfl) (by kernel_rfl) (by kernel_rfl) (KD.up wr B C m) ?_
      apply Exists.intro
      refine ⟨Or.inl ⟨rfl, fun W hW => ?hy⟩, ?_⟩
      case hy =>
        obtain ⟨hX, hB⟩ := hW
        go_simp
        exact RegionU.does_value rfl
      simp only [Act.put, List.setIfInBounds_toArray, List.set]
      refine wpU_taken (i := 13) rfl (by kernel_rfl) (by kernel_rfl) (by kernel_rfl) (KD.up wr B C m) ?_
      apply Exists.intro
      refine ⟨Or.inl ⟨rfl, fun W hW => ?hy⟩, ?_⟩
      case hy =>
        obtain ⟨hX, hB⟩ := hW
        go_simp
        exact RegionU.does_value rfl
      simp only [Act.put, List.setIfInBounds_toArray, List.set]
      refine wpU_taken (i := 14) rfl (by kernel_rfl) (by kernel_rfl) (by kernel_rfl) (KD.up wr B C m) ?_
      apply Exists.intro
      refine ⟨Or.inl ⟨rfl, fun W hW => ?hy⟩, ?_⟩
      case hy =>
        obtain ⟨hX, hB⟩ := hW
        go_simp
        exact RegionU.does_value rfl
      simp only [Act.put, List.setIfInBounds_toArray, List.set]
      refine wpU_taken (i := 15) rfl (by kernel_rfl) (by kernel_rfl) (by kernel_rfl) (KD.up wr B C m) ?_
      apply Exists.intro
      refine ⟨Or.inl ⟨rfl, fun W hW => ?hy⟩, ?_⟩
      case hy =>
        obtain ⟨hX, hB⟩ := hW
        go_simp
        exact RegionU.does_value rfl
      simp only [Act.put, List.setIfInBounds_toArray, List.set]
      refine wpU_taken (i := 16) rfl (by kernel_rfl) (by kernel_rfl) (by kernel_rfl) (KD.up wr B C m) ?_
      apply Exists.intro
      refine ⟨Or.inl ⟨rfl, fun W hW => ?hy⟩, ?_⟩
      case hy =>
        obtain ⟨hX, hB⟩ := hW
        go_simp
        exact RegionU.does_value rfl
      simp only [Act.put, List.setIfInBounds_toArray, List.set]
      refine wpU_taken (i := 17) rfl (by kernel_rfl) (by kernel_rfl) (by kernel_rfl) (KD.up wr B C m) ?_
      apply Exists.intro
      refine ⟨Or.inl ⟨rfl, fun W hW => ?hy⟩, ?_⟩
      case hy =>
        obtain ⟨hX, hB⟩ := hW
        go_simp
        exact RegionU.does_value rfl
      simp only [Act.put, List.setIfInBounds_toArray, List.set]
      refine wpU_taken (i := 18) rfl (by kernel_rfl) (by kernel_rfl) (by kernel_rfl) (KD.up wr B C m) ?_
      apply Exists.intro
      refine ⟨Or.inl ⟨rfl, fun W hW => ?hy⟩, ?_⟩
      case hy =>
        obtain ⟨hX, hB⟩ := hW
        go_simp
        exact RegionU.does_value rfl
      simp only [Act.put, List.setIfInBounds_toArray, List.set]
      refine wpU_taken (i := 19) rfl (by kernel_rfl) (by kernel_rfl) (by kernel_rfl) (KD.up wr B C m) ?_
      apply Exists.intro
      refine ⟨Or.inl ⟨rfl, fun W hW => ?hy⟩, ?_⟩
      case hy =>
        obtain ⟨hX, hB⟩ := hW
        go_simp
        exact RegionU.does_value rfl
      simp only [Act.put, List.setIfInBounds_toArray, List.set]
      refine wpU_taken (i := 20) rfl (by kernel_rfl) (by kernel_rfl) (by kernel_rfl) (KD.up wr B C m) ?_
      apply Exists.intro
      refine ⟨Or.inl ⟨rfl, fun W hW => ?hy⟩, ?_⟩
      case hy =>
        obtain ⟨hX, hB⟩ := hW
        have hc := HCE.out W hB
        go_simp
        exact RegionU.does_value rfl
      simp only [Act.put, List.setIfInBounds_toArray, List.set]
      refine wpU_taken (i := 21) rfl (by kernel_rfl) (by kernel_rfl) (by kernel_rfl) (KD.up wr B C m) ?_
      apply Exists.intro
      refine ⟨Or.inl ⟨rfl, fun W hW => ?hy⟩, ?_⟩
      case hy =>
        obtain ⟨hX, hB⟩ := hW
        go_simp
        exact RegionU.does_call (HPL.out W hB)
      simp only [Act.put, List.setIfInBounds_toArray, List.set]
      refine wpU_taken (i := 22) rfl (by kernel_rfl) (by kernel_rfl) (by kernel_rfl) (KD.up wr B C m) ?_
      apply Exists.intro
      refine ⟨Or.inl ⟨rfl, fun W hW => ?hy⟩, ?_⟩
      case hy =>
        obtain ⟨hX, hB⟩ := hW
        go_simp
        exact RegionU.does_value rfl
      simp only [Act.put, List.setIfInBounds_toArray, List.set]
      refine wpU_taken (i := 23) rfl (by kernel_rfl) (by kernel_rfl) (by kernel_rfl) (KD.up wr B C m) ?_
      apply Exists.intro
      refine ⟨Or.inl ⟨rfl, fun W hW => ?hy⟩, ?_⟩
      case hy =>
        obtain ⟨hX, hB⟩ := hW
        go_simp
        exact RegionU.does_value rfl
      simp only [Act.put, List.setIfInBounds_toArray, List.set]
      refine wpU_taken (i := 24) rfl (by kernel_rfl) (by kernel_rfl) (by kernel_rfl) (KD.up wr B C m) ?_
      apply Exists.intro
      refine ⟨Or.inl ⟨rfl, fun W hW => ?hy⟩, ?_⟩
      case hy =>
        obtain ⟨hX, hB⟩ := hW
        go_simp
        exact RegionU.does_value rfl
      simp only [Act.put, List.setIfInBounds_toArray, List.set]
      refine wpU_done (by kernel_rfl) ?_
      rintro W ⟨-, hB⟩
      have HBW := Lib.hid (HBR.out.trans (hB.mono HBR.out.size))
      clear hB
      go_wp2_with fail
      refine ⟨⟨j + 1, HJ.out, rfl, ?_, ?_, HBW.out⟩, meas HJ.out⟩
      · rw [HTK.out]
        intro y hy
        rcases List.mem_append.1 hy with hy | hy
        · exact HBD.out y hy
        · rw [List.mem_singleton.1 hy]; exact HXB.out
      · intro i hi
        rcases Nat.lt_or_ge i j with h | h
        · exact HFI.out i h
        · obtain rfl : i = j := by omega
          rw [← HXE.out]; exact HNI.out
    · have htk : l.take j = l := List.take_of_length_le (by rw [← HLL.out]; omega)
      have hjl : j = l.length := by rw [← HLL.out]; omega
      have HB1 := Lib.hid (show ∀ x ∈ l, 0 ≤ x ∧ x < (N : Int) from fun x hx => HBD.out x (by rw [htk]; exact hx))
      have HNO := Lib.hid (nodup_firsts (l := l) fun i hi => HFI.out i (by omega))
      clear htk hjl
      have HKR := Lib.hid (HK0.out.below HBR.out)
      have HVZ := Lib.hid (HVW.out.below HB3.out)
      have HMZ := Lib.hid ((HM.out.up HN.out).below HB3.out)
      obtain ⟨i0, hi, hz0, hz1, hz2⟩ := info_parts info24r
      obtain ⟨i3, hi3, hz30, hz31, hz32⟩ := info_parts info3
      obtain ⟨X, hX⟩ : ∃ X, X = B + 1 + 1 := ⟨_, rfl⟩
      have HXB := Lib.hid hX
      obtain ⟨u, hu⟩ : ∃ u, u = Value.slice a3 m.nm.length c3 := ⟨_, rfl⟩
      rw [← hX, ← hu] at HKR
      rw [← hu] at HUN
      have HIA := Lib.hid HX3.out.is.isA
      clear hBr hX hu
      go_wp2_with fail
      rw [← HXB.out]
      go_loopw [8] (fun i wq => KeepL W0 X C m u l L i wq) (fun i _ => L - (intOf i).toNat)
      case atStart => exact ⟨0, nilS, nilS, Nat.zero_le _, rfl, HKR.out, fun x hx => by cases hx⟩
      case round =>
        obtain ⟨j, u1, u2, hj, rfl, hK, hcl⟩ := hrel
        have hbl : Below X W0 wr := hK.blow (Nat.le_refl _)
        have hbB : Below w.heap.size W0 wr := hbl.mono (by rw [HXB.out, HBB.out]; omega)
        have HKP := Lib.hid hK; have HCLO := Lib.hid hcl; have HBB2 := Lib.hid hbB
        clear hK hcl
        by_cases hjL : j < L
        · have hjl : j < l.length := by rw [← HLL.out]; exact hjL
          have HJ := Lib.hid hjL
          have hvz := HVZ.out.below hbB
          obtain ⟨_, _, e, _, _, hvj⟩ := hvz.open
          simp only [Value.slice.injEq] at e
          obtain ⟨rfl, hLe, rfl⟩ := e
          clear hLe
          obtain ⟨b', o', e, hb, hc⟩ := hvj j hjl
          simp only [Option.some.injEq, Addr.mk.injEq, and_true] at e
          obtain ⟨rfl, rfl⟩ := e
          have hs := HB1.out _ (getD_mem (d := 0) hjl)
          have HRS := Lib.hid (rowsTo_snoc m hjl); have HLS := Lib.hid (labsTo_snoc m hjl); have HTK := Lib.hid (takeI_snoc l hjl)
          obtain ⟨k, hk⟩ : ∃ k : Nat, l.getD j 0 = k := ⟨(l.getD j 0).toNat, by omega⟩
          have HKL := Lib.hid (show ((k : Nat) : Int) ∈ l by rw [← hk]; exact getD_mem hjl)
          rw [hk] at hc hs
          rw [hk, show ((k : Nat) : Int).toNat = k by omega] at HRS HLS
          rw [hk] at HTK
          have hkN : k < N := by omega
          have hkm : k < m.lb.length := by rw [← HNN.out]; exact hkN
          have hxr : Bx wr B C m := ⟨(hbl.block B (by rw [HXB.out]; omega)).trans HX3.out.ar, (HMZ.out.below hbB).up (Nat.le_trans HB3.out.size (by have := HKP.out.size; omega))⟩
          obtain ⟨v1, x1, hv1⟩ := hxr.nx
          obtain ⟨a1, c1, rfl, _, _, p3⟩ := hv1.open
          obtain ⟨b1, o1, vi, rfl, hb1, hc1, hrow⟩ := p3 k (by rw [HK.out.len]; exact hkm)
          rw [HK.out.len, ← HNN.out] at x1
          have hrw := HK.out.rws.2 k (by rw [HK.out.len]; exact hkm)
          obtain ⟨r, hr⟩ : ∃ r, r = m.nx.getD k [] := ⟨_, rfl⟩
          rw [← hr] at hrow hrw HRS
          obtain ⟨ar, cr, rfl, _, _, p4⟩ := hrow.open
          obtain ⟨R, hR⟩ : ∃ R, R = r.length := ⟨_, rfl⟩
          have hRw : m.wd = (R : Nat) := by rw [hR]; exact hrw.1.symm
          have hRi : (R : Int) ≤ 256 := by
            have h2 := HK.out.wd
            have h3 := rk_le (E := byKey m.of) 256
            omega
          rw [← hR] at hc1 p4
          have HROW := Lib.hid p4; have HRR := Lib.hid hR; have HRN := Lib.hid hr; have HKM := Lib.hid hkm
          have x5 := hxr.wd
          rw [hRw] at x5
          have HW := Lib.hid hRw
          have hbw := (Below.refl wr.heap.size wr).alloc (Nat.le_refl _) (.cells #[] 3)
          have HBW := Lib.hid hbw
          have HXR := Lib.hid hxr
          have HCE := Lib.hid (fun W (h : Below wr.heap.size wr W) => (h.cell (p := ⟨b, o + j, none⟩) (Nat.lt_of_lt_of_le hb (Nat.le_trans HB3.out.size (by have := HKP.out.size; omega)))).trans hc)
          have HCN := Lib.hid (fun W (h : Below wr.heap.size wr W) => (h.cell (p := ⟨B, 257, none⟩) hxr.ar.lt).trans x1)
          have HCR := Lib.hid (fun W (h : Below wr.heap.size wr W) => (h.cell (p := ⟨b1, o1 + k, none⟩) hb1).trans hc1)
          have HCW := Lib.hid (fun W (h : Below wr.heap.size wr W) => (h.cell (p := ⟨B, 256, none⟩) hxr.ar.lt).trans x5)
          have HCZ := Lib.hid (fun W (h : Below w.heap.size W0 W) => (h.cell (p := ⟨b, o + j, none⟩) hb).trans ((hbB.cell (p := ⟨b, o + j, none⟩) hb).symm.trans hc))
          have HVL := Lib.hid (hvz.up (Nat.le_trans HB3.out.size (by have := HKP.out.size; omega)))
          clear hvz hvj hs hk hxr hv1 p3 p4 hrow hrw hr hb hb1 hR hkm hj x1 x5 hc hc1 hRw hbw hbl hbB
          go_wp2_with fail
          obtain ⟨wq, rfl⟩ : ∃ wq, wq = wr := ⟨_, rfl⟩
          go_loopw [9, 10] (fun v i wi => RowL wq l r R v i wi) (fun _ i _ => R - (intOf i).toNat)
          case atStart => exact ⟨0, Nat.zero_le _, rfl, OI.empty wq, (fun x hx => by cases hx), HBW.out⟩
          case round =>
            obtain ⟨c, hc, rfl, ho, hcl, hbi⟩ := hrel
            have HO := Lib.hid ho; have HCI := Lib.hid hcl; have HBI := Lib.hid hbi
            have hcw := HCW.out _ hbi
            obtain ⟨ra, rc, rfl⟩ := own_form ho
            clear ho hcl hbi
            by_cases hcR : c < R
            · have HCC := Lib.hid hcR
              have hcr : c < r.length := by rw [← HRR.out]; exact hcR
              obtain ⟨b2, o2, rfl, hb2, hy2⟩ := HROW.out c hcR
              have HTS := Lib.hid (turn_snoc (l := l) hcr); have HTR := Lib.hid (takeI_snoc r hcr)
              obtain ⟨y, hy⟩ : ∃ y, y = r.getD c 0 := ⟨_, rfl⟩
              rw [← hy] at hy2 HTS HTR
              have HYM := Lib.hid (show y ∈ m.nx.getD k [] by rw [← HRN.out, hy]; exact getD_mem hcr)
              have HCY := Lib.hid (fun W (h : Below wq.heap.size wq W) => (h.cell (p := ⟨b2, o2 + c, none⟩) hb2).trans hy2)
              obtain ⟨q, hq⟩ : ∃ q, q = plc l y := ⟨_, rfl⟩
              have HQ := Lib.hid hq
              have HPL := Lib.hid (fun W (h : Below wq.heap.size wq W) => (place_any W (HVL.out.below h) y).mono fun e w' (z : e = .returned (.int .i64 (plc l y)) ∧ W = w') => And.intro (show e = .returned (.int .i64 q) by rw [hq]; exact z.1) (show Below W.heap.size W w' by rw [← z.2]; exact Below.refl _ _))
              have HDI := Lib.hid (KD.of (HXR.out.below HBI.out) (Below.refl _ _).drew)
              have HOD := Lib.hid HO.out
              clear hb2 hy2 hq hy hcr
              go_wp2_with fail
              refine wp_region_U (by kernel_rfl) (KD.up wr B C m) HDI.out ?_
              refine wpU_taken (i := 0) rfl (by kernel_rfl) (by kernel_rfl) (by kernel_rfl) (KD.up wr B C m) ?_
              apply Exists.intro
              refine ⟨Or.inl ⟨rfl, fun W hW => ?hy⟩, ?_⟩
              case hy =>
                obtain ⟨hX, hB0⟩ := hW; have hB := HBI.out.trans (hB0.mono HBI.out.size)
                go_simp
                exact RegionU.does_value rfl
              simp only [Act.put, List.setIfInBounds_toArray, List.set]
              refine wpU_taken (i := 1) rfl (by kernel_rfl) (by kernel_rfl) (by kernel_rfl) (KD.up wr B C m) ?_
              apply Exists.intro
              refine ⟨Or.inl ⟨rfl, fun W hW => ?hy⟩, ?_⟩
              case hy =>
                obtain ⟨hX, hB0⟩ := hW; have hB := HBI.out.trans (hB0.mono HBI.out.size)
                go_simp
                exact RegionU.does_value rfl
              simp only [Act.put, List.setIfInBounds_toArray, List.set]
              refine wpU_taken (i := 2) rfl (by kernel_rfl) (by kernel_rfl) (by kernel_rfl) (KD.up wr B C m) ?_
              apply Exists.intro
              refine ⟨Or.inl ⟨rfl, fun W hW => ?hy⟩, ?_⟩
              case hy =>
                obtain ⟨hX, hB0⟩ := hW; have hB := HBI.out.trans (hB0.mono HBI.out.size)
                have hc := HCN.out W hB
                go_simp
                exact RegionU.does_value rfl
              simp only [Act.put, List.setIfInBounds_toArray, List.set]
              refine wpU_taken (i := 3) rfl (by kernel_rfl) (by kernel_rfl) (by kernel_rfl) (KD.up wr B C m) ?_
              apply Exists.intro
              refine ⟨Or.inl ⟨rfl, fun W hW => ?hy⟩, ?_⟩
              case hy =>
                obtain ⟨hX, hB0⟩ := hW; have hB := HBI.out.trans (hB0.mono HBI.out.size)
                go_simp
                exact RegionU.does_value rfl
              simp only [Act.put, List.setIfInBounds_toArray, List.set]
              refine wpU_taken (i := 4) rfl (by kernel_rfl) (by kernel_rfl) (by kernel_rfl) (KD.up wr B C m) ?_
              apply Exists.intro
              refine ⟨Or.inl ⟨rfl, fun W hW => ?hy⟩, ?_⟩
              case hy =>
                obtain ⟨hX, hB0⟩ := hW; have hB := HBI.out.trans (hB0.mono HBI.out.size)
                go_simp
                exact RegionU.does_value rfl
              simp only [Act.put, List.setIfInBounds_toArray, List.set]
              refine wpU_taken (i := 5) rfl (by kernel_rfl) (by kernel_rfl) (by kernel_rfl) (KD.up wr B C m) ?_
              apply Exists.intro
              refine ⟨Or.inl ⟨rfl, fun W hW => ?hy⟩, ?_⟩
              case hy =>
                obtain ⟨hX, hB0⟩ := hW; have hB := HBI.out.trans (hB0.mono HBI.out.size)
                go_simp
                exact RegionU.does_value rfl
              simp only [Act.put, List.setIfInBounds_toArray, List.set]
              refine wpU_taken (i := 6) rfl (by kernel_rfl) (by kernel_rfl) (by kernel_rfl) (KD.up wr B C m) ?_
              apply Exists.intro
              refine ⟨Or.inl ⟨rfl, fun W hW => ?hy⟩, ?_⟩
              case hy =>
                obtain ⟨hX, hB0⟩ := hW; have hB := HBI.out.trans (hB0.mono HBI.out.size)
                have hc := HCE.out W hB
                go_simp
                exact RegionU.does_value rfl
              simp only [Act.put, List.setIfInBounds_toArray, List.set]
              refine wpU_taken (i := 7) rfl (by kernel_rfl) (by kernel_rfl) (by kernel_rfl) (KD.up wr B C m) ?_
              apply Exists.intro
              refine ⟨Or.inl ⟨rfl, fun W hW => ?hy⟩, ?_⟩
              case hy =>
                obtain ⟨hX, hB0⟩ := hW; have hB := HBI.out.trans (hB0.mono HBI.out.size)
                go_simp
                exact RegionU.does_value rfl
              simp only [Act.put, List.setIfInBounds_toArray, List.set]
              refine wpU_taken (i := 8) rfl (by kernel_rfl) (by kernel_rfl) (by kernel_rfl) (KD.up wr B C m) ?_
              apply Exists.intro
              refine ⟨Or.inl ⟨rfl, fun W hW => ?hy⟩, ?_⟩
              case hy =>
                obtain ⟨hX, hB0⟩ := hW; have hB := HBI.out.trans (hB0.mono HBI.out.size)
                have hc := HCR.out W hB
                go_simp
                exact RegionU.does_value rfl
              simp only [Act.put, List.setIfInBounds_toArray, List.set]
              refine wpU_taken (i := 9) rfl (by kernel_rfl) (by kernel_rfl) (by kernel_rfl) (KD.up wr B C m) ?_
              apply Exists.intro
              refine ⟨Or.inl ⟨rfl, fun W hW => ?hy⟩, ?_⟩
              case hy =>
                obtain ⟨hX, hB0⟩ := hW; have hB := HBI.out.trans (hB0.mono HBI.out.size)
                go_simp
                exact RegionU.does_value rfl
              simp only [Act.put, List.setIfInBounds_toArray, List.set]
              refine wpU_taken (i := 10) rfl (by kernel_rfl) (by kernel_rfl) (by kernel_rfl) (KD.up wr B C m) ?_
              apply Exists.intro
              refine ⟨Or.inl ⟨rfl, fun W hW => ?hy⟩, ?_⟩
              case hy =>
                obtain ⟨hX, hB0⟩ := hW; have hB := HBI.out.trans (hB0.mono HBI.out.size)
                go_simp
                exact RegionU.does_value rfl
              simp only [Act.put, List.setIfInBounds_toArray, List.set]
              refine wpU_taken (i := 11) rfl (by kernel_rfl) (by kernel_rfl) (by kernel_rfl) (KD.up wr B C m) ?_
              apply Exists.intro
              refine ⟨Or.inl ⟨rfl, fun W hW => ?hy⟩, ?_⟩
              case hy =>
                obtain ⟨hX, hB0⟩ := hW; have hB := HBI.out.trans (hB0.mono HBI.out.size)
                have hc := HCY.out W hB
                go_simp
                exact RegionU.does_value rfl
              simp only [Act.put, List.setIfInBounds_toArray, List.set]
              refine wpU_taken (i := 12) rfl (by kernel_rfl) (by kernel_rfl) (by kernel_rfl) (KD.up wr B C m) ?_
              apply Exists.intro
              refine ⟨Or.inl ⟨rfl, fun W hW => ?hy⟩, ?_⟩
              case hy =>
                obtain ⟨hX, hB0⟩ := hW; have hB := HBI.out.trans (hB0.mono HBI.out.size)
                go_simp
                exact RegionU.does_call (HPL.out W hB)
              simp only [Act.put, List.setIfInBounds_toArray, List.set]
              refine wpU_taken (i := 13) rfl (by kernel_rfl) (by kernel_rfl) (by kernel_rfl) (KD.up wr B C m) ?_
              apply Exists.intro
              refine ⟨Or.inl ⟨rfl, fun W hW => ?hy⟩, ?_⟩
              case hy =>
                obtain ⟨hX, hB0⟩ := hW; have hB := HBI.out.trans (hB0.mono HBI.out.size)
                go_simp
                exact RegionU.does_value rfl
              simp only [Act.put, List.setIfInBounds_toArray, List.set]
              refine wpU_done (by kernel_rfl) ?_
              rintro W ⟨-, hB⟩
              have HOW := Lib.hid (HO.out.below hB)
              have HBQ := Lib.hid (HBI.out.trans (hB.mono HBI.out.size))
              clear hB
              by_cases hyl : y ∈ l
              case neg =>
                obtain rfl : q = -1 := by rw [HQ.out]; exact plc_out hyl
                have hng : ¬ Good m l := fun g => hyl (by
                  have hm := HKL.out
                  have := g.closed _ hm y
                  rw [show ((k : Nat) : Int).toNat = k by omega] at this
                  exact this HYM.out)
                have HE := Lib.hid (keptE_bad HK.out hng); have HKM2 := Lib.hid (keptM_bad hng)
                have HZW := Lib.hid (Ar.below (((HKP.out.blow (Nat.le_refl _)).block (B + 1) (by rw [HXB.out]; omega)).trans HZ3.out) HBQ.out)
                have HBW2 := Lib.hid ((HB3.out.trans HBB2.out).trans (HBQ.out.mono (Nat.le_trans HB3.out.size HKP.out.size)))
                clear hng hyl
                go_wp2_with (refine wpList_store_dfa rfl (.tmp 4) (.tmp 89) rfl rfl rfl HZW.out HZS.out HZS.out HZO.out ?_; simp only [Act.put])
                refine bodyPost_ret (res_kept rfl rfl rfl ((HZW.out).row _) HZS.out) rfl ⟨_, by rw [HE.out]; rfl, by rw [HKM2.out]; exact zero_rk _ _ _, below_row HBW2.out (by rw [HBB.out]; omega) _⟩
              have hqe : q = ((l.idxOf y : Nat) : Int) := by rw [HQ.out]; exact plc_in hyl
              have hts := HTS.out
              obtain ⟨p, hp⟩ : ∃ p : Nat, p = l.idxOf y := ⟨_, rfl⟩
              rw [← hp] at hqe
              rw [show ((l.idxOf y : Nat) : Int) = (p : Int) by rw [hp]] at hts
              subst hqe
              have HTS2 := Lib.hid hts
              have HYL := Lib.hid hyl
              have t9 : decide (((p : Nat) : Int) < 0) = false := by simp
              have HO2 := Lib.hid (HOW.out.below ((Below.refl W.heap.size W).alloc (Nat.le_refl _) (.cells #[.int .i64 (p : Int)] 3)))
              have HTL := Lib.hid (show (turnL l (r.take c)).length + 1 ≤ 257 by unfold turnL; rw [List.length_map, List.length_take]; omega)
              have HBQ2 := Lib.hid (HBQ.out.trans (((Below.refl W.heap.size W).alloc (Nat.le_refl _) (.cells #[.int .i64 (p : Int)] 3)).mono HBQ.out.size))
              clear hts hp hyl HQ HTS HPL HDI HOD HCY
              go_wp2_with (at_builtin; refine wpList_append_int rfl (.tmp 90) (.tmp 92) rfl rfl HO2.out HBQ2.out.size ⟨W.heap.size, 0, none⟩ 1 (p : Int) rfl (by rw [World.cell?_alloc_new]; rfl) rfl (by have := HTL.out; omega) ?_; intro v' w3 hO3 hb3; have HO3 := Lib.hid hO3; have HB3x := Lib.hid hb3; obtain ⟨a3, c3, rfl, _, _⟩ := hO3.len; clear hO3 hb3)
              refine ⟨⟨c + 1, HCC.out, rfl, by rw [HTS2.out]; have := HO3.out; rw [List.length_append] at this; exact this, ?_, HBQ2.out.trans HB3x.out⟩, meas HCC.out⟩
              rw [HTR.out]
              intro z hz
              rcases List.mem_append.1 hz with hz | hz
              · exact HCI.out z hz
              · rw [List.mem_singleton.1 hz]; exact HYL.out
            · have htk : r.take c = r := List.take_of_length_le (by rw [← HRR.out]; omega)
              rw [htk] at HO HCI ⊢
              have hRl : (turnL l r).length = R := by rw [HRR.out]; simp [turnL]
              obtain ⟨M, hMM⟩ : ∃ M, M = turnL l r := ⟨_, rfl⟩
              rw [← hMM] at HO hRl HRS ⊢
              have HKA := Lib.hid (HKP.out.below HBI.out)
              have hlen := rowsTo_len m (l := l) (j := j) (by have := HJ.out; rw [← HLL.out]; omega)
              obtain ⟨vs, hown1, hvs⟩ := HKA.out.o1
              have ho2 := HKA.out.o2
              obtain ⟨x1a, x1c, hu1⟩ := own_form hown1
              obtain ⟨x2a, x2c, hu2⟩ := own_form ho2
              rw [hlen.1] at hu1 hown1
              rw [hlen.2] at hu2
              subst hu1 hu2
              have HOWN := Lib.hid hown1; have HVS := Lib.hid hvs; have HLEN := Lib.hid hlen
              have HHA := Lib.hid HIA.out.size
              have hx1 := (HKA.out.at HHA.out).1
              have HKB := Lib.hid (HKA.out.below ((Below.refl _ wr).alloc (Nat.le_refl _) (.cells #[.slice ra M.length rc] 24)))
              have HOW := Lib.hid (own_keep (w' := wr.alloc (.cells #[.slice ra M.length rc] 24)) hown1 fun g hg => ((Below.refl wr.heap.size wr).alloc (Nat.le_refl _) _).block g (own_at hown1 hg).2.2)
              have HBASE := Lib.hid (show W0.heap.size ≤ (wr.alloc (.cells #[.slice ra M.length rc] 24)).heap.size by have := HKA.out.base; rw [World.size_alloc]; omega)
              have hj6 : j ≤ 65536 := by
                have h1 := pl_len (N := N) (l := l) ⟨HF.out, HB1.out, HNO.out⟩
                have := HJ.out; rw [← HLL.out] at h1; omega
              have HML := Lib.hid (show M.length ≤ 65536 by rw [hRl]; omega)
              have HMT := Lib.hid hMM; have HC2 := Lib.hid (show ∀ y ∈ r, y ∈ l from HCI.out)
              have HRI := Lib.hid (own_base HO.out HKP.out.base)
              have HRD := Lib.hid (show ∀ g, (Value.slice ra M.length rc).ownBlock = some g → wq.heap.size ≤ g from fun g e => (own_at HO.out e).2.1)
              clear hMM hlen hown1 hvs ho2 hRl htk
              go_wp2_with (at_builtin; refine wpList_append_own _ rfl (.tmp 95) (.tmp 97) 23 rfl W0.heap.size 24 i0 (.slice none 0 0) 1 24 Try.underlying23 hi hz0 hz1 hz2 rfl (by decide) _ _ _ rfl HOW.out ⟨wr.heap.size, 0, none⟩ 1 1 [.slice ra M.length rc] rfl rfl (cell_one_new _ _ _) (by simp [Value.oneCell']) (by unfold maxLen; omega) (by omega) HBASE.out ?_; intro v' w' hown' hgrow _; obtain ⟨g', cap', rfl⟩ := ownsRow_succ hown'; have HO' := Lib.hid hown'; have HG' := Lib.hid hgrow; obtain ⟨⟨yx, hyx⟩, hfx⟩ := HKB.out.grown1 HHA.out hgrow; clear hown' hgrow)
              have HKD := Lib.hid (HKB.out.row HHA.out (M := M) (fun i hi => by obtain ⟨vi, h1, h2, h3⟩ := HVS.out i hi; exact ⟨vi, h1, h2.below ((Below.refl _ wr).alloc (Nat.le_refl _) _), h3⟩) (show _ from by rw [HLEN.out.1]; exact HOW.out) (OI.below HRI.out ((Below.refl _ wr).alloc (Nat.le_refl _) _)) (fun gq hq e => by
                have h1 := (own_at HKP.out.o2 e).2.2
                have h2 := HRD.out gq hq
                omega) (show _ from by rw [HLEN.out.1]; exact HO'.out) HG'.out)
              rw [← HRS.out] at HKD
              have hBd : Below X W0 (w'.setCell ⟨X, 257, none⟩ (.slice (some ⟨g', 0, none⟩) (j + 1) cap')) := HKD.out.blow (Nat.le_refl _)
              obtain ⟨wd, hwd⟩ : ∃ wd, wd = (w'.setCell ⟨X, 257, none⟩ (.slice (some ⟨g', 0, none⟩) (j + 1) cap')) := ⟨_, rfl⟩
              rw [← hwd] at HKD hBd ⊢
              have hBw : Below w.heap.size W0 wd := hBd.mono (by rw [HXB.out, HBB.out]; omega)
              have hxd : Bx wd B C m := ⟨(hBd.block B (by rw [HXB.out]; omega)).trans HX3.out.ar, (HMZ.out.below hBw).up (Nat.le_trans HB3.out.size HKD.out.size)⟩
              have hlj := HCZ.out wd hBw
              clear hBd hwd HG' HO' HOW HOWN HVS HKB HKA hyx hfx hx1 hcw
              have hx2 := (HKD.out.at HHA.out).2
              obtain ⟨v3', x3', hv3'⟩ := hxd.lb
              obtain ⟨a3', c3', rfl, _, _, q3⟩ := hv3'.open
              obtain ⟨b3, o3, rfl, hb3, hc3⟩ := q3 k HKM.out
              rw [← HNN.out] at x3'
              obtain ⟨y, hy⟩ : ∃ y, y = m.lb.getD k 0 := ⟨_, rfl⟩
              rw [← hy] at hc3 HLS
              have HOI := Lib.hid (HKD.out.o2.below ((Below.refl _ wd).alloc (Nat.le_refl _) (.cells #[.int .i64 y] 3)))
              have hlen2 := (rowsTo_len m (l := l) (j := j) (by have := HJ.out; rw [← HLL.out]; omega)).2
              have HL2 := Lib.hid hlen2
              have HKE := Lib.hid (HKD.out.below (((Below.refl _ wd).alloc (Nat.le_refl _) (.cells #[.int .i64 y] 3)).drew))
              have HBS2 := Lib.hid (show W0.heap.size ≤ (wd.alloc (.cells #[.int .i64 y] 3)).drew.heap.size by have := HKD.out.base; show _ ≤ (wd.alloc _).heap.size; rw [World.size_alloc]; omega)
              have hbw := (Below.refl wd.heap.size wd).alloc (Nat.le_refl _) (.cells #[.int .i64 y] 3)
              have hx2a := (hbw.cell (p := ⟨X, 258, none⟩) HKD.out.box.lt).trans hx2
              clear hbw
              clear hxd hv3' q3 hb3 hy hlen2 hBw
              have HCN := Lib.hid (show ∀ x ∈ l.take (j + 1), ∀ y ∈ m.nx.getD x.toNat [], y ∈ l from by
                rw [HTK.out]
                intro x hx y hy
                rcases List.mem_append.1 hx with hx | hx
                · exact HCLO.out x hx y hy
                · rw [List.mem_singleton.1 hx, show ((k : Nat) : Int).toNat = k by omega, ← HRN.out] at hy
                  exact HC2.out y hy)
              go_region_law (refine step_append_lies _ rfl (.tmp 101) (.tmp 110) 24 rfl W0.heap.size 3 i3 (.int .i64 0) 1 8 Try.underlying24 hi3 hz30 hz31 hz32 rfl (by decide) (.slice x2a j x2c) j ((labsTo m l j).map (Value.int .i64)) (by simp only [List.getElem_toArray, List.getElem_cons_succ, List.getElem_cons_zero, Act.put, List.setIfInBounds_toArray, List.set_cons_succ, List.set_cons_zero, Act.eval]; rfl) (by have := HOI.out; unfold OI at this; rw [HL2.out] at this; exact this.drew) ⟨wd.heap.size, 0, none⟩ 1 1 [.int .i64 y] (by simp only [List.getElem_toArray, List.getElem_cons_succ, List.getElem_cons_zero, Act.put, List.setIfInBounds_toArray, List.set_cons_succ, List.set_cons_zero, Act.eval]; rfl) rfl (cell_one_new _ _ _) (by simp [Value.oneCell']) (by decide) (by unfold maxLen; omega) (by omega) HBS2.out (wd.heap.size + 1) (by simp) ?_; intro g5 cap5 w5 hown5 hgrow5 hat5 hlt5; obtain ⟨⟨yx5, hyx5⟩, hfx5⟩ := HKE.out.grown2 HHA.out hgrow5; have HOWN5 := Lib.hid hown5; have HGROW5 := Lib.hid hgrow5; have HAT5 := Lib.hid hat5; clear hown5 hgrow5 hat5)
              all_goals
                try simp only [List.getElem_toArray, List.getElem_cons_succ, List.getElem_cons_zero, Act.put, List.setIfInBounds_toArray, List.set_cons_succ, List.set_cons_zero]
                go_wp2_with fail
                refine ⟨⟨j + 1, .slice (some ⟨g', 0, none⟩) (j + 1) cap', .slice (some ⟨g5, 0, none⟩) (j + 1) cap5, HJ.out, rfl, ?_, HCN.out⟩, meas HJ.out⟩
                rw [HLS.out]
                refine HKE.out.lab HHA.out (by unfold OI; rw [List.length_append, HL2.out, List.map_append]; exact HOWN5.out) HGROW5.out (fun q e => ?_)
                have e : g5 = q := by simpa [Value.ownBlock] using e
                subst e
                rcases HAT5.out with h | h
                · exact .inl h
                · right
                  show (wd.alloc (.cells #[.int .i64 y] 3)).heap.size ≤ g5
                  rw [World.size_alloc, h]
                  exact Nat.le_refl _
        · have hjl : j = L := by omega
          have htk : l.take j = l := List.take_of_length_le (by rw [← HLL.out]; omega)
          have hgood : Good m l := ⟨HF.out, by rw [← HNN.out]; exact HB1.out, HNO.out, fun x hx => HCLO.out x (by rw [htk]; exact hx)⟩
          have hkm : (⟨m.of, m.wd, rowsTo m l j, labsTo m l j, m.nm⟩ : Mc) = keepM m l := by unfold rowsTo labsTo keepM; rw [htk]
          have HE := Lib.hid (keptE_yes HK.out hgood); have HKM2 := Lib.hid (keptM_yes HK.out hgood)
          have HEQ := Lib.hid hkm
          have HHA := Lib.hid HIA.out.size
          have HTS := Lib.hid (show TS n wr u m.nm from HUN.out.below ((HB3.out.mono HN.out).trans (HBB2.out.mono HN.out)))
          have HSZ := Lib.hid (mkC_size HHA.out (.int .i64 m.wd) u1 u2 u)
          have hnw : n ≤ wr.heap.size := Nat.le_trans HN.out (Nat.le_trans HB3.out.size HKP.out.size)
          have HRK := Lib.hid (HKP.out.rk HIA.out HX3.out.is.oflt HTS.out hnw (Nat.le_refl _))
          have HON2 := Lib.hid HRK.out.is.one
          have HZR := Lib.hid (Ar.below (hbl.block (B + 1) (by rw [HXB.out]; omega) |>.trans HZ3.out) (Below.refl _ _))
          have HBW := Lib.hid (HB3.out.trans HBB2.out)
          clear htk hgood hkm hbl hbB hjL hnw
          go_wp2_with (first | (refine wpList_load_box rfl 27 (.tmp 6) rfl rfl HKP.out.box Try.underlying27 rfl (by rw [HSZ.out]; exact infoD) ?_) | (refine wpList_store_dfa rfl (.tmp 4) (.tmp 113) rfl (by rfl) (by rfl) HZR.out HZS.out HSZ.out HON2.out ?_; simp only [Act.put]))
          refine bodyPost_ret (res_kept rfl rfl rfl ((HZR.out).row _) HSZ.out) rfl ⟨_, by rw [HE.out]; rfl, ?_, below_row HBW.out (by rw [HBB.out]; omega) _⟩
          rw [HKM2.out, ← HEQ.out]
          have hlt := HKP.out.lt
          refine (HRK.out.row (b := B + 1) (by have := HN.out; rw [HBB.out]; omega) (by rw [HXB.out] at hlt; omega) _).mono HB3.out.size
end Go.Proofs.Ytkghnjgioijgpaa.DfaW
namespace Go.Proofs.Ytkghnjgioijgpaa.DfaW
set_option linter.unusedVariables false
set_option linter.unusedSimpArgs false
open Go.Proofs.Ytkghnjgioijgpaa.RegionU (Up wpU_taken wpU_one wpU_mono wpU_done wp_region_U does wpS_taken wpS_takenY wpS_one wpS_two wpS_done wpS_have wp_region_S)
open Go.RowKit Go.Maps Go.Proofs.Ytkghnjgioijgpaa.PartM Go.Proofs.Ytkghnjgioijgpaa.PartW Go.Proofs.Ytkghnjgioijgpaa.DfaM
/-- A machine that reads neither between n and lo, nor at X. -/
def RkX (n lo X : Nat) (w : World) (D : Array Value) (m : Mc) : Prop := ∀ w'' : World, w.heap.size ≤ w''.heap.size → (∀ k, (k < n ∨ lo ≤ k) → k ≠ X → k < w.heap.size → w''.heap[k]? = w.heap[k]?) → IsM w''.heap.size w'' D m
theorem RkX.next {n lo X : Nat} {w w' : World} {D : Array Value} {m : Mc} (h : RkX n lo X w D m) (hb : Below w.heap.size w w') : RkX n lo X w' D m := fun w'' h1 h2 => h w'' (Nat.le_trans hb.size h1) fun k k1 k3 k2 => (h2 k k1 k3 (Nat.lt_of_lt_of_le k2 hb.size)).trans (hb.block k k2)
theorem RkX.row {n lo X : Nat} {w : World} {D : Array Value} {m : Mc} (h : RkX n lo X w D m) (E : Array Value) : Rk n lo (w.setRow X E) D m := fun w'' h1 h2 => h w'' (by rw [size_row] at h1; exact h1) fun k k1 k3 k2 => (h2 k k1 (by rw [size_row]; exact k2)).trans (heap_row _ _ _ (fun e => k3 e))
theorem Rk.x {n lo hi X : Nat} {w : World} {D : Array Value} {m : Mc} (h : Rk n hi w D m) (h1 : lo ≤ hi) (h2 : X < hi) (h3 : n ≤ X) : RkX n lo X w D m := fun w'' k1 k2 => h w'' k1 fun k j1 j2 => k2 k (j1.elim .inl fun j => .inr (Nat.le_trans h1 j)) (by omega) j2
theorem Rk.x2 {n lo : Nat} {w : World} {D : Array Value} {m : Mc} (h : Rk n lo w D m) (o : Obj) : RkX n lo w.heap.size (w.alloc o) D m := fun w'' k1 k2 => h w'' (by rw [World.size_alloc] at k1; omega) fun k j1 j2 => (k2 k j1 (by omega) (by rw [World.size_alloc]; omega)).trans (((Below.refl w.heap.size w).alloc (Nat.le_refl _) o).block k j2)
/-- What is known once both are made: the machine, and a box for it. -/
def FT (n : Nat) (W0 : World) (m : Mc) (R : List Int) (k : Int) (u v : Value) (W : World) : Prop := ∃ (D : Array Value) (X : Nat), u = .tuple #[.agg D, .int .i64 k] ∧ v = .pointer (some ⟨X, 0, none⟩) ∧ Ar W X Try.zeroCells27 27 ∧ W0.heap.size ≤ X ∧ RkX n W0.heap.size X W D (keptM m R)
theorem FT.up (n : Nat) (W0 : World) (m : Mc) (R : List Int) (k : Int) (u v : Value) : Up (FT n W0 m R k u v) := fun W W' ⟨D, X, h1, h2, h3, h4, h5⟩ hr => ⟨D, X, h1, h2, h3.below hr, h4, h5.next hr⟩
def KT2 (n : Nat) (W0 : World) (m : Mc) (R : List Int) (k : Int) (u : Value) (W : World) : Prop := ∃ D, u = .tuple #[.agg D, .int .i64 k] ∧ Rk n W0.heap.size W D (keptM m R)
theorem KT2.up (n : Nat) (W0 : World) (m : Mc) (R : List Int) (k : Int) (u : Value) : Up (KT2 n W0 m R k u) := fun W W' ⟨D, h1, h2⟩ hr => ⟨D, h1, h2.next hr⟩
set_option maxRecDepth 100000 in
set_option maxHeartbeats 4000000 in
theorem refTrim_any {C : Array Value} {m : Mc} {n : Nat} (w : World) (hm : IsM n w C m) (hn : n ≤ w.heap.size) (hk : Ok m) :
    Calls Try.prog 30 #[.agg C] w fun e w' => ∃ D, e = .returned (.agg D) ∧ Rk n w.heap.size w' D (keptM m (castL (reachL m))) ∧ Below w.heap.size w w' := by
  have h := hm.up hn
  have hx := (Bx.new h).alloc (.cells Try.zeroCells27 27)
  have hz : Ar ((w.alloc (.cells C 27)).alloc (.cells Try.zeroCells27 27)) (w.heap.size + 1) Try.zeroCells27 27 := by
    have := Ar.new (w.alloc (.cells C 27)) Try.zeroCells27 27
    rw [World.size_alloc] at this; exact this
  have hb0 : Below w.heap.size w ((w.alloc (.cells C 27)).alloc (.cells Try.zeroCells27 27)) := ((Below.refl _ _).alloc (Nat.le_refl _) _).alloc (by simp) _
  have hs0 : ((w.alloc (.cells C 27)).alloc (.cells Try.zeroCells27 27)).heap.size = w.heap.size + 2 := by simp
  obtain ⟨R, hR⟩ : ∃ R, R = castL (reachL m) := ⟨_, rfl⟩
  have H1 := Lib.hid (fun W (h : IsM W.heap.size W C m) => by have := refReach_any W h hk; rw [← hR] at this; exact this)
  obtain ⟨k, hkk⟩ : ∃ k, k = keptE m R := ⟨_, rfl⟩
  have H2 := Lib.hid (fun W u (h : IsM n W C m) (h2 : n ≤ W.heap.size) (hu : IS W.heap.size W u R) => by have := refKeep_any W h h2 hk hu; rw [← hkk] at this; exact this)
  rw [← hR]
  have HX := Lib.hid hx; have HZ := Lib.hid hz; have HB0 := Lib.hid hb0; have HS0 := Lib.hid hs0; have HZS := Lib.hid zc_size; have HM := Lib.hid (hm.below (hb0.mono hn)); have HN := Lib.hid hn
  clear hx hz hb0 hs0 h hR hkk hm hn hk
  go_enter Try.func30, Try.ntmps30
  go_wp2_with fail
  obtain ⟨B, hB⟩ : ∃ B, B = w.heap.size := ⟨_, rfl⟩
  have HBB := Lib.hid hB
  generalize (w.alloc (.cells C 27)).alloc (.cells Try.zeroCells27 27) = W0 at *
  rw [← hB] at HX HZ HS0 ⊢
  have HNW := Lib.hid (show n ≤ W0.heap.size by rw [HS0.out, hB]; have := HN.out; omega)
  clear hB
  have HD := Lib.hid (KD.of HX.out (Below.refl _ _).drew)
  refine wp_region_S 8 2 (by kernel_rfl) (by kernel_rfl) (KD.up W0 B C m) HD.out ?_
  refine wpS_taken (i := 0) rfl (by kernel_rfl) (by kernel_rfl) (by kernel_rfl) (by kernel_rfl) (KD.up W0 B C m) ?_
  apply Exists.intro
  refine ⟨Or.inl ⟨rfl, fun W hW => ?hy⟩, ?_⟩
  case hy =>
    obtain ⟨hX, hB⟩ := hW
    exact does_eq (run_load_dfa (.tmp 1) rfl rfl hX)
  simp only [Act.put, List.setIfInBounds_toArray, List.set]
  refine wpS_taken (i := 1) rfl (by kernel_rfl) (by kernel_rfl) (by kernel_rfl) (by kernel_rfl) (KD.up W0 B C m) ?_
  apply Exists.intro
  refine ⟨Or.inl ⟨rfl, fun W hW => ?hy⟩, ?_⟩
  case hy =>
    obtain ⟨hX, hB⟩ := hW
    exact does_eq (run_load_dfa (.tmp 1) rfl rfl hX)
  simp only [Act.put, List.setIfInBounds_toArray, List.set]
  refine wpS_two (i := 2) (j := 7) (by kernel_rfl) (by kernel_rfl) (by kernel_rfl) rfl rfl rfl rfl (OT W0.heap.size R) (BxT W0) (OT.up _ _) (BxT.up _) (fun W hW => ?y1a) (fun W hW => ?y2a) ?h1a ?h2a
  case y1a =>
    obtain ⟨hX, hB⟩ := hW
    go_simp
    exact does_in ((H1.out W hX.is).mono fun e w' ⟨v, h, ho, hb⟩ => ⟨v, h, owns_base ho hB.size, hb⟩)
  case y2a =>
    obtain ⟨hX, hB⟩ := hW
    go_simp
    exact RegionU.does_made (BxT.new hB.size) ((Below.refl _ _).alloc (Nat.le_refl _) _)
  case h1a =>
    intro u2
    simp only [Act.put, List.setIfInBounds_toArray, List.set]
    refine wpS_two (i := 3) (j := 7) (by kernel_rfl) (by kernel_rfl) (by kernel_rfl) rfl rfl rfl rfl (KT2 n W0 m R k) (BxT W0) (KT2.up _ _ _ _ _) (BxT.up _) (fun W hW => ?y1b) (fun W hW => ?y2b) ?h1b ?h2b
    case y1b =>
      obtain ⟨⟨hX, hB⟩, h1⟩ := hW
      go_simp
      exact does_in ((H2.out W _ (HM.out.below (hB.mono HNW.out)) (Nat.le_trans HNW.out hB.size) (OI.is h1)).mono fun e w' ⟨D, h, hd, hb⟩ => ⟨_, h, ⟨D, rfl, hd.mono hB.size⟩, hb⟩)
    case y2b =>
      obtain ⟨⟨hX, hB⟩, h1⟩ := hW
      go_simp
      exact RegionU.does_made (BxT.new hB.size) ((Below.refl _ _).alloc (Nat.le_refl _) _)
    case h1b =>
      intro u3
      simp only [Act.put, List.setIfInBounds_toArray, List.set]
      refine wpS_have (p := ∃ D, u3 = .tuple #[.agg D, .int .i64 k]) (fun W hW => ?_) ?_
      · obtain ⟨⟨⟨hX, hB⟩, h1⟩, hf⟩ := hW
        first | (obtain ⟨D, X, h, _⟩ := hf; exact ⟨D, h⟩) | (obtain ⟨D, h, _⟩ := hf; exact ⟨D, h⟩)
      rintro ⟨D, rfl⟩
      refine wpS_taken (i := 4) rfl (by kernel_rfl) (by kernel_rfl) (by kernel_rfl) (by kernel_rfl) (((KD.up W0 B C m).and (OT.up _ _ u2)).and (KT2.up _ _ _ _ _ (Value.tuple #[.agg D, .int .i64 k]))) ?_
      apply Exists.intro
      refine ⟨Or.inl ⟨rfl, fun W hW => ?hy⟩, ?_⟩
      case hy =>
        obtain ⟨⟨⟨hX, hB⟩, h1⟩, hf⟩ := hW
        go_simp
        exact RegionU.does_value rfl
      simp only [Act.put, List.setIfInBounds_toArray, List.set]
      refine wpS_taken (i := 5) rfl (by kernel_rfl) (by kernel_rfl) (by kernel_rfl) (by kernel_rfl) (((KD.up W0 B C m).and (OT.up _ _ u2)).and (KT2.up _ _ _ _ _ (Value.tuple #[.agg D, .int .i64 k]))) ?_
      apply Exists.intro
      refine ⟨Or.inl ⟨rfl, fun W hW => ?hy⟩, ?_⟩
      case hy =>
        obtain ⟨⟨⟨hX, hB⟩, h1⟩, hf⟩ := hW
        go_simp
        exact RegionU.does_value rfl
      simp only [Act.put, List.setIfInBounds_toArray, List.set]
      refine wpS_takenY (i := 6) rfl (by kernel_rfl) (by kernel_rfl) (by kernel_rfl) (by kernel_rfl) (((KD.up W0 B C m).and (OT.up _ _ u2)).and (KT2.up _ _ _ _ _ (Value.tuple #[.agg D, .int .i64 k]))) ?_
      apply Exists.intro
      refine ⟨fun _ _ _ h => h, Or.inl ⟨rfl, fun W => ?hy⟩, ?_⟩
      case hy =>
        go_simp
        rfl
      simp only [Act.put, List.setIfInBounds_toArray, List.set]
      refine wpS_one (i := 7) (by kernel_rfl) (by kernel_rfl) rfl rfl (fun u => FT n W0 m R k (Value.tuple #[.agg D, .int .i64 k]) u) (fun u => FT.up _ _ _ _ _ (Value.tuple #[.agg D, .int .i64 k]) u) (fun W hW => ?hy) ?_
      case hy =>
        obtain ⟨⟨⟨hX, hB⟩, h1⟩, hf⟩ := hW
        go_simp
        obtain ⟨D2, hD, hR⟩ := hf
        exact RegionU.does_made ⟨D2, _, hD, rfl, Ar.new _ _ _, hB.size, hR.x2 _⟩ ((Below.refl _ _).alloc (Nat.le_refl _) _)
      intro u7
      simp only [Act.put, List.setIfInBounds_toArray, List.set]
      refine wpS_done rfl (by kernel_rfl) (by kernel_rfl) ?_
      intro W hW
      obtain ⟨⟨⟨⟨hX, hB⟩, h1⟩, -⟩, hf⟩ := hW
      obtain ⟨D2, X, hD2, rfl, hXa, hXl, hD⟩ := hf
      have hD2 : D = D2 := by simpa using hD2
      subst hD2
      have hZ := HZ.out.below hB
      have HRX := Lib.hid (hD.row D)
      have HSZ := Lib.hid HRX.out.is.size; have HON := Lib.hid HRX.out.is.one
      have HXA := Lib.hid hXa; have HXR := Lib.hid (hXa.row D)
      have HBX := Lib.hid (below_row hB hXl D)
      have HZX := Lib.hid (HZ.out.below HBX.out)
      have HBW := Lib.hid (below_row (HB0.out.trans (HBX.out.mono HB0.out.size)) (show w.heap.size ≤ B + 1 by rw [HBB.out]; omega) D)
      have HRES := Lib.hid ((HRX.out.row (b := B + 1) (by have := HN.out; rw [HBB.out]; omega) (by rw [HS0.out]; omega) D).mono HB0.out.size)
      clear hX hB hXa hXl hD hZ
      refine wpList_store_dfa (B := X) (D := D) ?gA1 (.tmp 3) (.tmp 10) ?gB1 ?gC1 ?gD1 HXA.out zc_size HSZ.out HON.out ?gE1
      case gA1 => rfl
      case gB1 => rfl
      case gC1 => rfl
      case gD1 => rfl
      simp only [Act.put]
      go_wp2_with (first | (refine wpList_load_box rfl 27 (.tmp 3) rfl rfl HXR.out Try.underlying27 rfl (by rw [HSZ.out]; exact infoD) ?_) | (refine wpList_store_dfa rfl (.tmp 2) (.tmp 12) rfl (by rfl) (by rfl) HZX.out HZS.out HSZ.out HON.out ?_; simp only [Act.put]))
      exact bodyPost_ret (v := .agg D) (results_cell_row rfl _ _ (B + 1) _ _ _ _ rfl (HZX.out.row D) Try.underlying27 rfl (by rw [HSZ.out]; exact infoD)) rfl ⟨_, rfl, HRES.out, HBW.out⟩
    case h2b =>
      intro u7
      simp only [Act.put, List.setIfInBounds_toArray, List.set]
      refine wpS_one (i := 3) (by kernel_rfl) (by kernel_rfl) rfl rfl (fun u => FT n W0 m R k u u7) (fun u => FT.up _ _ _ _ _ u u7) (fun W hW => ?hy) ?_
      case hy =>
        obtain ⟨⟨⟨hX, hB⟩, h1⟩, hq⟩ := hW
        go_simp
        obtain ⟨X, hq1, hq2, hq3⟩ := hq
        exact does_in ((H2.out W _ (HM.out.below (hB.mono HNW.out)) (Nat.le_trans HNW.out hB.size) (OI.is h1)).mono fun e w' ⟨D, h, hd, hb⟩ => ⟨_, h, ⟨D, X, rfl, hq1, (hq2.below hb), hq3, hd.x hB.size hq2.lt (Nat.le_trans HNW.out hq3)⟩, hb⟩)
      intro u3
      simp only [Act.put, List.setIfInBounds_toArray, List.set]
      refine wpS_have (p := ∃ D, u3 = .tuple #[.agg D, .int .i64 k]) (fun W hW => ?_) ?_
      · obtain ⟨⟨⟨⟨hX, hB⟩, h1⟩, hq⟩, hf⟩ := hW
        first | (obtain ⟨D, X, h, _⟩ := hf; exact ⟨D, h⟩) | (obtain ⟨D, h, _⟩ := hf; exact ⟨D, h⟩)
      rintro ⟨D, rfl⟩
      refine wpS_taken (i := 4) rfl (by kernel_rfl) (by kernel_rfl) (by kernel_rfl) (by kernel_rfl) ((((KD.up W0 B C m).and (OT.up _ _ u2)).and (BxT.up _ u7)).and (FT.up _ _ _ _ _ (Value.tuple #[.agg D, .int .i64 k]) u7)) ?_
      apply Exists.intro
      refine ⟨Or.inl ⟨rfl, fun W hW => ?hy⟩, ?_⟩
      case hy =>
        obtain ⟨⟨⟨⟨hX, hB⟩, h1⟩, hq⟩, hf⟩ := hW
        go_simp
        exact RegionU.does_value rfl
      simp only [Act.put, List.setIfInBounds_toArray, List.set]
      refine wpS_taken (i := 5) rfl (by kernel_rfl) (by kernel_rfl) (by kernel_rfl) (by kernel_rfl) ((((KD.up W0 B C m).and (OT.up _ _ u2)).and (BxT.up _ u7)).and (FT.up _ _ _ _ _ (Value.tuple #[.agg D, .int .i64 k]) u7)) ?_
      apply Exists.intro
      refine ⟨Or.inl ⟨rfl, fun W hW => ?hy⟩, ?_⟩
      case hy =>
        obtain ⟨⟨⟨⟨hX, hB⟩, h1⟩, hq⟩, hf⟩ := hW
        go_simp
        exact RegionU.does_value rfl
      simp only [Act.put, List.setIfInBounds_toArray, List.set]
      refine wpS_takenY (i := 6) rfl (by kernel_rfl) (by kernel_rfl) (by kernel_rfl) (by kernel_rfl) ((((KD.up W0 B C m).and (OT.up _ _ u2)).and (BxT.up _ u7)).and (FT.up _ _ _ _ _ (Value.tuple #[.agg D, .int .i64 k]) u7)) ?_
      apply Exists.intro
      refine ⟨fun _ _ _ h => h, Or.inl ⟨rfl, fun W => ?hy⟩, ?_⟩
      case hy =>
        go_simp
        rfl
      simp only [Act.put, List.setIfInBounds_toArray, List.set]
      refine wpS_done rfl (by kernel_rfl) (by kernel_rfl) ?_
      intro W hW
      obtain ⟨⟨⟨⟨hX, hB⟩, h1⟩, -⟩, hf⟩ := hW
      obtain ⟨D2, X, hD2, rfl, hXa, hXl, hD⟩ := hf
      have hD2 : D = D2 := by simpa using hD2
      subst hD2
      have hZ := HZ.out.below hB
      have HRX := Lib.hid (hD.row D)
      have HSZ := Lib.hid HRX.out.is.size; have HON := Lib.hid HRX.out.is.one
      have HXA := Lib.hid hXa; have HXR := Lib.hid (hXa.row D)
      have HBX := Lib.hid (below_row hB hXl D)
      have HZX := Lib.hid (HZ.out.below HBX.out)
      have HBW := Lib.hid (below_row (HB0.out.trans (HBX.out.mono HB0.out.size)) (show w.heap.size ≤ B + 1 by rw [HBB.out]; omega) D)
      have HRES := Lib.hid ((HRX.out.row (b := B + 1) (by have := HN.out; rw [HBB.out]; omega) (by rw [HS0.out]; omega) D).mono HB0.out.size)
      clear hX hB hXa hXl hD hZ
      refine wpList_store_dfa (B := X) (D := D) ?gA2 (.tmp 3) (.tmp 10) ?gB2 ?gC2 ?gD2 HXA.out zc_size HSZ.out HON.out ?gE2
      case gA2 => rfl
      case gB2 => rfl
      case gC2 => rfl
      case gD2 => rfl
      simp only [Act.put]
      go_wp2_with (first | (refine wpList_load_box rfl 27 (.tmp 3) rfl rfl HXR.out Try.underlying27 rfl (by rw [HSZ.out]; exact infoD) ?_) | (refine wpList_store_dfa rfl (.tmp 2) (.tmp 12) rfl (by rfl) (by rfl) HZX.out HZS.out HSZ.out HON.out ?_; simp only [Act.put]))
      exact bodyPost_ret (v := .agg D) (results_cell_row rfl _ _ (B + 1) _ _ _ _ rfl (HZX.out.row D) Try.underlying27 rfl (by rw [HSZ.out]; exact infoD)) rfl ⟨_, rfl, HRES.out, HBW.out⟩
  case h2a =>
    intro u7
    simp only [Act.put, List.setIfInBounds_toArray, List.set]
    refine wpS_one (i := 2) (by kernel_rfl) (by kernel_rfl) rfl rfl (OT W0.heap.size R) (OT.up _ _) (fun W hW => ?hy) ?_
    case hy =>
      obtain ⟨⟨hX, hB⟩, hq⟩ := hW
      go_simp
      exact does_in ((H1.out W hX.is).mono fun e w' ⟨v, h, ho, hb⟩ => ⟨v, h, owns_base ho hB.size, hb⟩)
    intro u2
    simp only [Act.put, List.setIfInBounds_toArray, List.set]
    refine wpS_one (i := 3) (by kernel_rfl) (by kernel_rfl) rfl rfl (fun u => FT n W0 m R k u u7) (fun u => FT.up _ _ _ _ _ u u7) (fun W hW => ?hy) ?_
    case hy =>
      obtain ⟨⟨⟨hX, hB⟩, hq⟩, h1⟩ := hW
      go_simp
      obtain ⟨X, hq1, hq2, hq3⟩ := hq
      exact does_in ((H2.out W _ (HM.out.below (hB.mono HNW.out)) (Nat.le_trans HNW.out hB.size) (OI.is h1)).mono fun e w' ⟨D, h, hd, hb⟩ => ⟨_, h, ⟨D, X, rfl, hq1, (hq2.below hb), hq3, hd.x hB.size hq2.lt (Nat.le_trans HNW.out hq3)⟩, hb⟩)
    intro u3
    simp only [Act.put, List.setIfInBounds_toArray, List.set]
    refine wpS_have (p := ∃ D, u3 = .tuple #[.agg D, .int .i64 k]) (fun W hW => ?_) ?_
    · obtain ⟨⟨⟨⟨hX, hB⟩, hq⟩, h1⟩, hf⟩ := hW
      first | (obtain ⟨D, X, h, _⟩ := hf; exact ⟨D, h⟩) | (obtain ⟨D, h, _⟩ := hf; exact ⟨D, h⟩)
    rintro ⟨D, rfl⟩
    refine wpS_taken (i := 4) rfl (by kernel_rfl) (by kernel_rfl) (by kernel_rfl) (by kernel_rfl) ((((KD.up W0 B C m).and (BxT.up _ u7)).and (OT.up _ _ u2)).and (FT.up _ _ _ _ _ (Value.tuple #[.agg D, .int .i64 k]) u7)) ?_
    apply Exists.intro
    refine ⟨Or.inl ⟨rfl, fun W hW => ?hy⟩, ?_⟩
    case hy =>
      obtain ⟨⟨⟨⟨hX, hB⟩, hq⟩, h1⟩, hf⟩ := hW
      go_simp
      exact RegionU.does_value rfl
    simp only [Act.put, List.setIfInBounds_toArray, List.set]
    refine wpS_taken (i := 5) rfl (by kernel_rfl) (by kernel_rfl) (by kernel_rfl) (by kernel_rfl) ((((KD.up W0 B C m).and (BxT.up _ u7)).and (OT.up _ _ u2)).and (FT.up _ _ _ _ _ (Value.tuple #[.agg D, .int .i64 k]) u7)) ?_
    apply Exists.intro
    refine ⟨Or.inl ⟨rfl, fun W hW => ?hy⟩, ?_⟩
    case hy =>
      obtain ⟨⟨⟨⟨hX, hB⟩, hq⟩, h1⟩, hf⟩ := hW
      go_simp
      exact RegionU.does_value rfl
    simp only [Act.put, List.setIfInBounds_toArray, List.set]
    refine wpS_takenY (i := 6) rfl (by kernel_rfl) (by kernel_rfl) (by kernel_rfl) (by kernel_rfl) ((((KD.up W0 B C m).and (BxT.up _ u7)).and (OT.up _ _ u2)).and (FT.up _ _ _ _ _ (Value.tuple #[.agg D, .int .i64 k]) u7)) ?_
    apply Exists.intro
    refine ⟨fun _ _ _ h => h, Or.inl ⟨rfl, fun W => ?hy⟩, ?_⟩
    case hy =>
      go_simp
      rfl
    simp only [Act.put, List.setIfInBounds_toArray, List.set]
    refine wpS_done rfl (by kernel_rfl) (by kernel_rfl) ?_
    intro W hW
    obtain ⟨⟨⟨⟨hX, hB⟩, -⟩, h1⟩, hf⟩ := hW
    obtain ⟨D2, X, hD2, rfl, hXa, hXl, hD⟩ := hf
    have hD2 : D = D2 := by simpa using hD2
    subst hD2
    have hZ := HZ.out.below hB
    have HRX := Lib.hid (hD.row D)
    have HSZ := Lib.hid HRX.out.is.size; have HON := Lib.hid HRX.out.is.one
    have HXA := Lib.hid hXa; have HXR := Lib.hid (hXa.row D)
    have HBX := Lib.hid (below_row hB hXl D)
    have HZX := Lib.hid (HZ.out.below HBX.out)
    have HBW := Lib.hid (below_row (HB0.out.trans (HBX.out.mono HB0.out.size)) (show w.heap.size ≤ B + 1 by rw [HBB.out]; omega) D)
    have HRES := Lib.hid ((HRX.out.row (b := B + 1) (by have := HN.out; rw [HBB.out]; omega) (by rw [HS0.out]; omega) D).mono HB0.out.size)
    clear hX hB hXa hXl hD hZ
    refine wpList_store_dfa (B := X) (D := D) ?gA3 (.tmp 3) (.tmp 10) ?gB3 ?gC3 ?gD3 HXA.out zc_size HSZ.out HON.out ?gE3
    case gA3 => rfl
    case gB3 => rfl
    case gC3 => rfl
    case gD3 => rfl
    simp only [Act.put]
    go_wp2_with (first | (refine wpList_load_box rfl 27 (.tmp 3) rfl rfl HXR.out Try.underlying27 rfl (by rw [HSZ.out]; exact infoD) ?_) | (refine wpList_store_dfa rfl (.tmp 2) (.tmp 12) rfl (by rfl) (by rfl) HZX.out HZS.out HSZ.out HON.out ?_; simp only [Act.put]))
    exact bodyPost_ret (v := .agg D) (results_cell_row rfl _ _ (B + 1) _ _ _ _ rfl (HZX.out.row D) Try.underlying27 rfl (by rw [HSZ.out]; exact infoD)) rfl ⟨_, rfl, HRES.out, HBW.out⟩
end Go.Proofs.Ytkghnjgioijgpaa.DfaW
namespace Go.Proofs.Ytkghnjgioijgpaa.DfaW
set_option linter.unusedVariables false
set_option linter.unusedSimpArgs false
open Go.Proofs.Ytkghnjgioijgpaa.RegionU (Up wpU_taken wpU_one wpU_mono wpU_done wp_region_U does)
open Go.RowKit Go.Maps Go.Proofs.Ytkghnjgioijgpaa.PartM Go.Proofs.Ytkghnjgioijgpaa.PartW Go.Proofs.Ytkghnjgioijgpaa.DfaM
theorem Says.bit2 {e : Ending} {p : Prop} {b : Bool} (h : Says e p) (hb : b = true ↔ p) : e = .returned (.bool b) := by
  rcases h.elim with ⟨rfl, hp⟩ | ⟨rfl, hp⟩
  · rw [hb.2 hp]
  · cases b with
    | false => rfl
    | true => exact absurd (hb.1 rfl) hp
theorem same_mine (m : Mc) : SameM m m := ⟨by simp [sameA], rfl, rfl, rfl, rfl⟩
/-- Four machines, each in its box. -/
def KD4 (W0 : World) (b d f g : Nat) (C D F G : Array Value) (m k j : Mc) (W : World) : Prop := Bx W b C m ∧ Bx W d D k ∧ Bx W f F j ∧ Bx W g G k ∧ Below W0.heap.size W0 W
theorem KD4.up (W0 : World) (b d f g : Nat) (C D F G : Array Value) (m k j : Mc) : Up (KD4 W0 b d f g C D F G m k j) := fun W W' ⟨h1, h2, h3, h4, h5⟩ hr => ⟨h1.below hr, h2.below hr, h3.below hr, h4.below hr, h5.trans (hr.mono h5.size)⟩
/-- A machine that is told. -/
def MT (j : Mc) (u : Value) (W : World) : Prop := ∃ F : Array Value, u = .agg F ∧ IsM W.heap.size W F j
theorem MT.up (j : Mc) (u : Value) : Up (MT j u) := fun W W' ⟨F, h1, h2⟩ hr => ⟨F, h1, h2.next hr⟩
theorem IS.next {w w' : World} {v : Value} {l : List Int} (h : IS w.heap.size w v l) (hb : Below w.heap.size w w') : IS w'.heap.size w' v l := (h.below hb).up hb.size
theorem trimmed {m : Mc} (k : Ok m) : keptE m (castL (reachV m)) = 0 := by
  rw [reachV_yes k]
  exact keptE_yes k (reach_good k)
set_option maxRecDepth 100000 in
theorem small_k {C : Array Value} {m : Mc} (w : World) (h : IsM w.heap.size w C m) :
    Calls Try.prog 23 #[.agg C] w fun e w' => e = .returned (.bool (decide (m.lb.length ≤ 200))) ∧ Below w.heap.size w w' := by
  have hx := Bx.new h
  have hb0 : Below w.heap.size w (w.alloc (.cells C 27)) := (Below.refl _ _).alloc (Nat.le_refl _) _
  obtain ⟨v2, x2, hv2⟩ := hx.lb
  obtain ⟨a2, c2, rfl, _, _, _⟩ := hv2.open
  have HB0 := Lib.hid hb0
  obtain ⟨n, hn⟩ : ∃ n, n = m.lb.length := ⟨_, rfl⟩
  rw [← hn] at x2 ⊢
  have hle : decide ((n : Int) ≤ 200) = decide (n ≤ 200) := by rw [decide_eq_decide]; omega
  clear h hx hb0 hv2 hn
  go_enter Try.func23, Try.ntmps23
  go_wp2_with fail
  go_ret
  exact ⟨rfl, HB0.out⟩
set_option maxRecDepth 100000 in
set_option maxHeartbeats 4000000 in
theorem DfaKeeps_any {C : Array Value} {m : Mc} {v : Value} {l : List Int} (w : World) (h : IsM w.heap.size w C m) (hv : IS w.heap.size w v l) :
    Calls Try.prog 6 #[.agg C, v] w fun e w' => e = .returned (.bool true) ∧ Below w.heap.size w w' := by
  have hx := Bx.new h
  have hb0 : Below w.heap.size w (w.alloc (.cells C 27)) := (Below.refl _ _).alloc (Nat.le_refl _) _
  have hv' := hv.next hb0
  obtain ⟨a, cap, rfl, _, _, _⟩ := hv.open
  obtain ⟨L, hL⟩ : ∃ L, L = l.length := ⟨_, rfl⟩
  rw [← hL] at hv' ⊢
  have HX := Lib.hid hx; have HB0 := Lib.hid hb0; have HV := Lib.hid hv'; have HZS := Lib.hid zc_size
  clear h hx hb0 hv hv' hL
  obtain ⟨R, hR⟩ : ∃ R, R = castL (reachV m) := ⟨_, rfl⟩
  obtain ⟨kE, hkE⟩ : ∃ kE, kE = keptE m l := ⟨_, rfl⟩
  obtain ⟨k1, hk1⟩ : ∃ k1, k1 = keptM m l := ⟨_, rfl⟩
  obtain ⟨gE, hgE⟩ : ∃ gE, gE = keptE m R := ⟨_, rfl⟩
  obtain ⟨k2, hk2⟩ : ∃ k2, k2 = keptM m R := ⟨_, rfl⟩
  have HK1 := Lib.hid (fun W v' (h : IsM W.heap.size W C m) (hv : IS W.heap.size W v' l) => by have := Keep_any W h hv; rw [← hkE, ← hk1] at this; exact this)
  have HF1 := Lib.hid (fun W v' (h : IsM W.heap.size W C m) (hk : Ok m) (hv : IS W.heap.size W v' l) => by have := refKeep_any W h (Nat.le_refl _) hk hv; rw [← hkE, ← hk1] at this; exact this)
  have HT1 := Lib.hid (fun W (h : IsM W.heap.size W C m) => by have := Trim_any W h; rw [← hR, ← hgE, ← hk2] at this; exact this)
  have HG1 := Lib.hid (fun W (h : IsM W.heap.size W C m) (hk : Ok m) => by have := refTrim_any W h (Nat.le_refl _) hk; rw [← reachV_yes hk, ← hR, ← hk2] at this; exact this)
  have HKE := Lib.hid hkE; have HM1 := Lib.hid hk1; have HGE := Lib.hid hgE; have HM2 := Lib.hid hk2; have HRR := Lib.hid hR
  clear hkE hk1 hgE hk2 hR
  go_enter Try.func6, Try.ntmps6
  go_wp2_with (refine wpList_load_dfa rfl (.tmp 2) rfl rfl HX.out ?_)
  refine (HK1.out _ _ HX.out.is HV.out).mono ?_
  rintro e w1 ⟨D, rfl, hd, hb⟩
  obtain ⟨B, hB⟩ : ∃ B, B = w.heap.size := ⟨_, rfl⟩
  rw [← hB] at HX ⊢
  have HX1 := Lib.hid (HX.out.below hb); have HB1 := Lib.hid (HB0.out.trans (hb.mono HB0.out.size)); have HV1 := Lib.hid (HV.out.next hb)
  have HD := Lib.hid hd.is
  have HB2 := Lib.hid (ist_below w1 D); have HX2 := Lib.hid (HX1.out.below HB2.out); have HY2 := Lib.hid (bx_store HD.out); have HV2 := Lib.hid (HV1.out.next HB2.out)
  have HB3 := Lib.hid (HB1.out.trans (HB2.out.mono HB1.out.size))
  clear hb hd HX HB0 HV hB
  go_wp2_with (first | (refine wpList_store_dfa rfl (.tmp 5) (.tmp 15) rfl (by rfl) (by rfl) (Ar.new _ _ _) HZS.out HD.out.size HD.out.one ?_; simp only [Act.put]) | (refine wpList_load_dfa rfl (.tmp 2) rfl rfl HX2.out ?_))
  refine (HT1.out _ HX2.out.is).mono ?_
  rintro e w3 ⟨F, rfl, hf, hb⟩
  have HX3 := Lib.hid (HX2.out.below hb); have HY3 := Lib.hid (HY2.out.below hb); have HV3 := Lib.hid (HV2.out.next hb); have HB4 := Lib.hid (HB3.out.trans (hb.mono HB3.out.size))
  have HF := Lib.hid hf.is
  obtain ⟨X, hX⟩ : ∃ X, X = w1.heap.size := ⟨_, rfl⟩
  rw [← hX] at HY3 ⊢
  have HB5 := Lib.hid (ist_below w3 F)
  have HX4 := Lib.hid (HX3.out.below HB5.out); have HY4 := Lib.hid (HY3.out.below HB5.out); have HZ4 := Lib.hid (bx_store HF.out); have HV4 := Lib.hid (HV3.out.next HB5.out); have HB6 := Lib.hid (HB4.out.trans (HB5.out.mono HB4.out.size))
  clear hb hf hX HX2 HY2 HV2 HB3 HX3 HY3 HV3 HB4 HB2 HX1 HB1 HV1 HT1 HK1
  go_wp2_with (first | (refine wpList_store_dfa rfl (.tmp 7) (.tmp 20) rfl (by rfl) (by rfl) (Ar.new _ _ _) HZS.out HF.out.size HF.out.one ?_; simp only [Act.put]) | (refine wpList_load_dfa rfl (.tmp 2) rfl rfl HX4.out ?_))
  refine (refRightD_any _ HX4.out.is).mono ?_
  rintro e w5 ⟨hs, hb⟩
  have HX5 := Lib.hid (HX4.out.below hb); have HY5 := Lib.hid (HY4.out.below hb); have HZ5 := Lib.hid (HZ4.out.below hb); have HV5 := Lib.hid (HV4.out.next hb); have HB7 := Lib.hid (HB6.out.trans (hb.mono HB6.out.size))
  obtain ⟨Y, hY⟩ : ∃ Y, Y = w3.heap.size := ⟨_, rfl⟩
  rw [← hY] at HZ5 ⊢
  clear hb hY HX4 HY4 HZ4 HV4 HB6 HB5 HD HF
  rcases hs.elim with ⟨rfl, hk⟩ | ⟨rfl, hk⟩
  rotate_left
  · obtain rfl : kE = 6 := by rw [HKE.out]; exact keptE_no hk
    obtain rfl : gE = 6 := by rw [HGE.out]; exact keptE_no hk
    have e1 : k1.lb = [] := by rw [HM1.out, keptM_no hk]; rfl
    have e2 : k2.lb = [] := by rw [HM2.out, keptM_no hk]; rfl
    obtain ⟨p1, hp1, hq1⟩ := HY5.out.lb
    obtain ⟨p2, hp2, hq2⟩ := HZ5.out.lb
    rw [e1] at hq1
    rw [e2] at hq2
    obtain ⟨a5, c5, rfl, _, _, _⟩ := hq1.open
    obtain ⟨a6, c6, rfl, _, _, _⟩ := hq2.open
    simp only [List.length_nil] at hp1 hp2
    clear hs hk e1 e2 hq1 hq2
    go_wp2_with fail
    refine (knows_any _).mono ?_
    rintro e w6 ⟨rfl, hb⟩
    have HB8 := Lib.hid (HB7.out.trans (hb.mono HB7.out.size))
    clear hb
    go_wp2_with fail
    go_ret
    exact ⟨rfl, HB8.out⟩
  have HK := Lib.hid hk
  obtain rfl : gE = 0 := by rw [HGE.out, HRR.out]; exact trimmed hk
  clear hs hk
  go_wp2_with (refine wpList_load_dfa rfl (.tmp 2) rfl rfl HX5.out ?_)
  refine (small_k _ HX5.out.is).mono ?_
  rintro e w6 ⟨rfl, hb⟩
  have HX6 := Lib.hid (HX5.out.below hb); have HY6 := Lib.hid (HY5.out.below hb); have HZ6 := Lib.hid (HZ5.out.below hb); have HV6 := Lib.hid (HV5.out.next hb); have HB8 := Lib.hid (HB7.out.trans (hb.mono HB7.out.size))
  clear hb HX5 HY5 HZ5 HV5 HB7
  by_cases hsm : m.lb.length ≤ 200
  case neg =>
    rw [decide_eq_false (show ¬ (m.lb.length ≤ 200) from hsm)]
    clear hsm
    go_wp2_with fail
    refine (knows_any _).mono ?_
    rintro e w7 ⟨rfl, hb⟩
    have HB9 := Lib.hid (HB8.out.trans (hb.mono HB8.out.size))
    clear hb
    go_wp2_with fail
    go_ret
    exact ⟨rfl, HB9.out⟩
  rw [decide_eq_true (show m.lb.length ≤ 200 from hsm)]
  clear hsm
  go_wp2_with (refine wpList_load_dfa rfl (.tmp 2) rfl rfl HX6.out ?_)
  refine (HF1.out _ _ HX6.out.is HK.out HV6.out).mono ?_
  rintro e w7 ⟨G, rfl, hg, hb⟩
  have HX7 := Lib.hid (HX6.out.below hb); have HY7 := Lib.hid (HY6.out.below hb); have HZ7 := Lib.hid (HZ6.out.below hb); have HB9 := Lib.hid (HB8.out.trans (hb.mono HB8.out.size))
  have HG := Lib.hid hg.is
  have HBA := Lib.hid (ist_below w7 G)
  have HX8 := Lib.hid (HX7.out.below HBA.out); have HY8 := Lib.hid (HY7.out.below HBA.out); have HZ8 := Lib.hid (HZ7.out.below HBA.out); have HQ8 := Lib.hid (bx_store HG.out); have HBB := Lib.hid (HB9.out.trans (HBA.out.mono HB9.out.size))
  clear hb hg HX6 HY6 HZ6 HV6 HB8 HX7 HY7 HZ7 HB9 HBA HF1
  go_wp2_with (refine wpList_store_dfa rfl (.tmp 9) (.tmp 52) rfl (by rfl) (by rfl) (Ar.new _ _ _) HZS.out HG.out.size HG.out.one ?_; simp only [Act.put])
  obtain ⟨U, hU⟩ : ∃ U, U = w7.heap.size := ⟨_, rfl⟩
  rw [← hU] at HX8 HY8 HZ8 HQ8 HBB ⊢
  generalize (w7.alloc (.cells Try.zeroCells27 27)).setRow U G = W0 at *
  clear hU
  have H1 := Lib.hid (fun W (h : IsM W.heap.size W D k1) (h2 : IsM W.heap.size W G k1) => (refSameD_any W h h2).mono fun e w' (x : Says e (SameM k1 k1) ∧ Below W.heap.size W w') => And.intro (x.1.bit2 (b := true) (by simp [same_mine])) x.2)
  have H2 := Lib.hid (fun W (h : IsM W.heap.size W C m) => HG1.out W h HK.out)
  have H3 := Lib.hid (fun W F' (h : IsM W.heap.size W F k2) (h2 : IsM W.heap.size W F' k2) => (refSameD_any W h h2).mono fun e w' (x : Says e (SameM k2 k2) ∧ Below W.heap.size W w') => And.intro (x.1.bit2 (b := true) (by simp [same_mine])) x.2)
  have HD4 := Lib.hid (show KD4 W0 B X Y U C D F G m k1 k2 W0.drew from ⟨HX8.out.drew, HY8.out.drew, HZ8.out.drew, HQ8.out.drew, (Below.refl _ _).drew⟩)
  clear HG1
  go_wp2_with fail
  refine wp_region_U (by kernel_rfl) (KD4.up W0 B X Y U C D F G m k1 k2) HD4.out ?_
  refine wpU_taken (i := 0) rfl (by kernel_rfl) (by kernel_rfl) (by kernel_rfl) (KD4.up W0 B X Y U C D F G m k1 k2) ?_
  apply Exists.intro
  refine ⟨Or.inl ⟨rfl, fun W hW => ?hy⟩, ?_⟩
  case hy =>
    obtain ⟨hX, hY, hZ, hQ, hB⟩ := hW
    go_simp
    exact RegionU.does_value rfl
  simp only [Act.put, List.setIfInBounds_toArray, List.set]
  refine wpU_taken (i := 1) rfl (by kernel_rfl) (by kernel_rfl) (by kernel_rfl) (KD4.up W0 B X Y U C D F G m k1 k2) ?_
  apply Exists.intro
  refine ⟨Or.inl ⟨rfl, fun W hW => ?hy⟩, ?_⟩
  case hy =>
    obtain ⟨hX, hY, hZ, hQ, hB⟩ := hW
    go_simp
    exact RegionU.does_value rfl
  simp only [Act.put, List.setIfInBounds_toArray, List.set]
  refine wpU_taken (i := 2) rfl (by kernel_rfl) (by kernel_rfl) (by kernel_rfl) (KD4.up W0 B X Y U C D F G m k1 k2) ?_
  apply Exists.intro
  refine ⟨Or.inl ⟨rfl, fun W hW => ?hy⟩, ?_⟩
  case hy =>
    obtain ⟨hX, hY, hZ, hQ, hB⟩ := hW
    go_simp
    try simp only [beq_self_eq_true, bne_self_eq_false, Bool.not_true, Bool.not_false, decide_true]
    exact RegionU.does_value rfl
  simp only [Act.put, List.setIfInBounds_toArray, List.set]
  refine wpU_taken (i := 3) rfl (by kernel_rfl) (by kernel_rfl) (by kernel_rfl) (KD4.up W0 B X Y U C D F G m k1 k2) ?_
  apply Exists.intro
  refine ⟨Or.inl ⟨rfl, fun W hW => ?hy⟩, ?_⟩
  case hy =>
    obtain ⟨hX, hY, hZ, hQ, hB⟩ := hW
    go_simp
    exact RegionU.does_value rfl
  simp only [Act.put, List.setIfInBounds_toArray, List.set]
  refine wpU_taken (i := 4) rfl (by kernel_rfl) (by kernel_rfl) (by kernel_rfl) (KD4.up W0 B X Y U C D F G m k1 k2) ?_
  apply Exists.intro
  refine ⟨Or.inl ⟨rfl, fun W hW => ?hy⟩, ?_⟩
  case hy =>
    obtain ⟨hX, hY, hZ, hQ, hB⟩ := hW
    exact does_eq (run_load_dfa (.tmp 5) rfl rfl hY)
  simp only [Act.put, List.setIfInBounds_toArray, List.set]
  refine wpU_taken (i := 5) rfl (by kernel_rfl) (by kernel_rfl) (by kernel_rfl) (KD4.up W0 B X Y U C D F G m k1 k2) ?_
  apply Exists.intro
  refine ⟨Or.inl ⟨rfl, fun W hW => ?hy⟩, ?_⟩
  case hy =>
    obtain ⟨hX, hY, hZ, hQ, hB⟩ := hW
    exact does_eq (run_load_dfa (.tmp 9) rfl rfl hQ)
  simp only [Act.put, List.setIfInBounds_toArray, List.set]
  refine wpU_taken (i := 6) rfl (by kernel_rfl) (by kernel_rfl) (by kernel_rfl) (KD4.up W0 B X Y U C D F G m k1 k2) ?_
  apply Exists.intro
  refine ⟨Or.inl ⟨rfl, fun W hW => ?hy⟩, ?_⟩
  case hy =>
    obtain ⟨hX, hY, hZ, hQ, hB⟩ := hW
    go_simp
    exact RegionU.does_call (H1.out W hY.is hQ.is)
  simp only [Act.put, List.setIfInBounds_toArray, List.set]
  refine wpU_taken (i := 7) rfl (by kernel_rfl) (by kernel_rfl) (by kernel_rfl) (KD4.up W0 B X Y U C D F G m k1 k2) ?_
  apply Exists.intro
  refine ⟨Or.inl ⟨rfl, fun W hW => ?hy⟩, ?_⟩
  case hy =>
    obtain ⟨hX, hY, hZ, hQ, hB⟩ := hW
    go_simp
    exact RegionU.does_value rfl
  simp only [Act.put, List.setIfInBounds_toArray, List.set]
  refine wpU_taken (i := 8) rfl (by kernel_rfl) (by kernel_rfl) (by kernel_rfl) (KD4.up W0 B X Y U C D F G m k1 k2) ?_
  apply Exists.intro
  refine ⟨Or.inl ⟨rfl, fun W hW => ?hy⟩, ?_⟩
  case hy =>
    obtain ⟨hX, hY, hZ, hQ, hB⟩ := hW
    go_simp
    exact RegionU.does_value rfl
  simp only [Act.put, List.setIfInBounds_toArray, List.set]
  refine wpU_taken (i := 9) rfl (by kernel_rfl) (by kernel_rfl) (by kernel_rfl) (KD4.up W0 B X Y U C D F G m k1 k2) ?_
  apply Exists.intro
  refine ⟨Or.inl ⟨rfl, fun W hW => ?hy⟩, ?_⟩
  case hy =>
    obtain ⟨hX, hY, hZ, hQ, hB⟩ := hW
    go_simp
    exact RegionU.does_value rfl
  simp only [Act.put, List.setIfInBounds_toArray, List.set]
  refine wpU_taken (i := 10) rfl (by kernel_rfl) (by kernel_rfl) (by kernel_rfl) (KD4.up W0 B X Y U C D F G m k1 k2) ?_
  apply Exists.intro
  refine ⟨Or.inl ⟨rfl, fun W hW => ?hy⟩, ?_⟩
  case hy =>
    obtain ⟨hX, hY, hZ, hQ, hB⟩ := hW
    go_simp
    try simp only [beq_self_eq_true, bne_self_eq_false, Bool.not_true, Bool.not_false, decide_true]
    exact RegionU.does_value rfl
  simp only [Act.put, List.setIfInBounds_toArray, List.set]
  refine wpU_taken (i := 11) rfl (by kernel_rfl) (by kernel_rfl) (by kernel_rfl) (KD4.up W0 B X Y U C D F G m k1 k2) ?_
  apply Exists.intro
  refine ⟨Or.inl ⟨rfl, fun W hW => ?hy⟩, ?_⟩
  case hy =>
    obtain ⟨hX, hY, hZ, hQ, hB⟩ := hW
    go_simp
    exact RegionU.does_value rfl
  simp only [Act.put, List.setIfInBounds_toArray, List.set]
  refine wpU_taken (i := 12) rfl (by kernel_rfl) (by kernel_rfl) (by kernel_rfl) (KD4.up W0 B X Y U C D F G m k1 k2) ?_
  apply Exists.intro
  refine ⟨Or.inl ⟨rfl, fun W hW => ?hy⟩, ?_⟩
  case hy =>
    obtain ⟨hX, hY, hZ, hQ, hB⟩ := hW
    go_simp
    exact RegionU.does_value rfl
  simp only [Act.put, List.setIfInBounds_toArray, List.set]
  refine wpU_taken (i := 13) rfl (by kernel_rfl) (by kernel_rfl) (by kernel_rfl) (KD4.up W0 B X Y U C D F G m k1 k2) ?_
  apply Exists.intro
  refine ⟨Or.inl ⟨rfl, fun W hW => ?hy⟩, ?_⟩
  case hy =>
    obtain ⟨hX, hY, hZ, hQ, hB⟩ := hW
    exact does_eq (run_load_dfa (.tmp 7) rfl rfl hZ)
  simp only [Act.put, List.setIfInBounds_toArray, List.set]
  refine wpU_taken (i := 14) rfl (by kernel_rfl) (by kernel_rfl) (by kernel_rfl) (KD4.up W0 B X Y U C D F G m k1 k2) ?_
  apply Exists.intro
  refine ⟨Or.inl ⟨rfl, fun W hW => ?hy⟩, ?_⟩
  case hy =>
    obtain ⟨hX, hY, hZ, hQ, hB⟩ := hW
    exact does_eq (run_load_dfa (.tmp 2) rfl rfl hX)
  simp only [Act.put, List.setIfInBounds_toArray, List.set]
  refine wpU_one (i := 15) (by kernel_rfl) rfl rfl (MT k2) (MT.up _) (fun W hW => ?hy) ?_
  case hy =>
    obtain ⟨hX, hY, hZ, hQ, hB⟩ := hW
    go_simp
    exact does_in ((H2.out W hX.is).mono fun e w' ⟨E, h, hd, hb⟩ => ⟨_, h, ⟨E, rfl, hd.is⟩, hb⟩)
  intro u1
  simp only [Act.put, List.setIfInBounds_toArray, List.set]
  refine wpU_taken (i := 16) rfl (by kernel_rfl) (by kernel_rfl) (by kernel_rfl) ((KD4.up W0 B X Y U C D F G m k1 k2).and (MT.up _ u1)) ?_
  apply Exists.intro
  refine ⟨Or.inl ⟨rfl, fun W hW => ?hy⟩, ?_⟩
  case hy =>
    obtain ⟨⟨hX, hY, hZ, hQ, hB⟩, E, rfl, hE⟩ := hW
    go_simp
    exact RegionU.does_call (H3.out W E hZ.is hE)
  simp only [Act.put, List.setIfInBounds_toArray, List.set]
  refine wpU_mono _ _ _ (KD4 W0 B X Y U C D F G m k1 k2) _ (fun W hW => hW.1) ?_
  refine wpU_taken (i := 17) rfl (by kernel_rfl) (by kernel_rfl) (by kernel_rfl) (KD4.up W0 B X Y U C D F G m k1 k2) ?_
  apply Exists.intro
  refine ⟨Or.inl ⟨rfl, fun W hW => ?hy⟩, ?_⟩
  case hy =>
    obtain ⟨hX, hY, hZ, hQ, hB⟩ := hW
    go_simp
    exact RegionU.does_value rfl
  simp only [Act.put, List.setIfInBounds_toArray, List.set]
  refine wpU_taken (i := 18) rfl (by kernel_rfl) (by kernel_rfl) (by kernel_rfl) (KD4.up W0 B X Y U C D F G m k1 k2) ?_
  apply Exists.intro
  refine ⟨Or.inl ⟨rfl, fun W hW => ?hy⟩, ?_⟩
  case hy =>
    obtain ⟨hX, hY, hZ, hQ, hB⟩ := hW
    go_simp
    exact RegionU.does_value rfl
  simp only [Act.put, List.setIfInBounds_toArray, List.set]
  refine wpU_taken (i := 19) rfl (by kernel_rfl) (by kernel_rfl) (by kernel_rfl) (KD4.up W0 B X Y U C D F G m k1 k2) ?_
  apply Exists.intro
  refine ⟨Or.inl ⟨rfl, fun W hW => ?hy⟩, ?_⟩
  case hy =>
    obtain ⟨hX, hY, hZ, hQ, hB⟩ := hW
    go_simp
    exact RegionU.does_call (knows_any W)
  simp only [Act.put, List.setIfInBounds_toArray, List.set]
  refine wpU_taken (i := 20) rfl (by kernel_rfl) (by kernel_rfl) (by kernel_rfl) (KD4.up W0 B X Y U C D F G m k1 k2) ?_
  apply Exists.intro
  refine ⟨Or.inl ⟨rfl, fun W hW => ?hy⟩, ?_⟩
  case hy =>
    obtain ⟨hX, hY, hZ, hQ, hB⟩ := hW
    go_simp
    exact RegionU.does_value rfl
  simp only [Act.put, List.setIfInBounds_toArray, List.set]
  refine wpU_taken (i := 21) rfl (by kernel_rfl) (by kernel_rfl) (by kernel_rfl) (KD4.up W0 B X Y U C D F G m k1 k2) ?_
  apply Exists.intro
  refine ⟨Or.inl ⟨rfl, fun W hW => ?hy⟩, ?_⟩
  case hy =>
    obtain ⟨hX, hY, hZ, hQ, hB⟩ := hW
    go_simp
    exact RegionU.does_value rfl
  simp only [Act.put, List.setIfInBounds_toArray, List.set]
  refine wpU_done (by kernel_rfl) ?_
  rintro W ⟨-, -, -, -, hB⟩
  go_wp2_with fail
  go_ret
  exact ⟨rfl, HBB.out.trans (hB.mono HBB.out.size)⟩
end Go.Proofs.Ytkghnjgioijgpaa.DfaW
