/- Laws of regions that draw their order: a head that makes memory, a tail in one order. -/
import Derived.OrdersHeld
import Derived.Below
import Derived.StillTail
import Derived.OrdersIn
import Derived.CallsIn
import Derived.OwnWalkIn
set_option linter.unusedVariables false
namespace Go.Proofs.Ytfhddbjojpmbcaa.RegionU
open Go Go.RowKit
section
variable {P : Program} {ops : Array Oper} {Q : Exit → Act → World → Prop} {md : Region.Mode}

/-- Whatever lay, lies as it lay. -/
def R (W W' : World) : Prop := Below W.heap.size W W'
theorem R.refl (W : World) : R W W := Below.refl _ _
theorem R.trans {A B C : World} (h : R A B) (h' : R B C) : R A C := Below.trans h (Below.mono h' h.size)
/-- What is said of a world stays true as memory grows. -/
def Up (C : World → Prop) : Prop := ∀ W W', C W → R W W' → C W'
theorem Up.and {C D : World → Prop} (h : Up C) (h' : Up D) : Up (fun W => C W ∧ D W) := fun W W' ⟨a, b⟩ hr => ⟨h W W' a hr, h' W W' b hr⟩
theorem up_const (p : Prop) : Up (fun _ => p) := fun _ _ h _ => h

/-- What an operation leaves, of which T is said, memory having grown. -/
def does (P : Program) (W : World) (T : Value → World → Prop) : Result Next → Prop
  | .ok (.value u) W' => T u W' ∧ R W W'
  | .ok .skip W' => T undef W' ∧ R W W'
  | .ok (.enter f args) W' => W' = W ∧ Calls P f args W (fun e W'' => ∃ u, e = .returned u ∧ T u W'' ∧ R W W'')
  | _ => False
def doesIn (P : Program) (o : Oper) (a : Act) (C : World → Prop) (T : Value → World → Prop) : Prop := ∀ W, C W → does P W T ((execOp a.eval o).run P W)
theorem does_mono {W : World} {T T' : Value → World → Prop} (h : ∀ u W', T u W' → T' u W') : ∀ {r : Result Next}, does P W T r → does P W T' r
  | .ok (.value _) _, hr => ⟨h _ _ hr.1, hr.2⟩
  | .ok .skip _, hr => ⟨h _ _ hr.1, hr.2⟩
  | .ok (.enter _ _) _, hr => ⟨hr.1, hr.2.mono fun _ _ ⟨u, he, ht, hr⟩ => ⟨u, he, h _ _ ht, hr⟩⟩

theorem does_value {W : World} {u v : Value} (h : u = v) : does P W (fun x _ => x = v) (.ok (.value u) W) := ⟨h, R.refl W⟩
theorem does_call {W : World} {f : FuncId} {args : Array Value} {v : Value} (h : Calls P f args W (fun e W' => e = .returned v ∧ Below W.heap.size W W')) : does P W (fun x _ => x = v) (.ok (.enter f args) W) :=
  ⟨rfl, h.mono fun _ _ ⟨he, hb⟩ => ⟨v, he, rfl, hb⟩⟩
theorem does_made {W W' : World} {u : Value} {T : Value → World → Prop} (h : T u W') (hr : R W W') : does P W T (.ok (.value u) W') := ⟨h, hr⟩

/-- Operation number i comes up in state a, in whatever world of which C is said. -/
def uOp (P : Program) (ops : Array Oper) (i : Nat) (K : Act → (World → Prop) → Prop) (a : Act) (C : World → Prop) : Prop :=
  match ops[i]? with
  | none => K a C
  | some o => if Region.wanted o (yielded ops a.tmps) then ∃ T : Value → World → Prop, (∀ u, Up (T u)) ∧ doesIn P o a C T ∧ ∀ u, K (a.put o.dst u) (fun W => C W ∧ T u W) else K (a.put o.dst undef) C
def wpU (P : Program) (md : Region.Mode) (ops : Array Oper) (Q : Exit → Act → World → Prop) : Nat → Array Bool → Act → (World → Prop) → Prop
  | 0, listed, a, C => ∀ W, C W → Region.ready md ops listed = [] ∧ Q .normal a W
  | fuel + 1, listed, a, C => (Region.ready md ops listed = [] → ∀ W, C W → Q .normal a W) ∧
    ∀ i ∈ Region.ready md ops listed, uOp P ops i (wpU P md ops Q fuel (listed.setIfInBounds i true)) a C

theorem uOp_mono {i : Nat} {a : Act} {C C' : World → Prop} {K K' : Act → (World → Prop) → Prop} (hC : ∀ W, C' W → C W)
    (h : ∀ a D D', (∀ W, D' W → D W) → K a D → K' a D') (hh : uOp P ops i K a C) : uOp P ops i K' a C' := by
  unfold uOp at *
  split
  · rename_i ho; simp only [ho] at hh; exact h _ _ _ hC hh
  · rename_i o ho
    simp only [ho] at hh
    split
    · rename_i hw
      simp only [hw, if_true] at hh
      obtain ⟨T, hT, hd, hk⟩ := hh
      exact ⟨T, hT, fun W hW => hd W (hC W hW), fun u => h _ _ _ (fun W ⟨x, y⟩ => ⟨hC W x, y⟩) (hk u)⟩
    · rename_i hw; simp only [hw] at hh; exact h _ _ _ hC hh
theorem wpU_mono : ∀ (fuel : Nat) (listed : Array Bool) (a : Act) (C C' : World → Prop), (∀ W, C' W → C W) → wpU P md ops Q fuel listed a C → wpU P md ops Q fuel listed a C'
  | 0, _, _, _, _, hC, h => fun W hW => h W (hC W hW)
  | fuel + 1, _, _, _, _, hC, h => ⟨fun h0 W hW => h.1 h0 W (hC W hW), fun i hi => uOp_mono hC (fun a D D' hD hk => wpU_mono fuel _ a D D' hD hk) (h.2 i hi)⟩
/-- Of no world everything is said. -/
theorem wpU_bot : ∀ (fuel : Nat) (listed : Array Bool) (a : Act) (C : World → Prop), (∀ W, ¬ C W) → wpU P md ops Q fuel listed a C
  | 0, _, _, _, h => fun W hW => absurd hW (h W)
  | fuel + 1, listed, a, C, h => ⟨fun _ W hW => absurd hW (h W), fun i _ => by
      unfold uOp
      split
      · exact wpU_bot fuel _ _ _ h
      · split
        · exact ⟨fun _ _ => True, fun _ => up_const True, fun W hW => absurd hW (h W), fun u => wpU_bot fuel _ _ _ (fun W hW => h W hW.1)⟩
        · exact wpU_bot fuel _ _ _ h⟩

/-- It serves every order. -/
theorem wpAny_of_U : ∀ (fuel : Nat) (listed : Array Bool) (a : Act) (C : World → Prop) (W : World), Up C → C W → wpU P md ops Q fuel listed a C → wpAny P md ops Q fuel listed a W
  | 0, _, _, _, W, _, hW, h => h W hW
  | fuel + 1, listed, a, C, W, hU, hW, h => ⟨fun h0 => h.1 h0 W hW, fun i hi => by
      have h1 := h.2 i hi
      unfold uOp at h1
      unfold wpOp
      split
      · rename_i ho; simp only [ho] at h1; exact wpAny_of_U fuel _ _ C W hU hW h1
      · rename_i o ho
        simp only [ho] at h1
        split
        · rename_i hw
          simp only [hw, if_true] at h1
          obtain ⟨T, hT, hd, hk⟩ := h1
          refine .inl ?_
          have hd1 := hd W hW
          unfold Oper.wp
          generalize (execOp a.eval o).run P W = r at *
          have go : ∀ u W', T u W' → R W W' → wpAny P md ops Q fuel (listed.setIfInBounds i true) (a.put o.dst u) W' := fun u W' ht hr =>
            wpAny_of_U fuel _ _ _ W' (hU.and (hT u)) ⟨hU W W' hW hr, ht⟩ (hk u)
          cases r with
          | ok n W' =>
            cases n <;> simp only [does] at hd1 <;> simp only [Oper.upon]
            case value u => exact go u W' hd1.1 hd1.2
            case skip => exact go undef W' hd1.1 hd1.2
            case enter f args =>
              obtain ⟨e1, hc⟩ := hd1
              rw [e1]
              exact hc.mono fun e W'' ⟨u, he, ht, hr⟩ => by subst he; exact go u W'' ht hr
          | halt x W' => simp only [does] at hd1
        · rename_i hw; simp only [hw] at h1; exact wpAny_of_U fuel _ _ C W hU hW h1⟩

/-- In state a, in every world of which C is said, operation o yields v, memory having grown. -/
def YieldsU (P : Program) (ops : Array Oper) (C : World → Prop) (o : Oper) (v : Value) (a : Act) : Prop :=
  (Region.wanted o (yielded ops a.tmps) = true ∧ doesIn P o a C (fun u _ => u = v)) ∨ (Region.wanted o (yielded ops a.tmps) = false ∧ v = undef)
theorem YieldsU.of_same {C C' : World → Prop} {o : Oper} {v : Value} {a a' : Act} (hC : ∀ W, C' W → C W) (hy : YieldsU P ops C o v a) (he : execOp a'.eval o = execOp a.eval o)
    (hw : Region.wanted o (yielded ops a'.tmps) = Region.wanted o (yielded ops a.tmps)) : YieldsU P ops C' o v a' := by
  unfold YieldsU doesIn at *
  rw [he, hw]
  exact hy.imp (fun ⟨h1, h2⟩ => ⟨h1, fun W hW => h2 W (hC W hW)⟩) id

/-- One operation 'oj', apart from 'oi': whether 'oi''s value is already in its temporary makes no difference to it, and it makes none to 'oi'. -/
theorem uOp_put {j : Nat} {oi oj : Oper} {v : Value} (hj : ops[j]? = some oj) (hap : oi.apart ops oj = true)
    (hsi : ∀ cs b, oi.op ≠ .select cs b) (hsj : ∀ cs b, oj.op ≠ .select cs b) {K : Act → (World → Prop) → Prop} {a : Act} {C : World → Prop}
    (hy : YieldsU P ops C oi v a) (hU : Up C) (h : uOp P ops j K (a.put oi.dst v) C) :
    uOp P ops j (fun a' C' => YieldsU P ops C' oi v a' ∧ Up C' ∧ K (a'.put oi.dst v) C') a C := by
  obtain ⟨h1, h2, h3⟩ := Oper.apart_spec hap
  have keep : ∀ (D : World → Prop) (u : Value), (∀ W, D W → C W) → YieldsU P ops D oi v (a.put oj.dst u) := fun D u hD =>
    hy.of_same hD (execOp_put oi hsi a oj.dst u h3) (wanted_put oi a oj.dst u h3)
  unfold uOp at *
  simp only [hj] at *
  rw [wanted_put oj a oi.dst v h1] at h
  split
  · rename_i hw
    simp only [hw, if_true] at h
    obtain ⟨T, hT, hd, hk⟩ := h
    refine ⟨T, hT, ?_, fun u => ⟨keep _ u (fun W hW => hW.1), hU.and (hT u), by rw [← Act.put_comm a v u h2]; exact hk u⟩⟩
    unfold doesIn at *
    rw [execOp_put oj hsj a oi.dst v h1] at hd
    exact hd
  · rename_i hw
    simp only [hw] at h
    exact ⟨keep _ undef (fun W hW => hW), hU, by rw [← Act.put_comm a v undef h2]; exact h⟩
theorem YieldsU.uOp {i : Nat} {o : Oper} {v : Value} {a : Act} {C : World → Prop} {fuel : Nat} {listed : Array Bool} (hi : ops[i]? = some o) (hy : YieldsU P ops C o v a)
    (h : wpU P md ops Q fuel listed (a.put o.dst v) C) : uOp P ops i (wpU P md ops Q fuel listed) a C := by
  unfold RegionU.uOp
  simp only [hi]
  rcases hy with ⟨hw, hv⟩ | ⟨hw, rfl⟩
  · simp only [hw, if_true]
    refine ⟨fun u _ => u = v, fun u => up_const _, hv, fun u => ?_⟩
    by_cases hu : u = v
    · subst hu; exact wpU_mono _ _ _ _ _ (fun W hW => hW.1) h
    · exact wpU_bot _ _ _ _ (fun W hW => hu hW.2)
  · simp only [hw, Bool.false_eq_true, if_false]; exact h

/-- An operation that may come up now may be taken first, if in this state it yields one value in every world of which C is said, and every other one that has not come up yet either waits for it or is apart from it. -/
theorem wpU_first {i : Nat} {oi : Oper} {v : Value} (hi : ops[i]? = some oi) (hsel : ∀ (j : Nat) (o : Oper) cs b, ops[j]? = some o → o.op ≠ .select cs b) :
    ∀ (fuel : Nat) (listed : Array Bool) (a : Act) (C : World → Prop),
      (∀ j oj, ops[j]? = some oj → j ≠ i → listed.getD j true = false → (∀ e ∈ oj.after, Region.binds md e = true → e.on ≠ i) → oi.apart ops oj = true) →
      i ∈ Region.ready md ops listed → YieldsU P ops C oi v a → Up C →
      wpU P md ops Q fuel (listed.setIfInBounds i true) (a.put oi.dst v) C → wpU P md ops Q (fuel + 1) listed a C := by
  intro fuel
  induction fuel with
  | zero =>
    intro listed a C _ hr hy hU H
    by_cases hC : ∃ W, C W
    · obtain ⟨W, hW⟩ := hC
      refine ⟨fun h => (by rw [h] at hr; cases hr), fun j hj => ?_⟩
      by_cases hji : j = i
      · subst hji; exact hy.uOp hi H
      · have := ready_mono hj hji
        rw [(H W hW).1] at this
        cases this
    · exact wpU_bot _ _ _ _ (fun W hW => hC ⟨W, hW⟩)
  | succ fuel ih =>
    intro listed a C hfree hr hy hU H
    refine ⟨fun h => (by rw [h] at hr; cases hr), fun j hj => ?_⟩
    by_cases hji : j = i
    · subst hji; exact hy.uOp hi H
    · have h1 := H.2 j (ready_mono hj hji)
      obtain ⟨hjun, oj, hoj, hall⟩ := mem_ready.1 hj
      have hnot : ∀ e ∈ oj.after, Region.binds md e = true → e.on ≠ i := fun e he hb heq => by
        have h1 := hall e he hb
        have h0 := (mem_ready.1 hr).1
        rw [heq] at h1
        rcases Nat.lt_or_ge i listed.size with h' | h'
        · simp [h'] at h0 h1; rw [h0] at h1; cases h1
        · simp [Array.getElem?_eq_none h'] at h1
      have h2 := uOp_put hoj (hfree j oj hoj hji hjun hnot) (fun cs b => hsel i oi cs b hi) (fun cs b => hsel j oj cs b hoj) hy hU h1
      have hfree' : ∀ k ok, ops[k]? = some ok → k ≠ i → (listed.setIfInBounds j true).getD k true = false →
          (∀ e ∈ ok.after, Region.binds md e = true → e.on ≠ i) → oi.apart ops ok = true := fun k ok hk hki hun hno => by
        refine hfree k ok hk hki ?_ hno
        by_cases hjk : j = k
        · subst hjk; exact hjun
        · rw [getD_set_ne true hjk] at hun; exact hun
      refine uOp_mono (fun W hW => hW) (fun a' D D' hD h3 => ?_) h2
      refine wpU_mono _ _ _ _ _ hD (ih (listed.setIfInBounds j true) a' D hfree' (ready_mono hr (Ne.symm hji)) h3.1 h3.2.1 ?_)
      rw [Array.setIfInBounds_comm _ _ hji]
      exact h3.2.2

/-! ### The moves -/
theorem wpU_take {i : Nat} {oi : Oper} {v : Value} {fuel : Nat} {listed : Array Bool} {a : Act} {C : World → Prop} (hi : ops[i]? = some oi)
    (hs : Region.noSelect ops = true) (hf : Region.free md ops listed i = true) (hr : (Region.ready md ops listed).contains i = true) (hU : Up C) (hy : YieldsU P ops C oi v a)
    (h : wpU P md ops Q fuel (listed.setIfInBounds i true) (a.put oi.dst v) C) : wpU P md ops Q (fuel + 1) listed a C :=
  wpU_first hi (Region.noSelect_spec hs) fuel listed a C (Region.free_spec hi hf) (by simpa using hr) hy hU h
theorem at_drop {i : Nat} {oi : Oper} {rest : List Oper} (hi : ops.toList.drop i = oi :: rest) : ops[i]? = some oi := by
  have h : (ops.toList.drop i)[0]? = some oi := by rw [hi]; rfl
  rw [List.getElem?_drop] at h
  simpa using h
/-- The same, the value to be found on the way. -/
theorem wpU_taken {i : Nat} {oi : Oper} {rest : List Oper} {fuel : Nat} {listed : Array Bool} {a : Act} {C : World → Prop} (hi : ops.toList.drop i = oi :: rest)
    (hs : Region.noSelect ops = true) (hf : Region.free md ops listed i = true) (hr : (Region.ready md ops listed).contains i = true) (hU : Up C)
    (h : ∃ v, YieldsU P ops C oi v a ∧ wpU P md ops Q fuel (listed.setIfInBounds i true) (a.put oi.dst v) C) : wpU P md ops Q (fuel + 1) listed a C :=
  let ⟨_, h1, h2⟩ := h
  wpU_take (at_drop hi) hs hf hr hU h1 h2
/-- The one that alone may come up, of whose value T is said. -/
theorem wpU_one {i : Nat} {o : Oper} {rest : List Oper} {fuel : Nat} {listed : Array Bool} {a : Act} {C : World → Prop} (hr : Region.ready md ops listed = [i]) (hi : ops.toList.drop i = o :: rest) (hw : Region.wanted o (yielded ops a.tmps) = true)
    (T : Value → World → Prop) (hT : ∀ u, Up (T u)) (hd : doesIn P o a C T) (h : ∀ u, wpU P md ops Q fuel (listed.setIfInBounds i true) (a.put o.dst u) (fun W => C W ∧ T u W)) : wpU P md ops Q (fuel + 1) listed a C :=
  ⟨(fun h0 => by rw [h0] at hr; cases hr), fun j hj => by
    rw [hr] at hj
    rw [List.mem_singleton] at hj
    subst hj
    unfold uOp
    simp only [at_drop hi, hw, if_true]
    exact ⟨T, hT, hd, h⟩⟩
/-- Two may come up, each of which makes memory. -/
theorem wpU_two {i j : Nat} {o o' : Oper} {rest rest' : List Oper} {fuel : Nat} {listed : Array Bool} {a : Act} {C : World → Prop} (hr : Region.ready md ops listed = [i, j]) (hi : ops.toList.drop i = o :: rest) (hj : ops.toList.drop j = o' :: rest')
    (hw : Region.wanted o (yielded ops a.tmps) = true) (hw' : Region.wanted o' (yielded ops a.tmps) = true)
    (T T' : Value → World → Prop) (hT : ∀ u, Up (T u)) (hT' : ∀ u, Up (T' u)) (hd : doesIn P o a C T) (hd' : doesIn P o' a C T')
    (h : ∀ u, wpU P md ops Q fuel (listed.setIfInBounds i true) (a.put o.dst u) (fun W => C W ∧ T u W)) (h' : ∀ u, wpU P md ops Q fuel (listed.setIfInBounds j true) (a.put o'.dst u) (fun W => C W ∧ T' u W)) : wpU P md ops Q (fuel + 1) listed a C :=
  ⟨(fun h0 => by rw [h0] at hr; cases hr), fun k hk => by
    rw [hr] at hk
    rcases List.mem_cons.1 hk with rfl | hk
    · unfold uOp
      simp only [at_drop hi, hw, if_true]
      exact ⟨T, hT, hd, h⟩
    · rw [List.mem_singleton] at hk
      subst hk
      unfold uOp
      simp only [at_drop hj, hw', if_true]
      exact ⟨T', hT', hd', h'⟩⟩
theorem wpU_done {fuel : Nat} {listed : Array Bool} {a : Act} {C : World → Prop} (hr : Region.ready md ops listed = []) (h : ∀ W, C W → Q .normal a W) : wpU P md ops Q fuel listed a C := by
  cases fuel with
  | zero => exact fun W hW => ⟨hr, h W hW⟩
  | succ n => exact ⟨fun _ => h, fun i hi => by rw [hr] at hi; cases hi⟩
theorem wp_region_U {id : Nat} {a : Act} {w : World} {C : World → Prop} (hm : P.follows .mixedOrders = true) (hU : Up C) (hC : C w.drew)
    (h : wpU P .any ops Q ops.size (Array.replicate ops.size false) a C) : (Code.region id ops true).wp P Q a w :=
  wp_region_any hm (wpAny_of_U _ _ _ C _ hU hC h)
end
end Go.Proofs.Ytfhddbjojpmbcaa.RegionU
set_option linter.unusedVariables false
namespace Go.Proofs.Ytfhddbjojpmbcaa.RegionU
open Go Go.RowKit
section
variable {P : Program} {ops : Array Oper} {Q : Exit → Act → World → Prop} {md : Region.Mode} {n g : Nat} {E : Act → World → Prop} {F : Fence} {m : Nat}

def wpT (P : Program) (md : Region.Mode) (ops : Array Oper) (n g : Nat) (E : Act → World → Prop) : Nat → Array Bool → Act → (World → Prop) → Prop
  | 0, listed, a, C => ∀ W, C W → Region.seqB md ops g n listed = true ∧ E a W
  | fuel + 1, listed, a, C => (∃ W, C W) → Region.ready md ops listed ≠ [] ∧ ∀ i ∈ Region.ready md ops listed, i < n ∧ uOp P ops i (wpT P md ops n g E fuel (listed.setIfInBounds i true)) a C
theorem wpT_mono : ∀ (fuel : Nat) (listed : Array Bool) (a : Act) (C C' : World → Prop), (∀ W, C' W → C W) → wpT P md ops n g E fuel listed a C → wpT P md ops n g E fuel listed a C'
  | 0, _, _, _, _, hC, h => fun W hW => h W (hC W hW)
  | fuel + 1, _, _, _, _, hC, h => fun ⟨W, hW⟩ => ⟨(h ⟨W, hC W hW⟩).1, fun i hi => ⟨((h ⟨W, hC W hW⟩).2 i hi).1, uOp_mono hC (fun a D D' hD hk => wpT_mono fuel _ a D D' hD hk) ((h ⟨W, hC W hW⟩).2 i hi).2⟩⟩
theorem wpT_bot (fuel : Nat) (listed : Array Bool) (a : Act) (C : World → Prop) (h : ∀ W, ¬ C W) : wpT P md ops n g E fuel listed a C := by
  cases fuel with
  | zero => exact fun W hW => absurd hW (h W)
  | succ f => exact fun ⟨W, hW⟩ => absurd hW (h W)
theorem YieldsU.uOpT {i : Nat} {o : Oper} {v : Value} {a : Act} {C : World → Prop} {fuel : Nat} {listed : Array Bool} (hi : ops[i]? = some o) (hy : YieldsU P ops C o v a)
    (h : wpT P md ops n g E fuel listed (a.put o.dst v) C) : RegionU.uOp P ops i (wpT P md ops n g E fuel listed) a C := by
  unfold RegionU.uOp
  simp only [hi]
  rcases hy with ⟨hw, hv⟩ | ⟨hw, rfl⟩
  · simp only [hw, if_true]
    refine ⟨fun u _ => u = v, fun u => up_const _, hv, fun u => ?_⟩
    by_cases hu : u = v
    · subst hu; exact wpT_mono _ _ _ _ _ (fun W hW => hW.1) h
    · exact wpT_bot _ _ _ _ (fun W hW => hu hW.2)
  · simp only [hw, Bool.false_eq_true, if_false]; exact h

theorem wpT_first {i : Nat} {oi : Oper} {v : Value} (hi : ops[i]? = some oi) (hsel : ∀ (j : Nat) (o : Oper) cs b, ops[j]? = some o → o.op ≠ .select cs b)
    (hs : Region.sinkB md ops n = true) (hc : Region.chainB md ops n = true) (hn : n < ops.size) (hin : i < n) :
    ∀ (fuel : Nat) (listed : Array Bool) (a : Act) (C : World → Prop), HeadInv md ops n listed →
      (∀ j oj, ops[j]? = some oj → j ≠ i → listed.getD j true = false → (∀ e ∈ oj.after, Region.binds md e = true → e.on ≠ i) → oi.apart ops oj = true) →
      i ∈ Region.ready md ops listed → YieldsU P ops C oi v a → Up C →
      wpT P md ops n g E fuel (listed.setIfInBounds i true) (a.put oi.dst v) C → wpT P md ops n g E (fuel + 1) listed a C := by
  intro fuel
  induction fuel with
  | zero =>
    intro listed a C inv _ hr hy hU H
    have hun := (mem_ready.1 hr).1
    rintro ⟨W, hW⟩
    refine ⟨fun h => (by rw [h] at hr; cases hr), fun j hj => ?_⟩
    have hjn : j < n := by
      rcases Nat.lt_or_ge j n with h | h
      · exact h
      · exact absurd hj (tail_waits hs hc hn inv _ i rfl hin hun j h)
    refine ⟨hjn, ?_⟩
    by_cases hji : j = i
    · subst hji; exact hy.uOpT hi H
    · have := seqB_ready (H W hW).1 j (ready_mono hj hji)
      omega
  | succ fuel ih =>
    intro listed a C inv hfree hr hy hU H
    have hun := (mem_ready.1 hr).1
    rintro ⟨W, hW⟩
    refine ⟨fun h => (by rw [h] at hr; cases hr), fun j hj => ?_⟩
    have hjn : j < n := by
      rcases Nat.lt_or_ge j n with h | h
      · exact h
      · exact absurd hj (tail_waits hs hc hn inv _ i rfl hin hun j h)
    refine ⟨hjn, ?_⟩
    by_cases hji : j = i
    · subst hji; exact hy.uOpT hi H
    · have h1 := ((H ⟨W, hW⟩).2 j (ready_mono hj hji)).2
      obtain ⟨hjun, oj, hoj, hall⟩ := mem_ready.1 hj
      have hnot : ∀ e ∈ oj.after, Region.binds md e = true → e.on ≠ i := fun e he hb heq => by
        have h1 := hall e he hb
        rw [heq, getD_both hun] at h1
        cases h1
      have h2 := uOp_put hoj (hfree j oj hoj hji hjun hnot) (fun cs b => hsel i oi cs b hi) (fun cs b => hsel j oj cs b hoj) hy hU h1
      have hfree' : ∀ k ok, ops[k]? = some ok → k ≠ i → (listed.setIfInBounds j true).getD k true = false →
          (∀ e ∈ ok.after, Region.binds md e = true → e.on ≠ i) → oi.apart ops ok = true := fun k ok hk hki hun hno => by
        refine hfree k ok hk hki ?_ hno
        by_cases hjk : j = k
        · subst hjk; exact hjun
        · rw [getD_set_ne true hjk] at hun; exact hun
      refine uOp_mono (fun W hW => hW) (fun a' D D' hD h3 => ?_) h2
      refine wpT_mono _ _ _ _ _ hD (ih (listed.setIfInBounds j true) a' D (inv.set hj hjn) hfree' (ready_mono hr (Ne.symm hji)) h3.1 h3.2.1 ?_)
      rw [Array.setIfInBounds_comm _ _ hji]
      exact h3.2.2

/-! ### The moves -/
def headB (md : Region.Mode) (ops : Array Oper) (n : Nat) (listed : Array Bool) : Bool :=
  listed.size == ops.size && (List.range ops.size).all (fun j => !(listed.getD j false) || (match ops[j]? with | some oj => oj.after.toList.all fun e => !(Region.binds md e) || listed.getD e.on false | none => true)) &&
    (List.range ops.size).all fun t => decide (t < n) || !(listed.getD t true)
theorem headB_spec {listed : Array Bool} (h : headB md ops n listed = true) : HeadInv md ops n listed := by
  simp only [headB, Bool.and_eq_true, beq_iff_eq, List.all_eq_true, List.mem_range, Bool.or_eq_true, Bool.not_eq_true', decide_eq_true_eq] at h
  obtain ⟨⟨h1, h2⟩, h3⟩ := h
  refine ⟨h1, fun j oj hj hl e he hb => ?_, fun t ht ht' => ?_⟩
  · have hjs := (Array.getElem?_eq_some_iff.1 hj).1
    rcases h2 j hjs with h4 | h4
    · rw [hl] at h4; cases h4
    · simp only [hj] at h4
      rw [List.all_eq_true] at h4
      have := h4 e (by simpa using he)
      rw [hb] at this
      simpa using this
  · rcases h3 t ht' with h4 | h4
    · omega
    · exact h4
def setB (md : Region.Mode) (ops : Array Oper) (n : Nat) : Bool := Region.noSelect ops && decide (n < ops.size) && Region.sinkB md ops n && Region.chainB md ops n
theorem wpT_taken {i : Nat} {oi : Oper} {rest : List Oper} {fuel : Nat} {listed : Array Bool} {a : Act} {C : World → Prop} (hi : ops.toList.drop i = oi :: rest)
    (hs : setB md ops n = true) (hin : decide (i < n) = true) (hh : headB md ops n listed = true) (hf : Region.free md ops listed i = true) (hr : (Region.ready md ops listed).contains i = true) (hU : Up C)
    (h : ∃ v, YieldsU P ops C oi v a ∧ wpT P md ops n g E fuel (listed.setIfInBounds i true) (a.put oi.dst v) C) : wpT P md ops n g E (fuel + 1) listed a C := by
  obtain ⟨v, h1, h2⟩ := h
  simp only [setB, Bool.and_eq_true, decide_eq_true_eq] at hs
  exact wpT_first (at_drop hi) (Region.noSelect_spec hs.1.1.1) hs.1.2 hs.2 hs.1.1.2 (by simpa using hin) fuel listed a C (headB_spec hh) (Region.free_spec (at_drop hi) hf) (by simpa using hr) h1 hU h2
theorem wpT_one {i : Nat} {o : Oper} {rest : List Oper} {fuel : Nat} {listed : Array Bool} {a : Act} {C : World → Prop} (hr : Region.ready md ops listed = [i]) (hin : decide (i < n) = true) (hi : ops.toList.drop i = o :: rest) (hw : Region.wanted o (yielded ops a.tmps) = true)
    (T : Value → World → Prop) (hT : ∀ u, Up (T u)) (hd : doesIn P o a C T) (h : ∀ u, wpT P md ops n g E fuel (listed.setIfInBounds i true) (a.put o.dst u) (fun W => C W ∧ T u W)) : wpT P md ops n g E (fuel + 1) listed a C :=
  fun _ => ⟨(fun h0 => by rw [h0] at hr; cases hr), fun j hj => by
    rw [hr] at hj
    rw [List.mem_singleton] at hj
    subst hj
    refine ⟨by simpa using hin, ?_⟩
    unfold uOp
    simp only [at_drop hi, hw, if_true]
    exact ⟨T, hT, hd, h⟩⟩
theorem wpT_done {listed : Array Bool} {a : Act} {C : World → Prop} (hq : Region.seqB md ops g n listed = true) (h : ∀ W, C W → E a W) : wpT P md ops n g E 0 listed a C :=
  fun W hW => ⟨hq, h W hW⟩

/-! ### It serves every order -/
def noDefer (ops : Array Oper) : Bool := ops.toList.all fun o => match o.op with | .defer _ => false | _ => true
theorem noDefer_spec (h : noDefer ops = true) {i : Nat} {o : Oper} (hi : ops[i]? = some o) : ∀ c, o.op ≠ .defer c := fun c hc => by
  simp only [noDefer, List.all_eq_true] at h
  have := h o (by
    rw [Array.getElem?_eq_some_iff] at hi
    obtain ⟨h1, h2⟩ := hi
    rw [← h2]; simp)
  rw [hc] at this; cases this
theorem wpAnyIn_of_seq (hF : ∀ f, F.fn f) : ∀ (l : List Oper) (k : Nat) (listed : Array Bool) (a : Act) (w : World), (∀ j, l[j]? = ops[k + j]?) →
    Region.seqB md ops l.length k listed = true → wpListIn F m P ops Q l a w → wpAnyIn F m P md ops Q l.length listed a w
  | [], _, _, _, _, _, hB, h => ⟨by simpa [Region.seqB] using hB, h⟩
  | o :: l, k, listed, a, w, hl, hB, h => by
    have h0 : ops[k]? = some o := by simpa using (hl 0).symm
    simp only [List.length_cons, Region.seqB, Bool.and_eq_true, decide_eq_true_eq] at hB
    refine ⟨fun h1 => (by rw [hB.1] at h1; cases h1), fun i hi => ?_⟩
    rw [hB.1] at hi
    have hik : i = k := by simpa using hi
    subst hik
    have hw : wpOpIn F m P ops Q i (wpListIn F m P ops Q l) a w := by unfold wpOpIn; simp only [h0]; exact h
    exact wpOpIn_mono (fun a' w' h' => wpAnyIn_of_seq hF l (i + 1) _ a' w' (fun j => by have := hl (j + 1); simpa [Nat.add_assoc, Nat.add_comm 1 j] using this) hB.2 h') hw
theorem wpAnyIn_of_T (hF : ∀ f, F.fn f) (hd : F.depth = none) (hc : ∀ {f : FuncId} {args : Array Value} {W : World} {R : Ending → World → Prop}, Calls P f args W R → CallsIn F (m - 1) P f args W R) (hnd : noDefer ops = true)
    (hE : ∀ listed a W, Region.seqB md ops g n listed = true → E a W → wpAnyIn F m P md ops Q g listed a W) :
    ∀ (fuel : Nat) (listed : Array Bool) (a : Act) (C : World → Prop) (W : World), Up C → C W → wpT P md ops n g E fuel listed a C → wpAnyIn F m P md ops Q (fuel + g) listed a W
  | 0, listed, a, C, W, _, hW, h => by rw [Nat.zero_add]; exact hE _ _ _ (h W hW).1 (h W hW).2
  | fuel + 1, listed, a, C, W, hU, hW, h => by
    rw [show fuel + 1 + g = (fuel + g) + 1 by omega]
    refine ⟨fun h0 => absurd h0 (h ⟨W, hW⟩).1, fun i hi => ?_⟩
    have h1 := ((h ⟨W, hW⟩).2 i hi).2
    unfold uOp at h1
    unfold wpOpIn
    split
    · rename_i ho; simp only [ho] at h1; exact wpAnyIn_of_T hF hd hc hnd hE fuel _ _ C W hU hW h1
    · rename_i o ho
      simp only [ho] at h1
      split
      · rename_i hw
        simp only [hw, if_true] at h1
        obtain ⟨T, hT, hdd, hk⟩ := h1
        have hd1 := hdd W hW
        unfold Oper.wpIn
        refine ⟨fun f _ => hF f, ?_⟩
        rw [Oper.semAt_plain F a.eval o (noDefer_spec hnd ho)]
        generalize (execOp a.eval o).run P W = r at *
        have go : ∀ u W', T u W' → R W W' → wpAnyIn F m P md ops Q (fuel + g) (listed.setIfInBounds i true) (a.put o.dst u) W' := fun u W' ht hr =>
          wpAnyIn_of_T hF hd hc hnd hE fuel _ _ _ W' (hU.and (hT u)) ⟨hU W W' hW hr, ht⟩ (hk u)
        cases r with
        | ok x W' =>
          cases x <;> simp only [does] at hd1 <;> simp only [Oper.uponIn]
          case value u => exact go u W' hd1.1 hd1.2
          case skip => exact go undef W' hd1.1 hd1.2
          case enter f args =>
            obtain ⟨e1, hcall⟩ := hd1
            rw [e1]
            refine ⟨fun h => (by rw [hd] at h; cases h), (hc hcall).mono fun e W'' ⟨u, he, ht, hr⟩ => ?_⟩
            subst he; exact go u W'' ht hr
        | halt x W' => simp only [does] at hd1
      · rename_i hw; simp only [hw] at h1; exact ⟨fun f _ => hF f, wpAnyIn_of_T hF hd hc hnd hE fuel _ _ C W hU hW h1⟩
theorem wpIn_region_T {id : Nat} {a : Act} {w : World} {l : List Oper} {C : World → Prop} (k : Nat) (hF : ∀ f, F.fn f) (hd : F.depth = none) (hc : ∀ {f : FuncId} {args : Array Value} {W : World} {R : Ending → World → Prop}, Calls P f args W R → CallsIn F (m - 1) P f args W R)
    (hm : P.follows .mixedOrders = true) (hnd : noDefer l.toArray = true) (hk : decide (k ≤ l.length) = true) (hU : Up C) (hC : C w.drew)
    (h : wpT P .any l.toArray k (l.length - k) (fun a' W => wpListIn F m P l.toArray Q (l.drop k) a' W) k (Array.replicate l.toArray.size false) a C) : (Code.region id l.toArray true).wpIn F m P Q a w := by
  refine wpIn_region_any hm ?_
  have hk' : k ≤ l.length := by simpa using hk
  have := wpAnyIn_of_T (Q := Q) hF hd hc hnd (fun listed a' W hB hE => by
    have hl : (l.drop k).length = l.length - k := by simp
    have := wpAnyIn_of_seq (md := .any) (Q := Q) hF (l.drop k) k listed a' W (fun j => by simp [List.getElem?_drop]) (by rw [hl]; exact hB) hE
    rwa [hl] at this) k _ a C w.drew hU hC h
  rw [show k + (l.length - k) = l.toArray.size by simp; omega] at this
  exact this
end
end Go.Proofs.Ytfhddbjojpmbcaa.RegionU
set_option linter.unusedVariables false
namespace Go.Proofs.Ytfhddbjojpmbcaa.RegionU
open Go Go.RowKit
section
variable {P : Program} {ops : Array Oper} {Q : Exit → Act → World → Prop} {md : Region.Mode} {n g : Nat} {E : Act → World → Prop}
/-- Two may come up, each of which makes memory. -/
theorem wpT_two {i j : Nat} {o o' : Oper} {rest rest' : List Oper} {fuel : Nat} {listed : Array Bool} {a : Act} {C : World → Prop} (hr : Region.ready md ops listed = [i, j]) (hin : decide (i < n) = true) (hjn : decide (j < n) = true) (hi : ops.toList.drop i = o :: rest) (hj : ops.toList.drop j = o' :: rest')
    (hw : Region.wanted o (yielded ops a.tmps) = true) (hw' : Region.wanted o' (yielded ops a.tmps) = true)
    (T T' : Value → World → Prop) (hT : ∀ u, Up (T u)) (hT' : ∀ u, Up (T' u)) (hd : doesIn P o a C T) (hd' : doesIn P o' a C T')
    (h : ∀ u, wpT P md ops n g E fuel (listed.setIfInBounds i true) (a.put o.dst u) (fun W => C W ∧ T u W)) (h' : ∀ u, wpT P md ops n g E fuel (listed.setIfInBounds j true) (a.put o'.dst u) (fun W => C W ∧ T' u W)) : wpT P md ops n g E (fuel + 1) listed a C :=
  fun _ => ⟨(fun h0 => by rw [h0] at hr; cases hr), fun k hk => by
    rw [hr] at hk
    rcases List.mem_cons.1 hk with rfl | hk
    · refine ⟨by simpa using hin, ?_⟩
      unfold uOp
      simp only [at_drop hi, hw, if_true]
      exact ⟨T, hT, hd, h⟩
    · rw [List.mem_singleton] at hk
      subst hk
      refine ⟨by simpa using hjn, ?_⟩
      unfold uOp
      simp only [at_drop hj, hw', if_true]
      exact ⟨T', hT', hd', h'⟩⟩
theorem wpAny_of_T (hE : ∀ listed a W, Region.seqB md ops g n listed = true → E a W → wpAny P md ops Q g listed a W) :
    ∀ (fuel : Nat) (listed : Array Bool) (a : Act) (C : World → Prop) (W : World), Up C → C W → wpT P md ops n g E fuel listed a C → wpAny P md ops Q (fuel + g) listed a W
  | 0, listed, a, C, W, _, hW, h => by rw [Nat.zero_add]; exact hE _ _ _ (h W hW).1 (h W hW).2
  | fuel + 1, listed, a, C, W, hU, hW, h => by
    rw [show fuel + 1 + g = (fuel + g) + 1 by omega]
    refine ⟨fun h0 => absurd h0 (h ⟨W, hW⟩).1, fun i hi => ?_⟩
    have h1 := ((h ⟨W, hW⟩).2 i hi).2
    unfold uOp at h1
    unfold wpOp
    split
    · rename_i ho; simp only [ho] at h1; exact wpAny_of_T hE fuel _ _ C W hU hW h1
    · rename_i o ho
      simp only [ho] at h1
      split
      · rename_i hw
        simp only [hw, if_true] at h1
        obtain ⟨T, hT, hdd, hk⟩ := h1
        refine .inl ?_
        have hd1 := hdd W hW
        unfold Oper.wp
        generalize (execOp a.eval o).run P W = r at *
        have go : ∀ u W', T u W' → R W W' → wpAny P md ops Q (fuel + g) (listed.setIfInBounds i true) (a.put o.dst u) W' := fun u W' ht hr =>
          wpAny_of_T hE fuel _ _ _ W' (hU.and (hT u)) ⟨hU W W' hW hr, ht⟩ (hk u)
        cases r with
        | ok x W' =>
          cases x <;> simp only [does] at hd1 <;> simp only [Oper.upon]
          case value u => exact go u W' hd1.1 hd1.2
          case skip => exact go undef W' hd1.1 hd1.2
          case enter f args =>
            obtain ⟨e1, hcall⟩ := hd1
            rw [e1]
            exact hcall.mono fun e W'' ⟨u, he, ht, hr⟩ => by subst he; exact go u W'' ht hr
        | halt x W' => simp only [does] at hd1
      · rename_i hw; simp only [hw] at h1; exact wpAny_of_T hE fuel _ _ C W hU hW h1
theorem wp_region_T {id : Nat} {a : Act} {w : World} {l : List Oper} {C : World → Prop} (k : Nat)
    (hm : P.follows .mixedOrders = true) (hk : decide (k ≤ l.length) = true) (hU : Up C) (hC : C w.drew)
    (h : wpT P .any l.toArray k (l.length - k) (fun a' W => wpList P l.toArray Q (l.drop k) a' W) k (Array.replicate l.toArray.size false) a C) : (Code.region id l.toArray true).wp P Q a w := by
  refine wp_region_any hm ?_
  have hk' : k ≤ l.length := by simpa using hk
  have := wpAny_of_T (Q := Q) (fun listed a' W hB hE => by
    have hl : (l.drop k).length = l.length - k := by simp
    have := wpAny_of_seq (md := .any) (Q' := Q) (l.drop k) k listed a' W (fun j => by simp [List.getElem?_drop]) (by rw [hl]; exact hB) hE
    rwa [hl] at this) k _ a C w.drew hU hC h
  rw [show k + (l.length - k) = l.toArray.size by simp; omega] at this
  exact this
end
end Go.Proofs.Ytfhddbjojpmbcaa.RegionU
set_option linter.unusedVariables false
namespace Go.Proofs.Ytfhddbjojpmbcaa.RegionU
open Go Go.RowKit
section
variable {P : Program} {ops : Array Oper} {Q : Exit → Act → World → Prop} {md : Region.Mode} {n g : Nat}

def wpS (P : Program) (md : Region.Mode) (ops : Array Oper) (Q : Exit → Act → World → Prop) (n g : Nat) : Nat → Array Bool → Act → (World → Prop) → Prop
  | 0, listed, a, C => ∀ W, C W → (∀ j ∈ Region.ready md ops listed, n ≤ j) ∧ wpAny P md ops Q g listed a W
  | fuel + 1, listed, a, C => (∃ W, C W) → Region.ready md ops listed ≠ [] ∧ ∀ i ∈ Region.ready md ops listed,
      (i < n ∧ uOp P ops i (wpS P md ops Q n g fuel (listed.setIfInBounds i true)) a C) ∨ (n ≤ i ∧ ∀ W, C W → wpOp P ops Q i (wpAny P md ops Q (fuel + g) (listed.setIfInBounds i true)) a W)
theorem wpS_mono : ∀ (fuel : Nat) (listed : Array Bool) (a : Act) (C C' : World → Prop), (∀ W, C' W → C W) → wpS P md ops Q n g fuel listed a C → wpS P md ops Q n g fuel listed a C'
  | 0, _, _, _, _, hC, h => fun W hW => h W (hC W hW)
  | fuel + 1, _, _, _, _, hC, h => fun ⟨W, hW⟩ => ⟨(h ⟨W, hC W hW⟩).1, fun i hi => ((h ⟨W, hC W hW⟩).2 i hi).imp (fun h1 => ⟨h1.1, uOp_mono hC (fun a D D' hD hk => wpS_mono fuel _ a D D' hD hk) h1.2⟩) fun h1 => ⟨h1.1, fun W hW => h1.2 W (hC W hW)⟩⟩
theorem wpS_bot (fuel : Nat) (listed : Array Bool) (a : Act) (C : World → Prop) (h : ∀ W, ¬ C W) : wpS P md ops Q n g fuel listed a C := by
  cases fuel with
  | zero => exact fun W hW => absurd hW (h W)
  | succ f => exact fun ⟨W, hW⟩ => absurd hW (h W)
/-- What is known of whatever world there is. -/
theorem wpS_have {p : Prop} {fuel : Nat} {listed : Array Bool} {a : Act} {C : World → Prop} (h : ∀ W, C W → p) (hp : p → wpS P md ops Q n g fuel listed a C) : wpS P md ops Q n g fuel listed a C := by
  by_cases hC : ∃ W, C W
  · obtain ⟨W, hW⟩ := hC; exact hp (h W hW)
  · exact wpS_bot _ _ _ _ fun W hW => hC ⟨W, hW⟩
theorem YieldsU.uOpS {i : Nat} {o : Oper} {v : Value} {a : Act} {C : World → Prop} {fuel : Nat} {listed : Array Bool} (hi : ops[i]? = some o) (hy : YieldsU P ops C o v a)
    (h : wpS P md ops Q n g fuel listed (a.put o.dst v) C) : RegionU.uOp P ops i (wpS P md ops Q n g fuel listed) a C := by
  unfold RegionU.uOp
  simp only [hi]
  rcases hy with ⟨hw, hv⟩ | ⟨hw, rfl⟩
  · simp only [hw, if_true]
    refine ⟨fun u _ => u = v, fun u => up_const _, hv, fun u => ?_⟩
    by_cases hu : u = v
    · subst hu; exact wpS_mono _ _ _ _ _ (fun W hW => hW.1) h
    · exact wpS_bot _ _ _ _ (fun W hW => hu hW.2)
  · simp only [hw, Bool.false_eq_true, if_false]; exact h
theorem yields_u {o : Oper} {v : Value} {a : Act} {C : World → Prop} (h : Yields P ops o v a) : YieldsU P ops C o v a := by
  rcases h with ⟨h1, h2⟩ | h
  · exact .inl ⟨h1, fun W _ => by rw [h2 W]; exact does_value rfl⟩
  · exact .inr h
theorem uOp_putY {j : Nat} {oi oj : Oper} {v : Value} (hj : ops[j]? = some oj) (hap : oi.apart ops oj = true)
    (hsi : ∀ cs b, oi.op ≠ .select cs b) (hsj : ∀ cs b, oj.op ≠ .select cs b) {K : Act → (World → Prop) → Prop} {a : Act} {C : World → Prop}
    (hy : Yields P ops oi v a) (hU : Up C) (h : uOp P ops j K (a.put oi.dst v) C) :
    uOp P ops j (fun a' C' => Yields P ops oi v a' ∧ Up C' ∧ K (a'.put oi.dst v) C') a C := by
  obtain ⟨h1, h2, h3⟩ := Oper.apart_spec hap
  have keep : ∀ u : Value, Yields P ops oi v (a.put oj.dst u) := fun u => hy.of_same (execOp_put oi hsi a oj.dst u h3) (wanted_put oi a oj.dst u h3)
  unfold uOp at *
  simp only [hj] at *
  rw [wanted_put oj a oi.dst v h1] at h
  split
  · rename_i hw
    simp only [hw, if_true] at h
    obtain ⟨T, hT, hd, hk⟩ := h
    refine ⟨T, hT, ?_, fun u => ⟨keep u, hU.and (hT u), by rw [← Act.put_comm a v u h2]; exact hk u⟩⟩
    unfold doesIn at *
    rw [execOp_put oj hsj a oi.dst v h1] at hd
    exact hd
  · rename_i hw
    simp only [hw] at h
    exact ⟨keep undef, hU, by rw [← Act.put_comm a v undef h2]; exact h⟩
/-- Each operation of the tail waits for number i. -/
def tailAfter (md : Region.Mode) (ops : Array Oper) (n i : Nat) : Bool := (List.range ops.size).all fun j => decide (j < n) || (match ops[j]? with | some oj => oj.after.any (fun e => Region.binds md e && e.on == i) | none => true)
theorem tailAfter_spec {i j : Nat} {listed : Array Bool} (h : tailAfter md ops n i = true) (hi : i ∈ Region.ready md ops listed) (hj : j ∈ Region.ready md ops listed) : j < n := by
  obtain ⟨_, oj, hoj, hall⟩ := mem_ready.1 hj
  unfold tailAfter at h
  rw [List.all_eq_true] at h
  have h1 := h j (List.mem_range.2 (Array.getElem?_eq_some_iff.1 hoj).1)
  simp only [hoj, Bool.or_eq_true, decide_eq_true_eq] at h1
  rcases h1 with h1 | h1
  · exact h1
  · obtain ⟨e, he, hb⟩ := Array.any_eq_true'.1 h1
    simp only [Bool.and_eq_true, beq_iff_eq] at hb
    have h2 := hall e he hb.1
    have h0 := (mem_ready.1 hi).1
    rw [hb.2, getD_both h0] at h2
    cases h2
theorem wpS_first {i : Nat} {oi : Oper} {v : Value} (hi : ops[i]? = some oi) (hsel : ∀ (j : Nat) (o : Oper) cs b, ops[j]? = some o → o.op ≠ .select cs b) (ht : tailAfter md ops n i = true) :
    ∀ (fuel : Nat) (listed : Array Bool) (a : Act) (C : World → Prop),
      (∀ j oj, ops[j]? = some oj → j ≠ i → listed.getD j true = false → (∀ e ∈ oj.after, Region.binds md e = true → e.on ≠ i) → oi.apart ops oj = true) →
      i ∈ Region.ready md ops listed → YieldsU P ops C oi v a → Up C →
      wpS P md ops Q n g fuel (listed.setIfInBounds i true) (a.put oi.dst v) C → wpS P md ops Q n g (fuel + 1) listed a C := by
  intro fuel
  induction fuel with
  | zero =>
    intro listed a C _ hr hy hU H
    rintro ⟨W, hW⟩
    refine ⟨fun h => (by rw [h] at hr; cases hr), fun j hj => .inl ?_⟩
    have hjn := tailAfter_spec ht hr hj
    refine ⟨hjn, ?_⟩
    by_cases hji : j = i
    · subst hji; exact hy.uOpS hi H
    · have := (H W hW).1 j (ready_mono hj hji)
      omega
  | succ fuel ih =>
    intro listed a C hfree hr hy hU H
    rintro ⟨W, hW⟩
    refine ⟨fun h => (by rw [h] at hr; cases hr), fun j hj => .inl ?_⟩
    have hjn := tailAfter_spec ht hr hj
    refine ⟨hjn, ?_⟩
    by_cases hji : j = i
    · subst hji; exact hy.uOpS hi H
    · rcases (H ⟨W, hW⟩).2 j (ready_mono hj hji) with h1 | h1
      rotate_left
      · omega
      have h1 := h1.2
      obtain ⟨hjun, oj, hoj, hall⟩ := mem_ready.1 hj
      have hnot : ∀ e ∈ oj.after, Region.binds md e = true → e.on ≠ i := fun e he hb heq => by
        have h1 := hall e he hb
        rw [heq, getD_both (mem_ready.1 hr).1] at h1
        cases h1
      have h2 := uOp_put hoj (hfree j oj hoj hji hjun hnot) (fun cs b => hsel i oi cs b hi) (fun cs b => hsel j oj cs b hoj) hy hU h1
      have hfree' : ∀ k ok, ops[k]? = some ok → k ≠ i → (listed.setIfInBounds j true).getD k true = false →
          (∀ e ∈ ok.after, Region.binds md e = true → e.on ≠ i) → oi.apart ops ok = true := fun k ok hk hki hun hno => by
        refine hfree k ok hk hki ?_ hno
        by_cases hjk : j = k
        · subst hjk; exact hjun
        · rw [getD_set_ne true hjk] at hun; exact hun
      refine uOp_mono (fun W hW => hW) (fun a' D D' hD h3 => ?_) h2
      refine wpS_mono _ _ _ _ _ hD (ih (listed.setIfInBounds j true) a' D hfree' (ready_mono hr (Ne.symm hji)) h3.1 h3.2.1 ?_)
      rw [Array.setIfInBounds_comm _ _ hji]
      exact h3.2.2
/-- A plain operation of the head, which the tail need not wait for. -/
theorem wpS_firstY {i : Nat} {oi : Oper} {v : Value} (hi : ops[i]? = some oi) (hsel : ∀ (j : Nat) (o : Oper) cs b, ops[j]? = some o → o.op ≠ .select cs b) (hin : i < n)
    (hQ : ∀ c a w, Q (.panic c) (a.put oi.dst v) w → Q (.panic c) a w) :
    ∀ (fuel : Nat) (listed : Array Bool) (a : Act) (C : World → Prop),
      (∀ j oj, ops[j]? = some oj → j ≠ i → listed.getD j true = false → (∀ e ∈ oj.after, Region.binds md e = true → e.on ≠ i) → oi.apart ops oj = true) →
      i ∈ Region.ready md ops listed → Yields P ops oi v a → Up C →
      wpS P md ops Q n g fuel (listed.setIfInBounds i true) (a.put oi.dst v) C → wpS P md ops Q n g (fuel + 1) listed a C := by
  intro fuel
  induction fuel with
  | zero =>
    intro listed a C hfree hr hy hU H
    rintro ⟨W, hW⟩
    refine ⟨fun h => (by rw [h] at hr; cases hr), fun j hj => ?_⟩
    by_cases hji : j = i
    · subst hji; exact .inl ⟨hin, (yields_u hy).uOpS hi H⟩
    · refine .inr ⟨(H W hW).1 j (ready_mono hj hji), fun W hW => ?_⟩
      rw [Nat.zero_add]
      exact (wpAny_first hi hsel hQ g listed a W hfree hr hy (H W hW).2).2 j hj
  | succ fuel ih =>
    intro listed a C hfree hr hy hU H
    rintro ⟨W, hW⟩
    refine ⟨fun h => (by rw [h] at hr; cases hr), fun j hj => ?_⟩
    by_cases hji : j = i
    · subst hji; exact .inl ⟨hin, (yields_u hy).uOpS hi H⟩
    · obtain ⟨hjun, oj, hoj, hall⟩ := mem_ready.1 hj
      have hnot : ∀ e ∈ oj.after, Region.binds md e = true → e.on ≠ i := fun e he hb heq => by
        have h1 := hall e he hb
        rw [heq, getD_both (mem_ready.1 hr).1] at h1
        cases h1
      have hfree' : ∀ k ok, ops[k]? = some ok → k ≠ i → (listed.setIfInBounds j true).getD k true = false →
          (∀ e ∈ ok.after, Region.binds md e = true → e.on ≠ i) → oi.apart ops ok = true := fun k ok hk hki hun hno => by
        refine hfree k ok hk hki ?_ hno
        by_cases hjk : j = k
        · subst hjk; exact hjun
        · rw [getD_set_ne true hjk] at hun; exact hun
      rcases (H ⟨W, hW⟩).2 j (ready_mono hj hji) with h1 | h1
      · refine .inl ⟨h1.1, ?_⟩
        have h2 := uOp_putY hoj (hfree j oj hoj hji hjun hnot) (fun cs b => hsel i oi cs b hi) (fun cs b => hsel j oj cs b hoj) hy hU h1.2
        refine uOp_mono (fun W hW => hW) (fun a' D D' hD h3 => ?_) h2
        refine wpS_mono _ _ _ _ _ hD (ih (listed.setIfInBounds j true) a' D hfree' (ready_mono hr (Ne.symm hji)) h3.1 h3.2.1 ?_)
        rw [Array.setIfInBounds_comm _ _ hji]
        exact h3.2.2
      · refine .inr ⟨h1.1, fun W hW => ?_⟩
        have h2 := wpOp_put hoj (hfree j oj hoj hji hjun hnot) (fun cs b => hsel i oi cs b hi) (fun cs b => hsel j oj cs b hoj) hQ hy (h1.2 W hW)
        refine wpOp_mono (fun a' w' h3 => ?_) h2
        rw [show fuel + 1 + g = (fuel + g) + 1 by omega]
        refine wpAny_first hi hsel hQ (fuel + g) (listed.setIfInBounds j true) a' w' hfree' (ready_mono hr (Ne.symm hji)) h3.1 ?_
        rw [Array.setIfInBounds_comm _ _ hji]
        exact h3.2

/-! ### The moves -/
theorem wpS_taken {i : Nat} {oi : Oper} {rest : List Oper} {fuel : Nat} {listed : Array Bool} {a : Act} {C : World → Prop} (hi : ops.toList.drop i = oi :: rest)
    (hs : Region.noSelect ops = true) (ht : tailAfter md ops n i = true) (hf : Region.free md ops listed i = true) (hr : (Region.ready md ops listed).contains i = true) (hU : Up C)
    (h : ∃ v, YieldsU P ops C oi v a ∧ wpS P md ops Q n g fuel (listed.setIfInBounds i true) (a.put oi.dst v) C) : wpS P md ops Q n g (fuel + 1) listed a C := by
  obtain ⟨v, h1, h2⟩ := h
  exact wpS_first (at_drop hi) (Region.noSelect_spec hs) ht fuel listed a C (Region.free_spec (at_drop hi) hf) (by simpa using hr) h1 hU h2
theorem wpS_takenY {i : Nat} {oi : Oper} {rest : List Oper} {fuel : Nat} {listed : Array Bool} {a : Act} {C : World → Prop} (hi : ops.toList.drop i = oi :: rest)
    (hs : Region.noSelect ops = true) (hin : decide (i < n) = true) (hf : Region.free md ops listed i = true) (hr : (Region.ready md ops listed).contains i = true) (hU : Up C)
    (h : ∃ v, (∀ c a w, Q (.panic c) (a.put oi.dst v) w → Q (.panic c) a w) ∧ Yields P ops oi v a ∧ wpS P md ops Q n g fuel (listed.setIfInBounds i true) (a.put oi.dst v) C) : wpS P md ops Q n g (fuel + 1) listed a C := by
  obtain ⟨v, hQ, h1, h2⟩ := h
  exact wpS_firstY (at_drop hi) (Region.noSelect_spec hs) (by simpa using hin) hQ fuel listed a C (Region.free_spec (at_drop hi) hf) (by simpa using hr) h1 hU h2
theorem wpS_one {i : Nat} {o : Oper} {rest : List Oper} {fuel : Nat} {listed : Array Bool} {a : Act} {C : World → Prop} (hr : Region.ready md ops listed = [i]) (hin : decide (i < n) = true) (hi : ops.toList.drop i = o :: rest) (hw : Region.wanted o (yielded ops a.tmps) = true)
    (T : Value → World → Prop) (hT : ∀ u, Up (T u)) (hd : doesIn P o a C T) (h : ∀ u, wpS P md ops Q n g fuel (listed.setIfInBounds i true) (a.put o.dst u) (fun W => C W ∧ T u W)) : wpS P md ops Q n g (fuel + 1) listed a C :=
  fun _ => ⟨(fun h0 => by rw [h0] at hr; cases hr), fun j hj => .inl (by
    rw [hr] at hj
    rw [List.mem_singleton] at hj
    subst hj
    refine ⟨by simpa using hin, ?_⟩
    unfold uOp
    simp only [at_drop hi, hw, if_true]
    exact ⟨T, hT, hd, h⟩)⟩
theorem wpS_two {i j : Nat} {o o' : Oper} {rest rest' : List Oper} {fuel : Nat} {listed : Array Bool} {a : Act} {C : World → Prop} (hr : Region.ready md ops listed = [i, j]) (hin : decide (i < n) = true) (hjn : decide (j < n) = true) (hi : ops.toList.drop i = o :: rest) (hj : ops.toList.drop j = o' :: rest')
    (hw : Region.wanted o (yielded ops a.tmps) = true) (hw' : Region.wanted o' (yielded ops a.tmps) = true)
    (T T' : Value → World → Prop) (hT : ∀ u, Up (T u)) (hT' : ∀ u, Up (T' u)) (hd : doesIn P o a C T) (hd' : doesIn P o' a C T')
    (h : ∀ u, wpS P md ops Q n g fuel (listed.setIfInBounds i true) (a.put o.dst u) (fun W => C W ∧ T u W)) (h' : ∀ u, wpS P md ops Q n g fuel (listed.setIfInBounds j true) (a.put o'.dst u) (fun W => C W ∧ T' u W)) : wpS P md ops Q n g (fuel + 1) listed a C :=
  fun _ => ⟨(fun h0 => by rw [h0] at hr; cases hr), fun k hk => .inl (by
    rw [hr] at hk
    rcases List.mem_cons.1 hk with rfl | hk
    · refine ⟨by simpa using hin, ?_⟩
      unfold uOp
      simp only [at_drop hi, hw, if_true]
      exact ⟨T, hT, hd, h⟩
    · rw [List.mem_singleton] at hk
      subst hk
      refine ⟨by simpa using hjn, ?_⟩
      unfold uOp
      simp only [at_drop hj, hw', if_true]
      exact ⟨T', hT', hd', h'⟩)⟩
/-- Behind the head, in one order. -/
theorem wpS_done {l : List Oper} {g : Nat} {listed : Array Bool} {a : Act} {C : World → Prop} (hgl : (l.drop n).length = g) (hj : (Region.ready md l.toArray listed).all (fun j => decide (n ≤ j)) = true) (hq : Region.seqB md l.toArray g n listed = true) (h : ∀ W, C W → wpList P l.toArray Q (l.drop n) a W) :
    wpS P md l.toArray Q n g 0 listed a C := fun W hW => ⟨fun j h1 => by
      rw [List.all_eq_true] at hj
      simpa using hj j h1, by
    subst hgl
    exact wpAny_of_seq (l.drop n) n listed a W (fun j => by simp [List.getElem?_drop]) hq (h W hW)⟩
theorem wpAny_of_S : ∀ (fuel : Nat) (listed : Array Bool) (a : Act) (C : World → Prop) (W : World), Up C → C W → wpS P md ops Q n g fuel listed a C → wpAny P md ops Q (fuel + g) listed a W
  | 0, listed, a, C, W, _, hW, h => by rw [Nat.zero_add]; exact (h W hW).2
  | fuel + 1, listed, a, C, W, hU, hW, h => by
    rw [show fuel + 1 + g = (fuel + g) + 1 by omega]
    refine ⟨fun h0 => absurd h0 (h ⟨W, hW⟩).1, fun i hi => ?_⟩
    rcases (h ⟨W, hW⟩).2 i hi with h1 | h1
    rotate_left
    · exact h1.2 W hW
    have h1 := h1.2
    unfold uOp at h1
    unfold wpOp
    split
    · rename_i ho; simp only [ho] at h1; exact wpAny_of_S fuel _ _ C W hU hW h1
    · rename_i o ho
      simp only [ho] at h1
      split
      · rename_i hw
        simp only [hw, if_true] at h1
        obtain ⟨T, hT, hdd, hk⟩ := h1
        refine .inl ?_
        have hd1 := hdd W hW
        unfold Oper.wp
        generalize (execOp a.eval o).run P W = r at *
        have go : ∀ u W', T u W' → R W W' → wpAny P md ops Q (fuel + g) (listed.setIfInBounds i true) (a.put o.dst u) W' := fun u W' ht hr =>
          wpAny_of_S fuel _ _ _ W' (hU.and (hT u)) ⟨hU W W' hW hr, ht⟩ (hk u)
        cases r with
        | ok x W' =>
          cases x <;> simp only [does] at hd1 <;> simp only [Oper.upon]
          case value u => exact go u W' hd1.1 hd1.2
          case skip => exact go undef W' hd1.1 hd1.2
          case enter f args =>
            obtain ⟨e1, hcall⟩ := hd1
            rw [e1]
            exact hcall.mono fun e W'' ⟨u, he, ht, hr⟩ => by subst he; exact go u W'' ht hr
        | halt x W' => simp only [does] at hd1
      · rename_i hw; simp only [hw] at h1; exact wpAny_of_S fuel _ _ C W hU hW h1
theorem wp_region_S {id : Nat} {a : Act} {w : World} {l : List Oper} {C : World → Prop} (n g : Nat)
    (hm : P.follows .mixedOrders = true) (hk : decide (n + g = l.length) = true) (hU : Up C) (hC : C w.drew)
    (h : wpS P .any l.toArray Q n g n (Array.replicate l.toArray.size false) a C) : (Code.region id l.toArray true).wp P Q a w := by
  refine wp_region_any hm ?_
  have hk' : n + g = l.length := by simpa using hk
  have := wpAny_of_S n _ a C w.drew hU hC h
  rw [show n + g = l.toArray.size by simp; omega] at this
  exact this
end
end Go.Proofs.Ytfhddbjojpmbcaa.RegionU
set_option linter.unusedVariables false
namespace Go.Proofs.Ytfhddbjojpmbcaa.RegionU
open Go Go.RowKit
section
variable {P : Program} {ops : Array Oper} {Q : Exit → Act → World → Prop} {md : Region.Mode} {Hd : Nat → Bool} {g : Nat}

def wpW (P : Program) (md : Region.Mode) (ops : Array Oper) (Q : Exit → Act → World → Prop) (Hd : Nat → Bool) (g : Nat) : Nat → Array Bool → Act → (World → Prop) → Prop
  | 0, listed, a, C => ∀ W, C W → (∀ j ∈ Region.ready md ops listed, Hd j = false) ∧ wpAny P md ops Q g listed a W
  | fuel + 1, listed, a, C => (∃ W, C W) → Region.ready md ops listed ≠ [] ∧ ∀ i ∈ Region.ready md ops listed,
      (Hd i = true ∧ uOp P ops i (wpW P md ops Q Hd g fuel (listed.setIfInBounds i true)) a C) ∨ (Hd i = false ∧ ∀ W, C W → wpOp P ops Q i (wpAny P md ops Q (fuel + g) (listed.setIfInBounds i true)) a W)
theorem wpW_mono : ∀ (fuel : Nat) (listed : Array Bool) (a : Act) (C C' : World → Prop), (∀ W, C' W → C W) → wpW P md ops Q Hd g fuel listed a C → wpW P md ops Q Hd g fuel listed a C'
  | 0, _, _, _, _, hC, h => fun W hW => h W (hC W hW)
  | fuel + 1, _, _, _, _, hC, h => fun ⟨W, hW⟩ => ⟨(h ⟨W, hC W hW⟩).1, fun i hi => ((h ⟨W, hC W hW⟩).2 i hi).imp (fun h1 => ⟨h1.1, uOp_mono hC (fun a D D' hD hk => wpW_mono fuel _ a D D' hD hk) h1.2⟩) fun h1 => ⟨h1.1, fun W hW => h1.2 W (hC W hW)⟩⟩
theorem wpW_bot (fuel : Nat) (listed : Array Bool) (a : Act) (C : World → Prop) (h : ∀ W, ¬ C W) : wpW P md ops Q Hd g fuel listed a C := by
  cases fuel with
  | zero => exact fun W hW => absurd hW (h W)
  | succ f => exact fun ⟨W, hW⟩ => absurd hW (h W)
/-- What is known of whatever world there is. -/
theorem wpW_have {p : Prop} {fuel : Nat} {listed : Array Bool} {a : Act} {C : World → Prop} (h : ∀ W, C W → p) (hp : p → wpW P md ops Q Hd g fuel listed a C) : wpW P md ops Q Hd g fuel listed a C := by
  by_cases hC : ∃ W, C W
  · obtain ⟨W, hW⟩ := hC; exact hp (h W hW)
  · exact wpW_bot _ _ _ _ fun W hW => hC ⟨W, hW⟩
theorem YieldsU.uOpW {i : Nat} {o : Oper} {v : Value} {a : Act} {C : World → Prop} {fuel : Nat} {listed : Array Bool} (hi : ops[i]? = some o) (hy : YieldsU P ops C o v a)
    (h : wpW P md ops Q Hd g fuel listed (a.put o.dst v) C) : RegionU.uOp P ops i (wpW P md ops Q Hd g fuel listed) a C := by
  unfold RegionU.uOp
  simp only [hi]
  rcases hy with ⟨hw, hv⟩ | ⟨hw, rfl⟩
  · simp only [hw, if_true]
    refine ⟨fun u _ => u = v, fun u => up_const _, hv, fun u => ?_⟩
    by_cases hu : u = v
    · subst hu; exact wpW_mono _ _ _ _ _ (fun W hW => hW.1) h
    · exact wpW_bot _ _ _ _ (fun W hW => hu hW.2)
  · simp only [hw, Bool.false_eq_true, if_false]; exact h
/-- Number j waits for number i, if not at once then by others. -/
def waitsW (md : Region.Mode) (ops : Array Oper) (i : Nat) : Nat → Nat → Bool
  | 0, _ => false
  | f + 1, j => match ops[j]? with | some oj => oj.after.any (fun e => Region.binds md e && (e.on == i || waitsW md ops i f e.on)) | none => false
/-- Each operation of the tail waits for number i. -/
def tailAfterW (md : Region.Mode) (ops : Array Oper) (Hd : Nat → Bool) (i : Nat) : Bool := (List.range ops.size).all fun j => Hd j || waitsW md ops i ops.size j
/-- What is listed came up behind what it waits for. -/
def InvW (md : Region.Mode) (ops : Array Oper) (listed : Array Bool) : Prop := ∀ j oj, ops[j]? = some oj → listed.getD j false = true → ∀ e ∈ oj.after, Region.binds md e = true → listed.getD e.on false = true
def invW (md : Region.Mode) (ops : Array Oper) (listed : Array Bool) : Bool := (List.range ops.size).all fun j => !(listed.getD j false) || (match ops[j]? with | some oj => oj.after.all (fun e => !(Region.binds md e) || listed.getD e.on false) | none => true)
theorem invW_spec {listed : Array Bool} (h : invW md ops listed = true) : InvW md ops listed := fun j oj ho hl e he hb => by
  unfold invW at h
  rw [List.all_eq_true] at h
  have h1 := h j (List.mem_range.2 (Array.getElem?_eq_some_iff.1 ho).1)
  simp only [ho, hl, Bool.not_true, Bool.false_or] at h1
  have h2 := (Array.all_eq_true'.1 h1) e he
  simpa [hb] using h2
theorem InvW.step {listed : Array Bool} {j : Nat} (h : InvW md ops listed) (hj : j ∈ Region.ready md ops listed) : InvW md ops (listed.setIfInBounds j true) := fun k ok hk hl e he hb => by
  refine getD_set_true ?_
  by_cases e1 : j = k
  · subst e1
    obtain ⟨_, o, ho, hall⟩ := mem_ready.1 hj
    rw [ho] at hk
    injection hk with hk
    subst hk
    exact hall e he hb
  · exact h k ok hk (by rw [getD_set_ne false e1] at hl; exact hl) e he hb
theorem waitsW_not {i : Nat} {listed : Array Bool} (hv : InvW md ops listed) (hi : listed.getD i false = false) : ∀ (f j : Nat), waitsW md ops i f j = true → ∃ oj, ops[j]? = some oj ∧ ∃ e ∈ oj.after, Region.binds md e = true ∧ listed.getD e.on false = false
  | 0, _, h => by cases h
  | f + 1, j, h => by
    unfold waitsW at h
    split at h
    · rename_i oj ho
      obtain ⟨e, he, hb⟩ := Array.any_eq_true'.1 h
      simp only [Bool.and_eq_true, Bool.or_eq_true, beq_iff_eq] at hb
      refine ⟨oj, ho, e, he, hb.1, ?_⟩
      rcases hb.2 with h1 | h1
      · rw [h1]; exact hi
      · obtain ⟨ok, hk, e', he', hb', h2⟩ := waitsW_not hv hi f e.on h1
        cases h3 : listed.getD e.on false with
        | false => rfl
        | true =>
          have := hv _ _ hk h3 e' he' hb'
          rw [h2] at this; cases this
    · cases h
theorem tailAfterW_spec {i j : Nat} {listed : Array Bool} (h : tailAfterW md ops Hd i = true) (hv : InvW md ops listed) (hi : i ∈ Region.ready md ops listed) (hj : j ∈ Region.ready md ops listed) : Hd j = true := by
  obtain ⟨_, oj, hoj, hall⟩ := mem_ready.1 hj
  unfold tailAfterW at h
  rw [List.all_eq_true] at h
  have h1 := h j (List.mem_range.2 (Array.getElem?_eq_some_iff.1 hoj).1)
  simp only [Bool.or_eq_true] at h1
  rcases h1 with h1 | h1
  · exact h1
  · obtain ⟨ok, hk, e, he, hb, h2⟩ := waitsW_not hv (getD_both (mem_ready.1 hi).1) _ _ h1
    rw [hoj] at hk
    injection hk with hk
    subst hk
    rw [hall e he hb] at h2
    cases h2
theorem wpW_first {i : Nat} {oi : Oper} {v : Value} (hi : ops[i]? = some oi) (hsel : ∀ (j : Nat) (o : Oper) cs b, ops[j]? = some o → o.op ≠ .select cs b) (ht : tailAfterW md ops Hd i = true) :
    ∀ (fuel : Nat) (listed : Array Bool) (a : Act) (C : World → Prop), InvW md ops listed →
      (∀ j oj, ops[j]? = some oj → j ≠ i → listed.getD j true = false → (∀ e ∈ oj.after, Region.binds md e = true → e.on ≠ i) → oi.apart ops oj = true) →
      i ∈ Region.ready md ops listed → YieldsU P ops C oi v a → Up C →
      wpW P md ops Q Hd g fuel (listed.setIfInBounds i true) (a.put oi.dst v) C → wpW P md ops Q Hd g (fuel + 1) listed a C := by
  intro fuel
  induction fuel with
  | zero =>
    intro listed a C hv _ hr hy hU H
    rintro ⟨W, hW⟩
    refine ⟨fun h => (by rw [h] at hr; cases hr), fun j hj => .inl ?_⟩
    have hjn := tailAfterW_spec ht hv hr hj
    refine ⟨hjn, ?_⟩
    by_cases hji : j = i
    · subst hji; exact hy.uOpW hi H
    · have := (H W hW).1 j (ready_mono hj hji)
      rw [hjn] at this; cases this
  | succ fuel ih =>
    intro listed a C hv hfree hr hy hU H
    rintro ⟨W, hW⟩
    refine ⟨fun h => (by rw [h] at hr; cases hr), fun j hj => .inl ?_⟩
    have hjn := tailAfterW_spec ht hv hr hj
    refine ⟨hjn, ?_⟩
    by_cases hji : j = i
    · subst hji; exact hy.uOpW hi H
    · rcases (H ⟨W, hW⟩).2 j (ready_mono hj hji) with h1 | h1
      rotate_left
      · have h2 := h1.1; rw [hjn] at h2; cases h2
      have h1 := h1.2
      obtain ⟨hjun, oj, hoj, hall⟩ := mem_ready.1 hj
      have hnot : ∀ e ∈ oj.after, Region.binds md e = true → e.on ≠ i := fun e he hb heq => by
        have h1 := hall e he hb
        rw [heq, getD_both (mem_ready.1 hr).1] at h1
        cases h1
      have h2 := uOp_put hoj (hfree j oj hoj hji hjun hnot) (fun cs b => hsel i oi cs b hi) (fun cs b => hsel j oj cs b hoj) hy hU h1
      have hfree' : ∀ k ok, ops[k]? = some ok → k ≠ i → (listed.setIfInBounds j true).getD k true = false →
          (∀ e ∈ ok.after, Region.binds md e = true → e.on ≠ i) → oi.apart ops ok = true := fun k ok hk hki hun hno => by
        refine hfree k ok hk hki ?_ hno
        by_cases hjk : j = k
        · subst hjk; exact hjun
        · rw [getD_set_ne true hjk] at hun; exact hun
      refine uOp_mono (fun W hW => hW) (fun a' D D' hD h3 => ?_) h2
      refine wpW_mono _ _ _ _ _ hD (ih (listed.setIfInBounds j true) a' D (hv.step hj) hfree' (ready_mono hr (Ne.symm hji)) h3.1 h3.2.1 ?_)
      rw [Array.setIfInBounds_comm _ _ hji]
      exact h3.2.2
/-- A plain operation of the head, which the tail need not wait for. -/
theorem wpW_firstY {i : Nat} {oi : Oper} {v : Value} (hi : ops[i]? = some oi) (hsel : ∀ (j : Nat) (o : Oper) cs b, ops[j]? = some o → o.op ≠ .select cs b) (hin : Hd i = true)
    (hQ : ∀ c a w, Q (.panic c) (a.put oi.dst v) w → Q (.panic c) a w) :
    ∀ (fuel : Nat) (listed : Array Bool) (a : Act) (C : World → Prop),
      (∀ j oj, ops[j]? = some oj → j ≠ i → listed.getD j true = false → (∀ e ∈ oj.after, Region.binds md e = true → e.on ≠ i) → oi.apart ops oj = true) →
      i ∈ Region.ready md ops listed → Yields P ops oi v a → Up C →
      wpW P md ops Q Hd g fuel (listed.setIfInBounds i true) (a.put oi.dst v) C → wpW P md ops Q Hd g (fuel + 1) listed a C := by
  intro fuel
  induction fuel with
  | zero =>
    intro listed a C hfree hr hy hU H
    rintro ⟨W, hW⟩
    refine ⟨fun h => (by rw [h] at hr; cases hr), fun j hj => ?_⟩
    by_cases hji : j = i
    · subst hji; exact .inl ⟨hin, (yields_u hy).uOpW hi H⟩
    · refine .inr ⟨(H W hW).1 j (ready_mono hj hji), fun W hW => ?_⟩
      rw [Nat.zero_add]
      exact (wpAny_first hi hsel hQ g listed a W hfree hr hy (H W hW).2).2 j hj
  | succ fuel ih =>
    intro listed a C hfree hr hy hU H
    rintro ⟨W, hW⟩
    refine ⟨fun h => (by rw [h] at hr; cases hr), fun j hj => ?_⟩
    by_cases hji : j = i
    · subst hji; exact .inl ⟨hin, (yields_u hy).uOpW hi H⟩
    · obtain ⟨hjun, oj, hoj, hall⟩ := mem_ready.1 hj
      have hnot : ∀ e ∈ oj.after, Region.binds md e = true → e.on ≠ i := fun e he hb heq => by
        have h1 := hall e he hb
        rw [heq, getD_both (mem_ready.1 hr).1] at h1
        cases h1
      have hfree' : ∀ k ok, ops[k]? = some ok → k ≠ i → (listed.setIfInBounds j true).getD k true = false →
          (∀ e ∈ ok.after, Region.binds md e = true → e.on ≠ i) → oi.apart ops ok = true := fun k ok hk hki hun hno => by
        refine hfree k ok hk hki ?_ hno
        by_cases hjk : j = k
        · subst hjk; exact hjun
        · rw [getD_set_ne true hjk] at hun; exact hun
      rcases (H ⟨W, hW⟩).2 j (ready_mono hj hji) with h1 | h1
      · refine .inl ⟨h1.1, ?_⟩
        have h2 := uOp_putY hoj (hfree j oj hoj hji hjun hnot) (fun cs b => hsel i oi cs b hi) (fun cs b => hsel j oj cs b hoj) hy hU h1.2
        refine uOp_mono (fun W hW => hW) (fun a' D D' hD h3 => ?_) h2
        refine wpW_mono _ _ _ _ _ hD (ih (listed.setIfInBounds j true) a' D hfree' (ready_mono hr (Ne.symm hji)) h3.1 h3.2.1 ?_)
        rw [Array.setIfInBounds_comm _ _ hji]
        exact h3.2.2
      · refine .inr ⟨h1.1, fun W hW => ?_⟩
        have h2 := wpOp_put hoj (hfree j oj hoj hji hjun hnot) (fun cs b => hsel i oi cs b hi) (fun cs b => hsel j oj cs b hoj) hQ hy (h1.2 W hW)
        refine wpOp_mono (fun a' w' h3 => ?_) h2
        rw [show fuel + 1 + g = (fuel + g) + 1 by omega]
        refine wpAny_first hi hsel hQ (fuel + g) (listed.setIfInBounds j true) a' w' hfree' (ready_mono hr (Ne.symm hji)) h3.1 ?_
        rw [Array.setIfInBounds_comm _ _ hji]
        exact h3.2

/-! ### The moves -/
theorem wpW_taken {i : Nat} {oi : Oper} {rest : List Oper} {fuel : Nat} {listed : Array Bool} {a : Act} {C : World → Prop} (hi : ops.toList.drop i = oi :: rest)
    (hs : Region.noSelect ops = true) (ht : (tailAfterW md ops Hd i && invW md ops listed) = true) (hf : Region.free md ops listed i = true) (hr : (Region.ready md ops listed).contains i = true) (hU : Up C)
    (h : ∃ v, YieldsU P ops C oi v a ∧ wpW P md ops Q Hd g fuel (listed.setIfInBounds i true) (a.put oi.dst v) C) : wpW P md ops Q Hd g (fuel + 1) listed a C := by
  obtain ⟨v, h1, h2⟩ := h
  rw [Bool.and_eq_true] at ht
  exact wpW_first (at_drop hi) (Region.noSelect_spec hs) ht.1 fuel listed a C (invW_spec ht.2) (Region.free_spec (at_drop hi) hf) (by simpa using hr) h1 hU h2
theorem wpW_takenY {i : Nat} {oi : Oper} {rest : List Oper} {fuel : Nat} {listed : Array Bool} {a : Act} {C : World → Prop} (hi : ops.toList.drop i = oi :: rest)
    (hs : Region.noSelect ops = true) (hin : Hd i = true) (hf : Region.free md ops listed i = true) (hr : (Region.ready md ops listed).contains i = true) (hU : Up C)
    (h : ∃ v, (∀ c a w, Q (.panic c) (a.put oi.dst v) w → Q (.panic c) a w) ∧ Yields P ops oi v a ∧ wpW P md ops Q Hd g fuel (listed.setIfInBounds i true) (a.put oi.dst v) C) : wpW P md ops Q Hd g (fuel + 1) listed a C := by
  obtain ⟨v, hQ, h1, h2⟩ := h
  exact wpW_firstY (at_drop hi) (Region.noSelect_spec hs) (by simpa using hin) hQ fuel listed a C (Region.free_spec (at_drop hi) hf) (by simpa using hr) h1 hU h2
theorem wpW_one {i : Nat} {o : Oper} {rest : List Oper} {fuel : Nat} {listed : Array Bool} {a : Act} {C : World → Prop} (hr : Region.ready md ops listed = [i]) (hin : Hd i = true) (hi : ops.toList.drop i = o :: rest) (hw : Region.wanted o (yielded ops a.tmps) = true)
    (T : Value → World → Prop) (hT : ∀ u, Up (T u)) (hd : doesIn P o a C T) (h : ∀ u, wpW P md ops Q Hd g fuel (listed.setIfInBounds i true) (a.put o.dst u) (fun W => C W ∧ T u W)) : wpW P md ops Q Hd g (fuel + 1) listed a C :=
  fun _ => ⟨(fun h0 => by rw [h0] at hr; cases hr), fun j hj => .inl (by
    rw [hr] at hj
    rw [List.mem_singleton] at hj
    subst hj
    refine ⟨by simpa using hin, ?_⟩
    unfold uOp
    simp only [at_drop hi, hw, if_true]
    exact ⟨T, hT, hd, h⟩)⟩
theorem wpW_two {i j : Nat} {o o' : Oper} {rest rest' : List Oper} {fuel : Nat} {listed : Array Bool} {a : Act} {C : World → Prop} (hr : Region.ready md ops listed = [i, j]) (hin : Hd i = true) (hjn : Hd j = true) (hi : ops.toList.drop i = o :: rest) (hj : ops.toList.drop j = o' :: rest')
    (hw : Region.wanted o (yielded ops a.tmps) = true) (hw' : Region.wanted o' (yielded ops a.tmps) = true)
    (T T' : Value → World → Prop) (hT : ∀ u, Up (T u)) (hT' : ∀ u, Up (T' u)) (hd : doesIn P o a C T) (hd' : doesIn P o' a C T')
    (h : ∀ u, wpW P md ops Q Hd g fuel (listed.setIfInBounds i true) (a.put o.dst u) (fun W => C W ∧ T u W)) (h' : ∀ u, wpW P md ops Q Hd g fuel (listed.setIfInBounds j true) (a.put o'.dst u) (fun W => C W ∧ T' u W)) : wpW P md ops Q Hd g (fuel + 1) listed a C :=
  fun _ => ⟨(fun h0 => by rw [h0] at hr; cases hr), fun k hk => .inl (by
    rw [hr] at hk
    rcases List.mem_cons.1 hk with rfl | hk
    · refine ⟨by simpa using hin, ?_⟩
      unfold uOp
      simp only [at_drop hi, hw, if_true]
      exact ⟨T, hT, hd, h⟩
    · rw [List.mem_singleton] at hk
      subst hk
      refine ⟨by simpa using hjn, ?_⟩
      unfold uOp
      simp only [at_drop hj, hw', if_true]
      exact ⟨T', hT', hd', h'⟩)⟩
/-- Behind the head: these, in this order. -/
def seqL (md : Region.Mode) (ops : Array Oper) : List Nat → Array Bool → Bool
  | [], listed => (Region.ready md ops listed).isEmpty
  | k :: js, listed => decide (Region.ready md ops listed = [k]) && seqL md ops js (listed.setIfInBounds k true)
theorem wpAny_of_seqL {Q' : Exit → Act → World → Prop} : ∀ (js : List Nat) (l : List Oper) (listed : Array Bool) (a : Act) (w : World), js.map (fun j => ops[j]?) = l.map some →
    seqL md ops js listed = true → wpList P ops Q' l a w → wpAny P md ops Q' js.length listed a w
  | [], [], _, _, _, _, hB, h => ⟨by simpa [seqL] using hB, h⟩
  | [], _ :: _, _, _, _, hl, _, _ => by simp at hl
  | _ :: _, [], _, _, _, hl, _, _ => by simp at hl
  | k :: js, o :: l, listed, a, w, hl, hB, h => by
    simp only [List.map_cons, List.cons.injEq] at hl
    simp only [seqL, Bool.and_eq_true, decide_eq_true_eq] at hB
    refine ⟨fun h1 => (by rw [hB.1] at h1; cases h1), fun i hi => ?_⟩
    rw [hB.1] at hi
    have hik : i = k := by simpa using hi
    subst hik
    have hw : wpOp P ops Q' i (wpList P ops Q' l) a w := by unfold wpOp; simp only [hl.1]; exact h
    exact wpOp_mono (fun a' w' h' => wpAny_of_seqL js l _ a' w' hl.2 hB.2 h') hw
theorem wpW_done {js : List Nat} {l : List Oper} {g : Nat} {listed : Array Bool} {a : Act} {C : World → Prop} (hg : js.length = g) (hl : js.map (fun j => ops[j]?) = l.map some) (hj : (Region.ready md ops listed).all (fun j => !Hd j) = true) (hq : seqL md ops js listed = true) (h : ∀ W, C W → wpList P ops Q l a W) :
    wpW P md ops Q Hd g 0 listed a C := fun W hW => ⟨fun j h1 => by
      rw [List.all_eq_true] at hj
      simpa using hj j h1, by
    subst hg
    exact wpAny_of_seqL js l listed a W hl hq (h W hW)⟩
/-- The same, of one, or two. -/
theorem wpW_done1 {i : Nat} {o : Oper} {rest : List Oper} {listed : Array Bool} {a : Act} {C : World → Prop} (hi : ops.toList.drop i = o :: rest) (hj : (Region.ready md ops listed).all (fun j => !Hd j) = true) (hq : seqL md ops [i] listed = true) (h : ∀ W, C W → wpList P ops Q [o] a W) :
    wpW P md ops Q Hd 1 0 listed a C := wpW_done (js := [i]) rfl (by simp only [List.map_cons, List.map_nil, at_drop hi]) hj hq h
theorem wpW_done2 {i j : Nat} {o o' : Oper} {rest rest' : List Oper} {listed : Array Bool} {a : Act} {C : World → Prop} (hi : ops.toList.drop i = o :: rest) (hi' : ops.toList.drop j = o' :: rest') (hj : (Region.ready md ops listed).all (fun j => !Hd j) = true) (hq : seqL md ops [i, j] listed = true) (h : ∀ W, C W → wpList P ops Q [o, o'] a W) :
    wpW P md ops Q Hd 2 0 listed a C := wpW_done (js := [i, j]) rfl (by simp only [List.map_cons, List.map_nil, at_drop hi, at_drop hi']) hj hq h
theorem wpW_done3 {i j k : Nat} {o o' o2 : Oper} {rest rest' rest2 : List Oper} {listed : Array Bool} {a : Act} {C : World → Prop} (hi : ops.toList.drop i = o :: rest) (hi' : ops.toList.drop j = o' :: rest') (hi2 : ops.toList.drop k = o2 :: rest2) (hj : (Region.ready md ops listed).all (fun j => !Hd j) = true) (hq : seqL md ops [i, j, k] listed = true) (h : ∀ W, C W → wpList P ops Q [o, o', o2] a W) :
    wpW P md ops Q Hd 3 0 listed a C := wpW_done (js := [i, j, k]) rfl (by simp only [List.map_cons, List.map_nil, at_drop hi, at_drop hi', at_drop hi2]) hj hq h
theorem wpAny_of_W : ∀ (fuel : Nat) (listed : Array Bool) (a : Act) (C : World → Prop) (W : World), Up C → C W → wpW P md ops Q Hd g fuel listed a C → wpAny P md ops Q (fuel + g) listed a W
  | 0, listed, a, C, W, _, hW, h => by rw [Nat.zero_add]; exact (h W hW).2
  | fuel + 1, listed, a, C, W, hU, hW, h => by
    rw [show fuel + 1 + g = (fuel + g) + 1 by omega]
    refine ⟨fun h0 => absurd h0 (h ⟨W, hW⟩).1, fun i hi => ?_⟩
    rcases (h ⟨W, hW⟩).2 i hi with h1 | h1
    rotate_left
    · exact h1.2 W hW
    have h1 := h1.2
    unfold uOp at h1
    unfold wpOp
    split
    · rename_i ho; simp only [ho] at h1; exact wpAny_of_W fuel _ _ C W hU hW h1
    · rename_i o ho
      simp only [ho] at h1
      split
      · rename_i hw
        simp only [hw, if_true] at h1
        obtain ⟨T, hT, hdd, hk⟩ := h1
        refine .inl ?_
        have hd1 := hdd W hW
        unfold Oper.wp
        generalize (execOp a.eval o).run P W = r at *
        have go : ∀ u W', T u W' → R W W' → wpAny P md ops Q (fuel + g) (listed.setIfInBounds i true) (a.put o.dst u) W' := fun u W' ht hr =>
          wpAny_of_W fuel _ _ _ W' (hU.and (hT u)) ⟨hU W W' hW hr, ht⟩ (hk u)
        cases r with
        | ok x W' =>
          cases x <;> simp only [does] at hd1 <;> simp only [Oper.upon]
          case value u => exact go u W' hd1.1 hd1.2
          case skip => exact go undef W' hd1.1 hd1.2
          case enter f args =>
            obtain ⟨e1, hcall⟩ := hd1
            rw [e1]
            exact hcall.mono fun e W'' ⟨u, he, ht, hr⟩ => by subst he; exact go u W'' ht hr
        | halt x W' => simp only [does] at hd1
      · rename_i hw; simp only [hw] at h1; exact wpAny_of_W fuel _ _ C W hU hW h1
theorem wp_region_W {id : Nat} {a : Act} {w : World} {l : List Oper} {C : World → Prop} (Hd : Nat → Bool) (n g : Nat)
    (hm : P.follows .mixedOrders = true) (hk : decide (n + g = l.length) = true) (hU : Up C) (hC : C w.drew)
    (h : wpW P .any l.toArray Q Hd g n (Array.replicate l.toArray.size false) a C) : (Code.region id l.toArray true).wp P Q a w := by
  refine wp_region_any hm ?_
  have hk' : n + g = l.length := by simpa using hk
  have := wpAny_of_W n _ a C w.drew hU hC h
  rw [show n + g = l.toArray.size by simp; omega] at this
  exact this
end
end Go.Proofs.Ytfhddbjojpmbcaa.RegionU
