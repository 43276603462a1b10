/- A region that draws its order, whose operations make memory and leave what lay as it lay: one walk, each operation taken as soon as it may come up. -/
import Derived.OrdersHeld
import Derived.Below
set_option linter.unusedVariables false
namespace Go.Proofs.Ytkghnjgioijgpaa.RegionU
open Go Go.RowKit
section
variable {P : Program} {ops : Array Oper} {Q : Exit → Act → World → Prop} {md : Region.Mode}

/-- Whatever lay, lies as it lay. -/
def R (W W' : World) : Prop := Below W.heap.size W W'
theorem R.refl (W : World) : R W W := Below.refl _ _
theorem R.trans {A B C : World} (h : R A B) (h' : R B C) : R A C := Below.trans h (Below.mono h' h.size)
/-- What is said of a world stays true as memory grows. -/
def Up (C : World → Prop) : Prop := ∀ W W', C W → R W W' → C W'
theorem Up.and {C D : World → Prop} (h : Up C) (h' : Up D) : Up (fun W => C W ∧ D W) := fun W W' ⟨a, b⟩ hr => ⟨h W W' a hr, h' W W' b hr⟩
theorem up_const (p : Prop) : Up (fun _ => p) := fun _ _ h _ => h

/-- What an operation leaves, of which T is said, memory having grown. -/
def does (P : Program) (W : World) (T : Value → World → Prop) : Result Next → Prop
  | .ok (.value u) W' => T u W' ∧ R W W'
  | .ok .skip W' => T undef W' ∧ R W W'
  | .ok (.enter f args) W' => W' = W ∧ Calls P f args W (fun e W'' => ∃ u, e = .returned u ∧ T u W'' ∧ R W W'')
  | _ => False
def doesIn (P : Program) (o : Oper) (a : Act) (C : World → Prop) (T : Value → World → Prop) : Prop := ∀ W, C W → does P W T ((execOp a.eval o).run P W)
theorem does_mono {W : World} {T T' : Value → World → Prop} (h : ∀ u W', T u W' → T' u W') : ∀ {r : Result Next}, does P W T r → does P W T' r
  | .ok (.value _) _, hr => ⟨h _ _ hr.1, hr.2⟩
  | .ok .skip _, hr => ⟨h _ _ hr.1, hr.2⟩
  | .ok (.enter _ _) _, hr => ⟨hr.1, hr.2.mono fun _ _ ⟨u, he, ht, hr⟩ => ⟨u, he, h _ _ ht, hr⟩⟩

theorem does_value {W : World} {u v : Value} (h : u = v) : does P W (fun x _ => x = v) (.ok (.value u) W) := ⟨h, R.refl W⟩
theorem does_call {W : World} {f : FuncId} {args : Array Value} {v : Value} (h : Calls P f args W (fun e W' => e = .returned v ∧ Below W.heap.size W W')) : does P W (fun x _ => x = v) (.ok (.enter f args) W) :=
  ⟨rfl, h.mono fun _ _ ⟨he, hb⟩ => ⟨v, he, rfl, hb⟩⟩
theorem does_made {W W' : World} {u : Value} {T : Value → World → Prop} (h : T u W') (hr : R W W') : does P W T (.ok (.value u) W') := ⟨h, hr⟩

/-- Operation number i comes up in state a, in whatever world of which C is said. -/
def uOp (P : Program) (ops : Array Oper) (i : Nat) (K : Act → (World → Prop) → Prop) (a : Act) (C : World → Prop) : Prop :=
  match ops[i]? with
  | none => K a C
  | some o => if Region.wanted o (yielded ops a.tmps) then ∃ T : Value → World → Prop, (∀ u, Up (T u)) ∧ doesIn P o a C T ∧ ∀ u, K (a.put o.dst u) (fun W => C W ∧ T u W) else K (a.put o.dst undef) C
def wpU (P : Program) (md : Region.Mode) (ops : Array Oper) (Q : Exit → Act → World → Prop) : Nat → Array Bool → Act → (World → Prop) → Prop
  | 0, listed, a, C => ∀ W, C W → Region.ready md ops listed = [] ∧ Q .normal a W
  | fuel + 1, listed, a, C => (Region.ready md ops listed = [] → ∀ W, C W → Q .normal a W) ∧
    ∀ i ∈ Region.ready md ops listed, uOp P ops i (wpU P md ops Q fuel (listed.setIfInBounds i true)) a C

theorem uOp_mono {i : Nat} {a : Act} {C C' : World → Prop} {K K' : Act → (World → Prop) → Prop} (hC : ∀ W, C' W → C W)
    (h : ∀ a D D', (∀ W, D' W → D W) → K a D → K' a D') (hh : uOp P ops i K a C) : uOp P ops i K' a C' := by
  unfold uOp at *
  split
  · rename_i ho; simp only [ho] at hh; exact h _ _ _ hC hh
  · rename_i o ho
    simp only [ho] at hh
    split
    · rename_i hw
      simp only [hw, if_true] at hh
      obtain ⟨T, hT, hd, hk⟩ := hh
      exact ⟨T, hT, fun W hW => hd W (hC W hW), fun u => h _ _ _ (fun W ⟨x, y⟩ => ⟨hC W x, y⟩) (hk u)⟩
    · rename_i hw; simp only [hw] at hh; exact h _ _ _ hC hh
theorem wpU_mono : ∀ (fuel : Nat) (listed : Array Bool) (a : Act) (C C' : World → Prop), (∀ W, C' W → C W) → wpU P md ops Q fuel listed a C → wpU P md ops Q fuel listed a C'
  | 0, _, _, _, _, hC, h => fun W hW => h W (hC W hW)
  | fuel + 1, _, _, _, _, hC, h => ⟨fun h0 W hW => h.1 h0 W (hC W hW), fun i hi => uOp_mono hC (fun a D D' hD hk => wpU_mono fuel _ a D D' hD hk) (h.2 i hi)⟩
/-- Of no world everything is said. -/
theorem wpU_bot : ∀ (fuel : Nat) (listed : Array Bool) (a : Act) (C : World → Prop), (∀ W, ¬ C W) → wpU P md ops Q fuel listed a C
  | 0, _, _, _, h => fun W hW => absurd hW (h W)
  | fuel + 1, listed, a, C, h => ⟨fun _ W hW => absurd hW (h W), fun i _ => by
      unfold uOp
      split
      · exact wpU_bot fuel _ _ _ h
      · split
        · exact ⟨fun _ _ => True, fun _ => up_const True, fun W hW => absurd hW (h W), fun u => wpU_bot fuel _ _ _ (fun W hW => h W hW.1)⟩
        · exact wpU_bot fuel _ _ _ h⟩

/-- It serves every order. -/
theorem wpAny_of_U : ∀ (fuel : Nat) (listed : Array Bool) (a : Act) (C : World → Prop) (W : World), Up C → C W → wpU P md ops Q fuel listed a C → wpAny P md ops Q fuel listed a W
  | 0, _, _, _, W, _, hW, h => h W hW
  | fuel + 1, listed, a, C, W, hU, hW, h => ⟨fun h0 => h.1 h0 W hW, fun i hi => by
      have h1 := h.2 i hi
      unfold uOp at h1
      unfold wpOp
      split
      · rename_i ho; simp only [ho] at h1; exact wpAny_of_U fuel _ _ C W hU hW h1
      · rename_i o ho
        simp only [ho] at h1
        split
        · rename_i hw
          simp only [hw, if_true] at h1
          obtain ⟨T, hT, hd, hk⟩ := h1
          refine .inl ?_
          have hd1 := hd W hW
          unfold Oper.wp
          generalize (execOp a.eval o).run P W = r at *
          have go : ∀ u W', T u W' → R W W' → wpAny P md ops Q fuel (listed.setIfInBounds i true) (a.put o.dst u) W' := fun u W' ht hr =>
            wpAny_of_U fuel _ _ _ W' (hU.and (hT u)) ⟨hU W W' hW hr, ht⟩ (hk u)
          cases r with
          | ok n W' =>
            cases n <;> simp only [does] at hd1 <;> simp only [Oper.upon]
            case value u => exact go u W' hd1.1 hd1.2
            case skip => exact go undef W' hd1.1 hd1.2
            case enter f args =>
              obtain ⟨e1, hc⟩ := hd1
              rw [e1]
              exact hc.mono fun e W'' ⟨u, he, ht, hr⟩ => by subst he; exact go u W'' ht hr
          | halt x W' => simp only [does] at hd1
        · rename_i hw; simp only [hw] at h1; exact wpAny_of_U fuel _ _ C W hU hW h1⟩

/-- In state a, in every world of which C is said, operation o yields v, memory having grown. -/
def YieldsU (P : Program) (ops : Array Oper) (C : World → Prop) (o : Oper) (v : Value) (a : Act) : Prop :=
  (Region.wanted o (yielded ops a.tmps) = true ∧ doesIn P o a C (fun u _ => u = v)) ∨ (Region.wanted o (yielded ops a.tmps) = false ∧ v = undef)
theorem YieldsU.of_same {C C' : World → Prop} {o : Oper} {v : Value} {a a' : Act} (hC : ∀ W, C' W → C W) (hy : YieldsU P ops C o v a) (he : execOp a'.eval o = execOp a.eval o)
    (hw : Region.wanted o (yielded ops a'.tmps) = Region.wanted o (yielded ops a.tmps)) : YieldsU P ops C' o v a' := by
  unfold YieldsU doesIn at *
  rw [he, hw]
  exact hy.imp (fun ⟨h1, h2⟩ => ⟨h1, fun W hW => h2 W (hC W hW)⟩) id

/-- One operation 'oj', apart from 'oi': whether 'oi''s value is already in its temporary makes no difference to it, and it makes none to 'oi'. -/
theorem uOp_put {j : Nat} {oi oj : Oper} {v : Value} (hj : ops[j]? = some oj) (hap : oi.apart ops oj = true)
    (hsi : ∀ cs b, oi.op ≠ .select cs b) (hsj : ∀ cs b, oj.op ≠ .select cs b) {K : Act → (World → Prop) → Prop} {a : Act} {C : World → Prop}
    (hy : YieldsU P ops C oi v a) (hU : Up C) (h : uOp P ops j K (a.put oi.dst v) C) :
    uOp P ops j (fun a' C' => YieldsU P ops C' oi v a' ∧ Up C' ∧ K (a'.put oi.dst v) C') a C := by
  obtain ⟨h1, h2, h3⟩ := Oper.apart_spec hap
  have keep : ∀ (D : World → Prop) (u : Value), (∀ W, D W → C W) → YieldsU P ops D oi v (a.put oj.dst u) := fun D u hD =>
    hy.of_same hD (execOp_put oi hsi a oj.dst u h3) (wanted_put oi a oj.dst u h3)
  unfold uOp at *
  simp only [hj] at *
  rw [wanted_put oj a oi.dst v h1] at h
  split
  · rename_i hw
    simp only [hw, if_true] at h
    obtain ⟨T, hT, hd, hk⟩ := h
    refine ⟨T, hT, ?_, fun u => ⟨keep _ u (fun W hW => hW.1), hU.and (hT u), by rw [← Act.put_comm a v u h2]; exact hk u⟩⟩
    unfold doesIn at *
    rw [execOp_put oj hsj a oi.dst v h1] at hd
    exact hd
  · rename_i hw
    simp only [hw] at h
    exact ⟨keep _ undef (fun W hW => hW), hU, by rw [← Act.put_comm a v undef h2]; exact h⟩
theorem YieldsU.uOp {i : Nat} {o : Oper} {v : Value} {a : Act} {C : World → Prop} {fuel : Nat} {listed : Array Bool} (hi : ops[i]? = some o) (hy : YieldsU P ops C o v a)
    (h : wpU P md ops Q fuel listed (a.put o.dst v) C) : uOp P ops i (wpU P md ops Q fuel listed) a C := by
  unfold RegionU.uOp
  simp only [hi]
  rcases hy with ⟨hw, hv⟩ | ⟨hw, rfl⟩
  · simp only [hw, if_true]
    refine ⟨fun u _ => u = v, fun u => up_const _, hv, fun u => ?_⟩
    by_cases hu : u = v
    · subst hu; exact wpU_mono _ _ _ _ _ (fun W hW => hW.1) h
    · exact wpU_bot _ _ _ _ (fun W hW => hu hW.2)
  · simp only [hw, Bool.false_eq_true, if_false]; exact h

/-- An operation that may come up now may be taken first, if in this state it yields one value in every world of which C is said, and every other one that has not come up yet either waits for it or is apart from it. -/
theorem wpU_first {i : Nat} {oi : Oper} {v : Value} (hi : ops[i]? = some oi) (hsel : ∀ (j : Nat) (o : Oper) cs b, ops[j]? = some o → o.op ≠ .select cs b) :
    ∀ (fuel : Nat) (listed : Array Bool) (a : Act) (C : World → Prop),
      (∀ j oj, ops[j]? = some oj → j ≠ i → listed.getD j true = false → (∀ e ∈ oj.after, Region.binds md e = true → e.on ≠ i) → oi.apart ops oj = true) →
      i ∈ Region.ready md ops listed → YieldsU P ops C oi v a → Up C →
      wpU P md ops Q fuel (listed.setIfInBounds i true) (a.put oi.dst v) C → wpU P md ops Q (fuel + 1) listed a C := by
  intro fuel
  induction fuel with
  | zero =>
    intro listed a C _ hr hy hU H
    by_cases hC : ∃ W, C W
    · obtain ⟨W, hW⟩ := hC
      refine ⟨fun h => (by rw [h] at hr; cases hr), fun j hj => ?_⟩
      by_cases hji : j = i
      · subst hji; exact hy.uOp hi H
      · have := ready_mono hj hji
        rw [(H W hW).1] at this
        cases this
    · exact wpU_bot _ _ _ _ (fun W hW => hC ⟨W, hW⟩)
  | succ fuel ih =>
    intro listed a C hfree hr hy hU H
    refine ⟨fun h => (by rw [h] at hr; cases hr), fun j hj => ?_⟩
    by_cases hji : j = i
    · subst hji; exact hy.uOp hi H
    · have h1 := H.2 j (ready_mono hj hji)
      obtain ⟨hjun, oj, hoj, hall⟩ := mem_ready.1 hj
      have hnot : ∀ e ∈ oj.after, Region.binds md e = true → e.on ≠ i := fun e he hb heq => by
        have h1 := hall e he hb
        have h0 := (mem_ready.1 hr).1
        rw [heq] at h1
        rcases Nat.lt_or_ge i listed.size with h' | h'
        · simp [h'] at h0 h1; rw [h0] at h1; cases h1
        · simp [Array.getElem?_eq_none h'] at h1
      have h2 := uOp_put hoj (hfree j oj hoj hji hjun hnot) (fun cs b => hsel i oi cs b hi) (fun cs b => hsel j oj cs b hoj) hy hU h1
      have hfree' : ∀ k ok, ops[k]? = some ok → k ≠ i → (listed.setIfInBounds j true).getD k true = false →
          (∀ e ∈ ok.after, Region.binds md e = true → e.on ≠ i) → oi.apart ops ok = true := fun k ok hk hki hun hno => by
        refine hfree k ok hk hki ?_ hno
        by_cases hjk : j = k
        · subst hjk; exact hjun
        · rw [getD_set_ne true hjk] at hun; exact hun
      refine uOp_mono (fun W hW => hW) (fun a' D D' hD h3 => ?_) h2
      refine wpU_mono _ _ _ _ _ hD (ih (listed.setIfInBounds j true) a' D hfree' (ready_mono hr (Ne.symm hji)) h3.1 h3.2.1 ?_)
      rw [Array.setIfInBounds_comm _ _ hji]
      exact h3.2.2

/-! ### The moves -/
theorem wpU_take {i : Nat} {oi : Oper} {v : Value} {fuel : Nat} {listed : Array Bool} {a : Act} {C : World → Prop} (hi : ops[i]? = some oi)
    (hs : Region.noSelect ops = true) (hf : Region.free md ops listed i = true) (hr : (Region.ready md ops listed).contains i = true) (hU : Up C) (hy : YieldsU P ops C oi v a)
    (h : wpU P md ops Q fuel (listed.setIfInBounds i true) (a.put oi.dst v) C) : wpU P md ops Q (fuel + 1) listed a C :=
  wpU_first hi (Region.noSelect_spec hs) fuel listed a C (Region.free_spec hi hf) (by simpa using hr) hy hU h
theorem at_drop {i : Nat} {oi : Oper} {rest : List Oper} (hi : ops.toList.drop i = oi :: rest) : ops[i]? = some oi := by
  have h : (ops.toList.drop i)[0]? = some oi := by rw [hi]; rfl
  rw [List.getElem?_drop] at h
  simpa using h
/-- The same, the value to be found on the way. -/
theorem wpU_taken {i : Nat} {oi : Oper} {rest : List Oper} {fuel : Nat} {listed : Array Bool} {a : Act} {C : World → Prop} (hi : ops.toList.drop i = oi :: rest)
    (hs : Region.noSelect ops = true) (hf : Region.free md ops listed i = true) (hr : (Region.ready md ops listed).contains i = true) (hU : Up C)
    (h : ∃ v, YieldsU P ops C oi v a ∧ wpU P md ops Q fuel (listed.setIfInBounds i true) (a.put oi.dst v) C) : wpU P md ops Q (fuel + 1) listed a C :=
  let ⟨_, h1, h2⟩ := h
  wpU_take (at_drop hi) hs hf hr hU h1 h2
/-- The one that alone may come up, of whose value T is said. -/
theorem wpU_one {i : Nat} {o : Oper} {rest : List Oper} {fuel : Nat} {listed : Array Bool} {a : Act} {C : World → Prop} (hr : Region.ready md ops listed = [i]) (hi : ops.toList.drop i = o :: rest) (hw : Region.wanted o (yielded ops a.tmps) = true)
    (T : Value → World → Prop) (hT : ∀ u, Up (T u)) (hd : doesIn P o a C T) (h : ∀ u, wpU P md ops Q fuel (listed.setIfInBounds i true) (a.put o.dst u) (fun W => C W ∧ T u W)) : wpU P md ops Q (fuel + 1) listed a C :=
  ⟨(fun h0 => by rw [h0] at hr; cases hr), fun j hj => by
    rw [hr] at hj
    rw [List.mem_singleton] at hj
    subst hj
    unfold uOp
    simp only [at_drop hi, hw, if_true]
    exact ⟨T, hT, hd, h⟩⟩
/-- Two may come up, each of which makes memory. -/
theorem wpU_two {i j : Nat} {o o' : Oper} {rest rest' : List Oper} {fuel : Nat} {listed : Array Bool} {a : Act} {C : World → Prop} (hr : Region.ready md ops listed = [i, j]) (hi : ops.toList.drop i = o :: rest) (hj : ops.toList.drop j = o' :: rest')
    (hw : Region.wanted o (yielded ops a.tmps) = true) (hw' : Region.wanted o' (yielded ops a.tmps) = true)
    (T T' : Value → World → Prop) (hT : ∀ u, Up (T u)) (hT' : ∀ u, Up (T' u)) (hd : doesIn P o a C T) (hd' : doesIn P o' a C T')
    (h : ∀ u, wpU P md ops Q fuel (listed.setIfInBounds i true) (a.put o.dst u) (fun W => C W ∧ T u W)) (h' : ∀ u, wpU P md ops Q fuel (listed.setIfInBounds j true) (a.put o'.dst u) (fun W => C W ∧ T' u W)) : wpU P md ops Q (fuel + 1) listed a C :=
  ⟨(fun h0 => by rw [h0] at hr; cases hr), fun k hk => by
    rw [hr] at hk
    rcases List.mem_cons.1 hk with rfl | hk
    · unfold uOp
      simp only [at_drop hi, hw, if_true]
      exact ⟨T, hT, hd, h⟩
    · rw [List.mem_singleton] at hk
      subst hk
      unfold uOp
      simp only [at_drop hj, hw', if_true]
      exact ⟨T', hT', hd', h'⟩⟩
theorem wpU_done {fuel : Nat} {listed : Array Bool} {a : Act} {C : World → Prop} (hr : Region.ready md ops listed = []) (h : ∀ W, C W → Q .normal a W) : wpU P md ops Q fuel listed a C := by
  cases fuel with
  | zero => exact fun W hW => ⟨hr, h W hW⟩
  | succ n => exact ⟨fun _ => h, fun i hi => by rw [hr] at hi; cases hi⟩
theorem wp_region_U {id : Nat} {a : Act} {w : World} {C : World → Prop} (hm : P.follows .mixedOrders = true) (hU : Up C) (hC : C w.drew)
    (h : wpU P .any ops Q ops.size (Array.replicate ops.size false) a C) : (Code.region id ops true).wp P Q a w :=
  wp_region_any hm (wpAny_of_U _ _ _ C _ hU hC h)
end
end Go.Proofs.Ytkghnjgioijgpaa.RegionU
