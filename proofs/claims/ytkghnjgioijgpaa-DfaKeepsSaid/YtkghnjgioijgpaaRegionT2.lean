/- A region that draws its order: a head in one walk, and a tail in one order; outside fences. -/
import Derived.Test.YtkghnjgioijgpaaRegionT
set_option linter.unusedVariables false
namespace Go.Proofs.Ytkghnjgioijgpaa.RegionU
open Go Go.RowKit
section
variable {P : Program} {ops : Array Oper} {Q : Exit → Act → World → Prop} {md : Region.Mode} {n g : Nat} {E : Act → World → Prop}
/-- Two may come up, each of which makes memory. -/
theorem wpT_two {i j : Nat} {o o' : Oper} {rest rest' : List Oper} {fuel : Nat} {listed : Array Bool} {a : Act} {C : World → Prop} (hr : Region.ready md ops listed = [i, j]) (hin : decide (i < n) = true) (hjn : decide (j < n) = true) (hi : ops.toList.drop i = o :: rest) (hj : ops.toList.drop j = o' :: rest')
    (hw : Region.wanted o (yielded ops a.tmps) = true) (hw' : Region.wanted o' (yielded ops a.tmps) = true)
    (T T' : Value → World → Prop) (hT : ∀ u, Up (T u)) (hT' : ∀ u, Up (T' u)) (hd : doesIn P o a C T) (hd' : doesIn P o' a C T')
    (h : ∀ u, wpT P md ops n g E fuel (listed.setIfInBounds i true) (a.put o.dst u) (fun W => C W ∧ T u W)) (h' : ∀ u, wpT P md ops n g E fuel (listed.setIfInBounds j true) (a.put o'.dst u) (fun W => C W ∧ T' u W)) : wpT P md ops n g E (fuel + 1) listed a C :=
  fun _ => ⟨(fun h0 => by rw [h0] at hr; cases hr), fun k hk => by
    rw [hr] at hk
    rcases List.mem_cons.1 hk with rfl | hk
    · refine ⟨by simpa using hin, ?_⟩
      unfold uOp
      simp only [at_drop hi, hw, if_true]
      exact ⟨T, hT, hd, h⟩
    · rw [List.mem_singleton] at hk
      subst hk
      refine ⟨by simpa using hjn, ?_⟩
      unfold uOp
      simp only [at_drop hj, hw', if_true]
      exact ⟨T', hT', hd', h'⟩⟩
theorem wpAny_of_T (hE : ∀ listed a W, Region.seqB md ops g n listed = true → E a W → wpAny P md ops Q g listed a W) :
    ∀ (fuel : Nat) (listed : Array Bool) (a : Act) (C : World → Prop) (W : World), Up C → C W → wpT P md ops n g E fuel listed a C → wpAny P md ops Q (fuel + g) listed a W
  | 0, listed, a, C, W, _, hW, h => by rw [Nat.zero_add]; exact hE _ _ _ (h W hW).1 (h W hW).2
  | fuel + 1, listed, a, C, W, hU, hW, h => by
    rw [show fuel + 1 + g = (fuel + g) + 1 by omega]
    refine ⟨fun h0 => absurd h0 (h ⟨W, hW⟩).1, fun i hi => ?_⟩
    have h1 := ((h ⟨W, hW⟩).2 i hi).2
    unfold uOp at h1
    unfold wpOp
    split
    · rename_i ho; simp only [ho] at h1; exact wpAny_of_T hE fuel _ _ C W hU hW h1
    · rename_i o ho
      simp only [ho] at h1
      split
      · rename_i hw
        simp only [hw, if_true] at h1
        obtain ⟨T, hT, hdd, hk⟩ := h1
        refine .inl ?_
        have hd1 := hdd W hW
        unfold Oper.wp
        generalize (execOp a.eval o).run P W = r at *
        have go : ∀ u W', T u W' → R W W' → wpAny P md ops Q (fuel + g) (listed.setIfInBounds i true) (a.put o.dst u) W' := fun u W' ht hr =>
          wpAny_of_T hE fuel _ _ _ W' (hU.and (hT u)) ⟨hU W W' hW hr, ht⟩ (hk u)
        cases r with
        | ok x W' =>
          cases x <;> simp only [does] at hd1 <;> simp only [Oper.upon]
          case value u => exact go u W' hd1.1 hd1.2
          case skip => exact go undef W' hd1.1 hd1.2
          case enter f args =>
            obtain ⟨e1, hcall⟩ := hd1
            rw [e1]
            exact hcall.mono fun e W'' ⟨u, he, ht, hr⟩ => by subst he; exact go u W'' ht hr
        | halt x W' => simp only [does] at hd1
      · rename_i hw; simp only [hw] at h1; exact wpAny_of_T hE fuel _ _ C W hU hW h1
theorem wp_region_T {id : Nat} {a : Act} {w : World} {l : List Oper} {C : World → Prop} (k : Nat)
    (hm : P.follows .mixedOrders = true) (hk : decide (k ≤ l.length) = true) (hU : Up C) (hC : C w.drew)
    (h : wpT P .any l.toArray k (l.length - k) (fun a' W => wpList P l.toArray Q (l.drop k) a' W) k (Array.replicate l.toArray.size false) a C) : (Code.region id l.toArray true).wp P Q a w := by
  refine wp_region_any hm ?_
  have hk' : k ≤ l.length := by simpa using hk
  have := wpAny_of_T (Q := Q) (fun listed a' W hB hE => by
    have hl : (l.drop k).length = l.length - k := by simp
    have := wpAny_of_seq (md := .any) (Q' := Q) (l.drop k) k listed a' W (fun j => by simp [List.getElem?_drop]) (by rw [hl]; exact hB) hE
    rwa [hl] at this) k _ a C w.drew hU hC h
  rw [show k + (l.length - k) = l.toArray.size by simp; omega] at this
  exact this
end
end Go.Proofs.Ytkghnjgioijgpaa.RegionU
