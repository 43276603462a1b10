/- Machines whose labels and names are the call's own, and whose rows are made one by one; slices.Clone of texts in plain words. -/
import Derived.Test.YthefhkgjadfhgaaDoorMadeR
import Derived.Test.YthefhkgjadfhgaaDoorMach
namespace Go.Proofs.YthefhkgjadfhgaaDoor.DfaW
set_option linter.unusedVariables false
set_option linter.unusedSimpArgs false
open Go.Proofs.YthefhkgjadfhgaaDoor.RegionU (Up)
open Go.RowKit Go.Maps Go.Proofs.YthefhkgjadfhgaaDoor.PartM Go.Proofs.YthefhkgjadfhgaaDoor.PartW
theorem clonesS_any {B : Nat} {a : Option Addr} {n c : Nat} {l : List ByteArray} (w : World) (h : TS B w (.slice a n c) l) (hl : l.length ≤ 65536) : Calls Tryd.prog 26 #[.slice a n c] w fun e w' => ∃ v', e = .returned v' ∧ OS w' w.heap.size v' l ∧ Below w.heap.size w w' := by
  obtain ⟨a', cap, he, h1, h2, h3⟩ := h.open
  simp only [Value.slice.injEq] at he
  obtain ⟨rfl, rfl, rfl⟩ := he
  rcases Nat.eq_zero_or_pos l.length with h0 | h0
  · obtain rfl := List.length_eq_zero_iff.1 h0
    cases a with
    | none => exact (Tryd.slices_Clone_string_nil 0 c w).mono fun e w' ⟨h, hw⟩ => ⟨_, h, OS.nil _ _, by rw [hw]; exact Below.refl _ _⟩
    | some ad => exact (Tryd.slices_Clone_string_zero ad c w).mono fun e w' ⟨v', h, ho, _, hb⟩ => ⟨v', h, ho, hb⟩
  · obtain ⟨b, o, rfl, hb, hc⟩ := TS.cells (cap := c) h3 h0
    refine (Tryd.slices_Clone_string b o l.length c l w (Nat.le_refl _) (by omega) (fun j hj => by rw [hc j hj])).mono fun e w' ⟨v', h, ho, _, hb⟩ => ⟨v', h, ?_, hb⟩
    rw [List.take_length] at ho
    exact ho
/-- A list of the call's own; texts; a box; a slice of one thing. -/
def QI (b : Nat) (l : List Int) (u : Value) (W : World) : Prop := OI W b u l
theorem QI.up (b : Nat) (l : List Int) (u : Value) : Up (QI b l u) := fun W W' h hr => OI.below h hr
def QT (b : Nat) (l : List ByteArray) (u : Value) (W : World) : Prop := OS W b u l
theorem QT.up (b : Nat) (l : List ByteArray) (u : Value) : Up (QT b l u) := fun W W' h hr => OS.below h hr
def QB (n : Nat) (Z : Array Value) (u : Value) (W : World) : Prop := ∃ b, u = .pointer (some ⟨b, 0, none⟩) ∧ Ar W b Z 27 ∧ n ≤ b
theorem QB.up (n : Nat) (Z : Array Value) (u : Value) : Up (QB n Z u) := fun W W' ⟨b, h1, h2, h3⟩ hr => ⟨b, h1, h2.below hr, h3⟩
def Q1 (n : Nat) (t : TypeId) (x : Value) (u : Value) (W : World) : Prop := ∃ b, u = .slice (some ⟨b, 0, none⟩) 1 1 ∧ Ar W b #[x] t ∧ n ≤ b
theorem Q1.up (n : Nat) (t : TypeId) (x : Value) (u : Value) : Up (Q1 n t x u) := fun W W' ⟨b, h1, h2, h3⟩ hr => ⟨b, h1, h2.below hr, h3⟩
theorem al_b (w : World) (o : Obj) : Below w.heap.size w (w.alloc o) := (Below.refl _ _).alloc (Nat.le_refl _) _
theorem run_op_build6 {op : Oper} {a : Act} {w : World} (p0 p1 p3 p4 : Operand) (ho : op.op = .build 27 #[(0, p0), (1, p1), (3, p3), (4, p4)]) {A : Array Value} (hA : A.size = 256) {x : Int} {a1 a3 : Option Addr} {n1 c1 n3 c3 : Nat} (h0 : a.eval p0 = .agg A) (h1 : a.eval p1 = .int .i64 x) (h2 : a.eval p3 = .slice a1 n1 c1) (h4 : a.eval p4 = .slice a3 n3 c3) :
    (execOp a.eval op).run Tryd.prog w = .ok (.value (.agg (mkC A (.int .i64 x) nilS (.slice a1 n1 c1) (.slice a3 n3 c3)))) w := by
  unfold execOp
  simp only [ho, List.map_toArray, List.map_cons, List.map_nil, h0, h1, h2, h4, Sem.run_bind, build6 hA, Result.andThen_ok]
  rfl
theorem own_apart {w : World} {b n bk : Nat} {e t : TypeId} {s : Nat} {v : Value} {vs : List Value} {D : Array Value} (ho : w.ownsRow b e s v n vs) (hb : Ar w bk D t) (he : e ≠ t) {g : Nat} (hg : v.ownBlock = some g) : g ≠ bk := fun h => by
  obtain ⟨⟨cur, h1⟩, _⟩ := own_at ho hg
  have h2 : w.heap[bk]? = _ := hb
  rw [h, h2] at h1
  injection h1 with h1
  injection h1 with _ h1
  exact he h1.symm
/-- A machine without rows, all else of which is the call's own, whatever becomes of what lay ahead, and of the box bk. -/
theorem rx_own {w : World} {B bk : Nat} {A D : Array Value} {f : Nat → Nat} {x : Int} {v2 u : Value} {ls : List Int} {l : List ByteArray} (hA : IsA A f) (hf : ∀ i, i < 256 → f i < 256) (hbk : Ar w bk D 27) (o2 : OI w B v2 ls) (o3 : OS w B u l) (hz : Szs l) :
    Rx (fun k => k < B ∨ k = bk) w (mkC A (.int .i64 x) nilS v2 u) ⟨f, x, [], ls, l⟩ := fun w'' a => by
  have k2 : OI w'' B v2 ls := own_keep o2 fun g hg => a.block g (fun h => h.elim (fun h => by have := (own_at o2 hg).2.1; omega) (own_apart o2 hbk (by decide) hg)) (own_at o2 hg).2.2
  have k3 : OS w'' B u l := own_keep o3 fun g hg => a.block g (fun h => h.elim (fun h => by have := (own_at o3 hg).2.1; omega) (own_apart o3 hbk (by decide) hg)) (own_at o3 hg).2.2
  exact mkC_is (m := ⟨f, x, [], ls, l⟩) hA hf ⟨[], VS.nil _ _ _, rfl, fun i hi => by simp at hi⟩ k2.is (k3.is hz)
theorem range_map {α β : Type} (L : List α) (d : α) (g : α → β) : (List.range L.length).map (fun i => g (L.getD i d)) = L.map g := by
  refine List.ext_getElem (by simp) fun i h1 h2 => ?_
  simp at h1
  simp [List.getD, h1]
end Go.Proofs.YthefhkgjadfhgaaDoor.DfaW
