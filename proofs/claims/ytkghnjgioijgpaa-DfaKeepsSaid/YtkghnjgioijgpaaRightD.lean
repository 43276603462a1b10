/- Walk of Right. -/
import Derived.Test.YtkghnjgioijgpaaPieces
import Derived.Test.YtkghnjgioijgpaaRight
namespace Go.Proofs.Ytkghnjgioijgpaa.DfaW
set_option linter.unusedVariables false
open Go.RowKit Go.Maps Go.Proofs.Ytkghnjgioijgpaa.PartM Go.Proofs.Ytkghnjgioijgpaa.PartW

/-- Whether a machine may be. -/
structure Ok (m : Mc) : Prop where
  cls : sameA m.of (PartM.nm (byKey m.of)) = true
  wd : m.wd = (rk (byKey m.of) 256 : Nat)
  nms : NamesOk m.nm
  lbs : LabelsOk (m.nm.length : Nat) m.lb
  rws : RowsOk (m.lb.length : Nat) m.wd m.nx
/-- A machine's box, and what lies in it. -/
structure Bx (w : World) (b : Nat) (C : Array Value) (m : Mc) : Prop where
  ar : Ar w b C 27
  is : IsM w.heap.size w C m
theorem Bx.below {w w' : World} {b : Nat} {C : Array Value} {m : Mc} (h : Bx w b C m) (hb : Below w.heap.size w w') : Bx w' b C m := ⟨h.ar.below hb, h.is.next hb⟩
theorem Bx.new {w : World} {C : Array Value} {m : Mc} (h : IsM w.heap.size w C m) : Bx (w.alloc (.cells C 27)) w.heap.size C m := ⟨Ar.new _ _ _, h.next ((Below.refl _ _).alloc (Nat.le_refl _) _)⟩
theorem Bx.alloc {w : World} {b : Nat} {C : Array Value} {m : Mc} (h : Bx w b C m) (o : Obj) : Bx (w.alloc o) b C m := h.below ((Below.refl _ _).alloc (Nat.le_refl _) _)
theorem Bx.drew {w : World} {b : Nat} {C : Array Value} {m : Mc} (h : Bx w b C m) : Bx w.drew b C m := h.below (Below.refl _ _).drew
theorem Bx.wd {w : World} {b : Nat} {C : Array Value} {m : Mc} (h : Bx w b C m) : w.cell? ⟨b, 256, none⟩ = some (.int .i64 m.wd) := (Ar.at' h.ar 256).trans h.is.wd
theorem Bx.nx {w : World} {b : Nat} {C : Array Value} {m : Mc} (h : Bx w b C m) : ∃ v, w.cell? ⟨b, 257, none⟩ = some v ∧ RS w.heap.size w v m.nx := by
  obtain ⟨v, h1, h2⟩ := h.is.nx; exact ⟨v, (Ar.at' h.ar 257).trans h1, h2⟩
theorem Bx.lb {w : World} {b : Nat} {C : Array Value} {m : Mc} (h : Bx w b C m) : ∃ v, w.cell? ⟨b, 258, none⟩ = some v ∧ IS w.heap.size w v m.lb := by
  obtain ⟨v, h1, h2⟩ := h.is.lb; exact ⟨v, (Ar.at' h.ar 258).trans h1, h2⟩
theorem Bx.nm {w : World} {b : Nat} {C : Array Value} {m : Mc} (h : Bx w b C m) : ∃ v, w.cell? ⟨b, 259, none⟩ = some v ∧ TS w.heap.size w v m.nm := by
  obtain ⟨v, h1, h2⟩ := h.is.nm; exact ⟨v, (Ar.at' h.ar 259).trans h1, h2⟩
theorem IsM.box {w : World} {B : Nat} {C : Array Value} {m : Mc} (h : IsM B w C m) : (Try.prog.info? 27).map (·.size) = some C.size := by rw [h.size]; exact infoD
theorem IsM.ofsize {w : World} {B : Nat} {C : Array Value} {m : Mc} (h : IsM B w C m) : (Try.prog.info? 22).map (·.size) = some (C.toList.take 256).length := by
  rw [infoA]; simp [h.size]
section
variable {ops : Array Oper} {rest : List Oper} {op : Oper} {a : Act} {w : World} {Q : Exit → Act → World → Prop} {K : Act → World → Prop}
/-- The classes are loaded out of a machine's box. -/
theorem run_load_of (x : Operand) (ho : op.op = .load 22 x) {b : Nat} (hx : a.eval x = .pointer (some ⟨b, 0, none⟩)) {C : Array Value} {m : Mc} (h : Bx w b C m) : (execOp a.eval op).run Try.prog w = .ok (.value (.agg (ofC C))) w := by
  unfold execOp
  simp only [ho, hx, Instr.loadAt, Instr.sureAddr, Sem.run_bind, Sem.run_pure, Result.andThen_ok, run_loadVar_mid w b 0 22 (C.toList.take 256) _ (h.is.range h.ar) Try.underlying22 rfl h.is.ofsize]
  rfl
theorem wpList_load_of (hg : op.guard = none) (x : Operand) (ho : op.op = .load 22 x) {b : Nat} (hx : a.eval x = .pointer (some ⟨b, 0, none⟩)) {C : Array Value} {m : Mc} (h : Bx w b C m)
    (hK : wpList Try.prog ops Q rest (a.put op.dst (.agg (ofC C))) w) : wpList Try.prog ops Q (op :: rest) a w :=
  wpList_plain hg fun _ hK' => by
    unfold Oper.wp
    rw [run_load_of x ho hx h]
    exact hK' _ _ hK
theorem wpList_load_of_g (hw : Region.wanted op (yielded ops a.tmps) = true) (x : Operand) (ho : op.op = .load 22 x) {b : Nat} (hx : a.eval x = .pointer (some ⟨b, 0, none⟩)) {C : Array Value} {m : Mc} (h : Bx w b C m)
    (hK : wpList Try.prog ops Q rest (a.put op.dst (.agg (ofC C))) w) : wpList Try.prog ops Q (op :: rest) a w :=
  wpList_step fun _ hK' => by
    rw [if_pos hw]
    unfold Oper.wp
    rw [run_load_of x ho hx h]
    exact hK' _ _ hK
theorem run_load_dfa (x : Operand) (ho : op.op = .load 27 x) {b : Nat} (hx : a.eval x = .pointer (some ⟨b, 0, none⟩)) {C : Array Value} {m : Mc} (h : Bx w b C m) : (execOp a.eval op).run Try.prog w = .ok (.value (.agg C)) w :=
  run_load_box 27 x ho hx h.ar Try.underlying27 rfl h.is.box
theorem wpList_load_dfa (hg : op.guard = none) (x : Operand) (ho : op.op = .load 27 x) {b : Nat} (hx : a.eval x = .pointer (some ⟨b, 0, none⟩)) {C : Array Value} {m : Mc} (h : Bx w b C m)
    (hK : wpList Try.prog ops Q rest (a.put op.dst (.agg C)) w) : wpList Try.prog ops Q (op :: rest) a w :=
  wpList_plain hg fun _ hK' => by
    unfold Oper.wp
    rw [run_load_dfa x ho hx h]
    exact hK' _ _ hK
end

set_option maxRecDepth 100000 in
set_option maxHeartbeats 2000000 in
theorem RightD_any {C : Array Value} {m : Mc} (w : World) (h : IsM w.heap.size w C m) :
    Calls Try.prog 8 #[.agg C] w fun e w' => Says e (Ok m) ∧ Below w.heap.size w w' := by
  have hx := Bx.new h
  have hb0 : Below w.heap.size w (w.alloc (.cells C 27)) := (Below.refl _ _).alloc (Nat.le_refl _) _
  have x1 := hx.wd
  have HP := Lib.hid (fun w => Right_any h.isA h.oflt m.wd w)
  obtain ⟨q, hq⟩ : ∃ q, q = (sameA m.of (PartM.nm (byKey m.of)) && (m.wd == (rk (byKey m.of) 256 : Nat))) := ⟨_, rfl⟩
  rw [← hq] at HP
  have HQ := Lib.hid hq
  have HX := Lib.hid hx
  have HB0 := Lib.hid hb0
  clear h hx hb0 hq
  go_enter Try.func8, Try.ntmps8
  go_wp2_with (refine wpList_load_of rfl (.tmp 3) rfl rfl HX.out ?_)
  refine (HP.out _).mono ?_
  rintro e w1 ⟨rfl, hb1⟩
  have hX1 := HX.out.below hb1
  have HX1 := Lib.hid hX1
  have HB1 := Lib.hid (HB0.out.trans (hb1.mono HB0.out.size))
  clear hb1 x1
  cases q with
  | false =>
    clear hX1
    go_wp2_with fail
    go_ret
    refine ⟨Says.no fun h => ?_, HB1.out⟩
    have := HQ.out
    rw [h.cls, h.wd] at this
    simp at this
  | true =>
    obtain ⟨v3, x3, hv3⟩ := hX1.nm
    have HN := Lib.hid (rightNames_any w1 hv3)
    clear hX1
    obtain ⟨a3, c3, rfl, _, hm3, _⟩ := hv3.open
    have hm3' : (m.nm.length : Int) ≤ 9223372036854775807 := by unfold maxLen at hm3; omega
    clear hv3 hm3
    go_wp2_with fail
    refine HN.out.mono ?_
    rintro e w2 ⟨hs, rfl⟩
    rcases hs.elim with ⟨rfl, hn⟩ | ⟨rfl, hn⟩
    · have H1 := Lib.hid hn
      clear hn hs
      obtain ⟨v2, x2, hv2⟩ := HX1.out.lb
      have HL := Lib.hid (rightLabels_any (m.nm.length : Nat) w1 hv2)
      obtain ⟨a2, c2, rfl, _, hm2, _⟩ := hv2.open
      have hm2' : (m.lb.length : Int) ≤ 9223372036854775807 := by unfold maxLen at hm2; omega
      clear hv2 hm2
      go_wp2_with fail
      refine HL.out.mono ?_
      rintro e w2 ⟨hs, hb2⟩
      have hX2 := HX1.out.below hb2
      have HB2 := Lib.hid (HB1.out.trans (hb2.mono HB1.out.size))
      clear hb2
      rcases hs.elim with ⟨rfl, hn⟩ | ⟨rfl, hn⟩
      · have H2 := Lib.hid hn
        clear hn hs x2 x3
        obtain ⟨v1, x1, hv1⟩ := hX2.nx
        obtain ⟨v2, x2, hv2⟩ := hX2.lb
        have x0 := hX2.wd
        have HR := Lib.hid (rightRows_any (m.lb.length : Nat) m.wd w2 hv1)
        obtain ⟨a2, c2, rfl, _, _, _⟩ := hv2.open
        clear hv1 hv2 hX2
        go_wp2_with fail
        refine HR.out.mono ?_
        rintro e w3 ⟨hs, rfl⟩
        rcases hs.elim with ⟨rfl, hn⟩ | ⟨rfl, hn⟩
        · have H3 := Lib.hid hn
          clear hn hs
          go_wp2_with fail
          go_ret
          have := HQ.out.symm
          simp only [Bool.and_eq_true, beq_iff_eq] at this
          exact ⟨Says.yes ⟨this.1, this.2, H1.out, H2.out, H3.out⟩, HB2.out⟩
        · have H3 := Lib.hid hn
          clear hn hs
          go_wp2_with fail
          go_ret
          exact ⟨Says.no fun h => H3.out h.rws, HB2.out⟩
      · have H2 := Lib.hid hn
        clear hn hs hX2
        go_wp2_with fail
        go_ret
        exact ⟨Says.no fun h => H2.out h.lbs, HB2.out⟩
    · have H1 := Lib.hid hn
      clear hn hs
      go_wp2_with fail
      go_ret
      exact ⟨Says.no fun h => H1.out h.nms, HB1.out⟩
end Go.Proofs.Ytkghnjgioijgpaa.DfaW
