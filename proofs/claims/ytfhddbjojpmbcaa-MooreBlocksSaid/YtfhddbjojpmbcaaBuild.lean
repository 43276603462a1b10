/- Machines as values that are built. -/
import Derived.Test.YtfhddbjojpmbcaaMach
import Derived.Test.YtfhddbjojpmbcaaTexts
import Derived.Test.YtfhddbjojpmbcaaZero
namespace Go.Proofs.Ytfhddbjojpmbcaa.DfaW
set_option linter.unusedVariables false
set_option linter.unusedSimpArgs false
open Go.RowKit Go.Maps Go.Proofs.Ytfhddbjojpmbcaa.PartM Go.Proofs.Ytfhddbjojpmbcaa.PartW

/-- The cells of a machine: its classes', its width, its three slices. -/
def mkC (A : Array Value) (x v1 v2 v3 : Value) : Array Value := A ++ #[x, v1, v2, v3]
def zA : Array Value := Array.replicate 256 (.int .u8 0)
theorem zA_is : IsA zA (fun _ => 0) := ⟨by simp [zA], fun i hi => by unfold zA; rw [Array.getElem?_replicate]; simp [hi]⟩
def nilS : Value := .slice none 0 0
theorem mkC_size {A : Array Value} (h : A.size = 256) (x v1 v2 v3 : Value) : (mkC A x v1 v2 v3).size = 260 := by simp [mkC, h]
theorem mkC_lo {A : Array Value} {i : Nat} (hi : i < A.size) (x v1 v2 v3 : Value) : (mkC A x v1 v2 v3)[i]? = A[i]? := by unfold mkC; rw [Array.getElem?_append_left hi]
theorem mkC_hi {A : Array Value} (h : A.size = 256) (x v1 v2 v3 : Value) (k : Nat) : (mkC A x v1 v2 v3)[256 + k]? = #[x, v1, v2, v3][k]? := by
  unfold mkC
  rw [Array.getElem?_append_right (by omega), h, show 256 + k - 256 = k by omega]
theorem mkC_is {B : Nat} {w : World} {A : Array Value} {m : Mc} {v1 v2 v3 : Value} (hA : IsA A m.of) (hof : ∀ i, i < 256 → m.of i < 256) (h1 : RS B w v1 m.nx) (h2 : IS B w v2 m.lb) (h3 : TS B w v3 m.nm) : IsM B w (mkC A (.int .i64 m.wd) v1 v2 v3) m :=
  ⟨mkC_size hA.size _ _ _ _, fun i hi => by rw [mkC_lo (by rw [hA.size]; exact hi)]; exact hA.at' i hi, hof, mkC_hi hA.size _ _ _ _ 0, ⟨v1, mkC_hi hA.size _ _ _ _ 1, h1⟩, ⟨v2, mkC_hi hA.size _ _ _ _ 2, h2⟩, ⟨v3, mkC_hi hA.size _ _ _ _ 3, h3⟩⟩
theorem oneAll {A : Array Value} (h : A.all (·.oneCell') = true) {x v1 v2 v3 : Value} (hx : x.oneCell' = true) (h1 : v1.oneCell' = true) (h2 : v2.oneCell' = true) (h3 : v3.oneCell' = true) : (mkC A x v1 v2 v3).all (·.oneCell') = true := by
  unfold mkC
  rw [Array.all_append, h]
  simp [hx, h1, h2, h3]
theorem set_hi {A : Array Value} (h : A.size = 256) (x v1 v2 v3 y : Value) : (mkC A x v1 v2 v3).setIfInBounds 256 y = mkC A y v1 v2 v3 ∧ (mkC A x v1 v2 v3).setIfInBounds 257 y = mkC A x y v2 v3 ∧ (mkC A x v1 v2 v3).setIfInBounds 258 y = mkC A x v1 y v3 ∧ (mkC A x v1 v2 v3).setIfInBounds 259 y = mkC A x v1 v2 y := by
  have hs := mkC_size h
  have e : ∀ (C D : Array Value) (p : Nat), C.size = 260 → D.size = 260 → D[p]? = some y → p < 260 → (∀ i, i ≠ p → C[i]? = D[i]?) → C.setIfInBounds p y = D := fun C D p hC hD hp hp2 hq => by
    apply Array.ext_getElem?
    intro i
    rw [Array.getElem?_setIfInBounds]
    by_cases ei : p = i
    · subst ei; rw [if_pos rfl, if_pos (by omega), hp]
    · rw [if_neg ei]; exact hq i (fun x => ei x.symm)
  have q : ∀ (x v1 v2 v3 x' v1' v2' v3' : Value) (p : Nat), (∀ k, k < 4 → 256 + k ≠ p → #[x, v1, v2, v3][k]? = #[x', v1', v2', v3'][k]?) → ∀ i, i ≠ p → (mkC A x v1 v2 v3)[i]? = (mkC A x' v1' v2' v3')[i]? := fun x v1 v2 v3 x' v1' v2' v3' p hk i hi => by
    by_cases hl : i < 256
    · rw [mkC_lo (by omega), mkC_lo (by omega)]
    · obtain ⟨k, rfl⟩ : ∃ k, i = 256 + k := ⟨i - 256, by omega⟩
      rw [mkC_hi h, mkC_hi h]
      by_cases hk4 : k < 4
      · exact hk k hk4 hi
      · rw [Array.getElem?_eq_none (by simp; omega), Array.getElem?_eq_none (by simp; omega)]
  refine ⟨e _ _ _ (hs _ _ _ _) (hs _ _ _ _) (mkC_hi h _ _ _ _ 0) (by omega) (q _ _ _ _ _ _ _ _ _ ?_), e _ _ _ (hs _ _ _ _) (hs _ _ _ _) (mkC_hi h _ _ _ _ 1) (by omega) (q _ _ _ _ _ _ _ _ _ ?_), e _ _ _ (hs _ _ _ _) (hs _ _ _ _) (mkC_hi h _ _ _ _ 2) (by omega) (q _ _ _ _ _ _ _ _ _ ?_), e _ _ _ (hs _ _ _ _) (hs _ _ _ _) (mkC_hi h _ _ _ _ 3) (by omega) (q _ _ _ _ _ _ _ _ _ ?_)⟩
  all_goals
    intro k hk hne
    rcases k with _ | _ | _ | _ | k
    all_goals first | rfl | omega
theorem zeroD_info : (Try.prog.info? 27).map (fun i => (i.zero, i.size)) = some (some (.agg (mkC zA (.int .i64 0) nilS nilS nilS)), 260) := by kernel_rfl
theorem zc : Try.zeroCells27 = mkC zA (.int .i64 0) nilS nilS nilS := by kernel_rfl
def placesD : Array (Nat × Nat) := #[(0, 256), (256, 1), (257, 1), (258, 1), (259, 1)]
theorem run_buildD (parts : Array (Nat × Value)) (cells : Array Value) (h : Instr.fill (placesD[·]?) (mkC zA (.int .i64 0) nilS nilS nilS) parts.toList = some cells) (w : World) : (Instr.build 27 parts).run Try.prog w = .ok (.agg cells) w := by
  have h' : Instr.fill (fun x => [(0, 256), (256, 1), (257, 1), (258, 1), (259, 1)][x]?) (mkC zA (.int .i64 0) nilS nilS nilS) parts.toList = some cells := by
    unfold placesD at h
    simpa using h
  simp [Instr.build, run_underlying Try.underlying27, Try.sizeOf22, Try.sizeOf3, Try.sizeOf23, Try.sizeOf24, Try.sizeOf25, Result.andThen, Value.cells]
  rw [zc, h']
  rfl
theorem zipFold (l : List Value) : ∀ (k : Nat) (D : Array Value) (i : Nat), ((l.zipIdx k).foldl (fun cs p => cs.setIfInBounds (0 + p.2) p.1) D)[i]? = if k ≤ i ∧ i < k + l.length ∧ i < D.size then l[i - k]? else D[i]? := by
  induction l with
  | nil => intro k D i; simp; intro h1 h2; omega
  | cons x l ih =>
    intro k D i
    rw [List.zipIdx_cons, List.foldl_cons, ih]
    simp only [Array.size_setIfInBounds, Nat.zero_add, List.length_cons]
    by_cases h1 : k + 1 ≤ i ∧ i < k + 1 + l.length ∧ i < D.size
    · rw [if_pos h1, if_pos (by omega), show i - k = (i - (k + 1)) + 1 by omega, List.getElem?_cons_succ]
    · rw [if_neg h1, Array.getElem?_setIfInBounds]
      by_cases h2 : k = i
      · subst h2
        rw [if_pos rfl]
        by_cases h3 : k < D.size
        · rw [if_pos h3, if_pos (by omega)]; simp
        · rw [if_neg h3, if_neg (by omega), Array.getElem?_eq_none (by omega)]
      · rw [if_neg h2, if_neg (by omega)]
theorem fill_of {A A' : Array Value} (h : A.size = 256) (h' : A'.size = 256) (x v1 v2 v3 : Value) : A'.zipIdx.foldl (fun cs p => cs.setIfInBounds (0 + p.2) p.1) (mkC A x v1 v2 v3) = mkC A' x v1 v2 v3 := by
  apply Array.ext_getElem?
  intro i
  have := zipFold A'.toList 0 (mkC A x v1 v2 v3) i
  rw [← Array.toList_zipIdx, Array.foldl_toList] at this
  rw [this]
  simp only [Array.length_toList, h', mkC_size h]
  by_cases hi : i < 256
  · rw [if_pos (by omega), mkC_lo (by omega)]; simp
  · rw [if_neg (by omega)]
    obtain ⟨k, rfl⟩ : ∃ k, i = 256 + k := ⟨i - 256, by omega⟩
    rw [mkC_hi h, mkC_hi h']
/-- Composite literals. -/
theorem build4 (x : Int) (a1 : Option Addr) (n1 c1 : Nat) (a2 : Option Addr) (n2 c2 : Nat) (a3 : Option Addr) (n3 c3 : Nat) (w : World) :
    (Instr.build 27 #[(1, .int .i64 x), (2, .slice a1 n1 c1), (3, .slice a2 n2 c2), (4, .slice a3 n3 c3)]).run Try.prog w = .ok (.agg (mkC zA (.int .i64 x) (.slice a1 n1 c1) (.slice a2 n2 c2) (.slice a3 n3 c3))) w := by
  refine run_buildD _ _ ?_ w
  have hz := zA_is.size
  simp only [Instr.fill, placesD, Value.cells, mkC_size hz, set_hi hz, List.zipIdx_cons, List.zipIdx_nil]
  simp [Instr.fill, placesD, Value.cells, mkC_size hz, set_hi hz]
theorem build0 (w : World) : (Instr.build 27 #[]).run Try.prog w = .ok (.agg (mkC zA (.int .i64 0) nilS nilS nilS)) w := run_buildD _ _ rfl w
theorem build3 {A : Array Value} (hA : A.size = 256) (x : Int) (a3 : Option Addr) (n3 c3 : Nat) (w : World) :
    (Instr.build 27 #[(0, .agg A), (1, .int .i64 x), (4, .slice a3 n3 c3)]).run Try.prog w = .ok (.agg (mkC A (.int .i64 x) nilS nilS (.slice a3 n3 c3))) w := by
  refine run_buildD _ _ ?_ w
  have hz := zA_is.size
  have hf := fill_of hz hA (.int .i64 0) nilS nilS nilS
  simp [Instr.fill, placesD, Value.cells, mkC_size hz, mkC_size hA, set_hi hA, hA]
  have hf' : Array.foldl (fun cs x => cs.setIfInBounds x.snd x.fst) (mkC zA (Value.int IntKind.i64 0) nilS nilS nilS) A.zipIdx 0 256 = mkC A (.int .i64 0) nilS nilS nilS := by
    simpa [hA] using hf
  rw [hf', mkC_size hA, (set_hi hA _ _ _ _ _).1, (set_hi hA _ _ _ _ _).2.2.2]
  exact ⟨by omega, by omega, rfl⟩
section
variable {P : Program} {ops : Array Oper} {rest : List Oper} {op : Oper} {a : Act} {w : World} {Q : Exit → Act → World → Prop}
/-- A whole machine is stored. -/
theorem wpList_store_dfa (hg : op.guard = none) (x y : Operand) (ho : op.op = .store 27 x y) {B : Nat} (hx : a.eval x = .pointer (some ⟨B, 0, none⟩)) {C D : Array Value} (hy : a.eval y = .agg D) {t : TypeId} (h : Ar w B C t) (hs : C.size = 260)
    (hd : D.size = 260) (h1 : D.all (·.oneCell') = true) (hK : wpList Try.prog ops Q rest (a.put op.dst undef) (w.setRow B D)) : wpList Try.prog ops Q (op :: rest) a w :=
  wpList_plain hg fun _ hK' => by
    unfold Oper.wp execOp
    simp only [ho, hx, hy, Instr.storeAt, Instr.sureAddr, Sem.run_bind, Sem.run_pure, Result.andThen_ok, run_storeVar_row (P := Try.prog) w B t 27 C D h (by rw [hd]; exact infoD) (by rw [hs, hd]) h1]
    exact hK' _ _ hK
end
theorem loadVarD {w : World} {B : Nat} {C : Array Value} {t : TypeId} (h : Ar w B C t) (hs : C.size = 260) : (loadVar 27 ⟨B, 0, none⟩).run Try.prog w = .ok (.agg C) w :=
  run_loadVar_row w B t 27 C (0, 0) _ h Try.underlying27 rfl (by rw [hs]; exact infoD)
theorem bs_new (w : World) (l : List Nat) (t : TypeId) (fr : Nat × Nat) (hl : l.length ≤ maxLen) (hb : ∀ b ∈ l, b < 256) : BS (w.alloc (.cells (l.map fun (b : Nat) => Value.int .u8 (b : Int)).toArray t fr)).heap.size (w.alloc (.cells (l.map fun (b : Nat) => Value.int .u8 (b : Int)).toArray t fr)) (.slice (some ⟨w.heap.size, 0, none⟩) l.length l.length) l := by
  refine ⟨⟨_, l.length, by simp, by simp, hl, fun i hi => ⟨w.heap.size, 0, rfl, by simp, ?_⟩⟩, hb⟩
  rw [World.cell?_alloc_mark, Nat.zero_add]; simp
theorem bs_nil (w : World) : BS w.heap.size w (.slice none 0 0) [] := ⟨VS.nil _ _ _, fun b hb => by cases hb⟩
theorem bx_store {w : World} {C : Array Value} {m : Mc} (h : IsM w.heap.size w C m) : Bx ((w.alloc (.cells Try.zeroCells27 27)).setRow w.heap.size C) w.heap.size C m := by
  refine ⟨(Ar.new _ _ _).row C, h.next ?_⟩
  exact below_row ((Below.refl _ _).alloc (Nat.le_refl _) _) (Nat.le_refl _) _
theorem ist_below (w : World) (C : Array Value) : Below w.heap.size w ((w.alloc (.cells Try.zeroCells27 27)).setRow w.heap.size C) := below_row ((Below.refl _ _).alloc (Nat.le_refl _) _) (Nat.le_refl _) _
theorem zc_size : (Try.zeroCells27).size = 260 := by rw [zc]; exact mkC_size zA_is.size _ _ _ _
theorem IsM.one {B : Nat} {w : World} {C : Array Value} {m : Mc} (h : IsM B w C m) : C.all (·.oneCell') = true := by
  rw [Array.all_eq_true]
  intro i hi
  have key : ∀ v, C[i]? = some v → v.oneCell' = true → (C[i]).oneCell' = true := fun v hv h1 => by
    rw [Array.getElem?_eq_getElem hi] at hv
    injection hv with hv
    rw [hv]; exact h1
  have hs := h.size
  by_cases h1 : i < 256
  · exact key _ (h.of' i h1) rfl
  · obtain ⟨v1, x1, y1⟩ := h.nx
    obtain ⟨v2, x2, y2⟩ := h.lb
    obtain ⟨v3, x3, y3⟩ := h.nm
    obtain ⟨_, _, rfl, _⟩ := y1.open
    obtain ⟨_, _, rfl, _⟩ := y2.open
    obtain ⟨_, _, rfl, _⟩ := y3.open
    have : i = 256 ∨ i = 257 ∨ i = 258 ∨ i = 259 := by omega
    rcases this with rfl | rfl | rfl | rfl
    · exact key _ h.wd rfl
    · exact key _ x1 rfl
    · exact key _ x2 rfl
    · exact key _ x3 rfl
section
variable {ops : Array Oper} {rest : List Oper} {op : Oper} {a : Act} {w : World} {Q : Exit → Act → World → Prop}
theorem wpList_load_dfa_g (hw : Region.wanted op (yielded ops a.tmps) = true) (x : Operand) (ho : op.op = .load 27 x) {b : Nat} (hx : a.eval x = .pointer (some ⟨b, 0, none⟩)) {C : Array Value} {m : Mc} (h : Bx w b C m)
    (hK : wpList Try.prog ops Q rest (a.put op.dst (.agg C)) w) : wpList Try.prog ops Q (op :: rest) a w :=
  wpList_step fun _ hK' => by
    rw [if_pos hw]
    unfold Oper.wp
    rw [run_load_dfa x ho hx h]
    exact hK' _ _ hK
end
theorem one_of {A : Array Value} {f : Nat → Nat} (h : IsA A f) : A.all (·.oneCell') = true := by
  rw [Array.all_eq_true]
  intro i hi
  have := h.at' i (by rw [← h.size]; exact hi)
  rw [Array.getElem?_eq_getElem hi] at this
  injection this with this
  rw [this]; rfl
theorem run_op_build3 {op : Oper} {a : Act} {w : World} (p0 p1 p4 : Operand) (ho : op.op = .build 27 #[(0, p0), (1, p1), (4, p4)]) {A : Array Value} (hA : A.size = 256) {x : Int} {a3 : Option Addr} {n3 c3 : Nat} (h0 : a.eval p0 = .agg A) (h1 : a.eval p1 = .int .i64 x) (h4 : a.eval p4 = .slice a3 n3 c3) :
    (execOp a.eval op).run Try.prog w = .ok (.value (.agg (mkC A (.int .i64 x) nilS nilS (.slice a3 n3 c3)))) w := by
  unfold execOp
  simp only [ho, List.map_toArray, List.map_cons, List.map_nil, h0, h1, h4, Sem.run_bind, build3 hA, Result.andThen_ok]
  rfl
/-- What a Keep leaves. -/
theorem res_kept {fn : Func} {p q : Tmp} (hf : fn.results = #[.cell p 27, .tmp q]) {tmps : Array Value} {b : Nat} {k : Value} {w : World} {C : Array Value} (hb : tmps.getD p undef = .pointer (some ⟨b, 0, none⟩)) (hq : tmps.getD q undef = k) (h : Ar w b C 27) (hs : C.size = 260) :
    (results fn tmps).run Try.prog w = .ok (.tuple #[.agg C, k]) w := by
  rw [results_cell_tmp hf, hb, hq]
  simp [asAddr, Result.andThen, loadVarD h hs]
theorem own_form {w : World} {b : Nat} {e : TypeId} {s : Nat} {v : Value} {n : Nat} {xs : List Value} (h : w.ownsRow b e s v n xs) : ∃ a c, v = .slice a n c := by
  rcases h.2 with ⟨e1, e2⟩ | ⟨g, cap, cur, e, _⟩
  · exact ⟨_, _, by rw [e1, e2]⟩
  · exact ⟨_, _, e⟩
section
variable {ops : Array Oper} {rest : List Oper} {op : Oper} {a : Act} {w : World} {Q : Exit → Act → World → Prop}
theorem wpList_build3 (hg : op.guard = none) (p0 p1 p4 : Operand) (ho : op.op = .build 27 #[(0, p0), (1, p1), (4, p4)]) {A : Array Value} (hA : A.size = 256) {x : Int} {a3 : Option Addr} {n3 c3 : Nat} (h0 : a.eval p0 = .agg A) (h1 : a.eval p1 = .int .i64 x) (h4 : a.eval p4 = .slice a3 n3 c3)
    (hK : wpList Try.prog ops Q rest (a.put op.dst (.agg (mkC A (.int .i64 x) nilS nilS (.slice a3 n3 c3)))) w) : wpList Try.prog ops Q (op :: rest) a w :=
  wpList_plain hg fun _ hK' => by
    unfold Oper.wp
    rw [run_op_build3 p0 p1 p4 ho hA h0 h1 h4]
    exact hK' _ _ hK
end
theorem build5 {A : Array Value} (hA : A.size = 256) (x : Int) (a1 : Option Addr) (n1 c1 : Nat) (a3 : Option Addr) (n3 c3 : Nat) (w : World) :
    (Instr.build 27 #[(0, .agg A), (1, .int .i64 x), (2, .slice a1 n1 c1), (4, .slice a3 n3 c3)]).run Try.prog w = .ok (.agg (mkC A (.int .i64 x) (.slice a1 n1 c1) nilS (.slice a3 n3 c3))) w := by
  refine run_buildD _ _ ?_ w
  have hz := zA_is.size
  have hf := fill_of hz hA (.int .i64 0) nilS nilS nilS
  simp [Instr.fill, placesD, Value.cells, mkC_size hz, mkC_size hA, set_hi hA, hA]
  have hf' : Array.foldl (fun cs x => cs.setIfInBounds x.snd x.fst) (mkC zA (Value.int IntKind.i64 0) nilS nilS nilS) A.zipIdx 0 256 = mkC A (.int .i64 0) nilS nilS nilS := by
    simpa [hA] using hf
  rw [hf', mkC_size hA, (set_hi hA _ _ _ _ _).1, (set_hi hA _ _ _ _ _).2.1, (set_hi hA _ _ _ _ _).2.2.2]
  exact ⟨by omega, by omega, by omega, rfl⟩
theorem run_op_build5 {op : Oper} {a : Act} {w : World} (p0 p1 p2 p4 : Operand) (ho : op.op = .build 27 #[(0, p0), (1, p1), (2, p2), (4, p4)]) {A : Array Value} (hA : A.size = 256) {x : Int} {a1 a3 : Option Addr} {n1 c1 n3 c3 : Nat} (h0 : a.eval p0 = .agg A) (h1 : a.eval p1 = .int .i64 x) (h2 : a.eval p2 = .slice a1 n1 c1) (h4 : a.eval p4 = .slice a3 n3 c3) :
    (execOp a.eval op).run Try.prog w = .ok (.value (.agg (mkC A (.int .i64 x) (.slice a1 n1 c1) nilS (.slice a3 n3 c3)))) w := by
  unfold execOp
  simp only [ho, List.map_toArray, List.map_cons, List.map_nil, h0, h1, h2, h4, Sem.run_bind, build5 hA, Result.andThen_ok]
  rfl
section
variable {ops : Array Oper} {rest : List Oper} {op : Oper} {a : Act} {w : World} {Q : Exit → Act → World → Prop}
theorem wpList_build5 (hg : op.guard = none) (p0 p1 p2 p4 : Operand) (ho : op.op = .build 27 #[(0, p0), (1, p1), (2, p2), (4, p4)]) {A : Array Value} (hA : A.size = 256) {x : Int} {a1 a3 : Option Addr} {n1 c1 n3 c3 : Nat} (h0 : a.eval p0 = .agg A) (h1 : a.eval p1 = .int .i64 x) (h2 : a.eval p2 = .slice a1 n1 c1) (h4 : a.eval p4 = .slice a3 n3 c3)
    (hK : wpList Try.prog ops Q rest (a.put op.dst (.agg (mkC A (.int .i64 x) (.slice a1 n1 c1) nilS (.slice a3 n3 c3)))) w) : wpList Try.prog ops Q (op :: rest) a w :=
  wpList_plain hg fun _ hK' => by
    unfold Oper.wp
    rw [run_op_build5 p0 p1 p2 p4 ho hA h0 h1 h2 h4]
    exact hK' _ _ hK
end
end Go.Proofs.Ytfhddbjojpmbcaa.DfaW
