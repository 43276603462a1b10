/- What the row's list of variables gives: the table of kids. Beside it: arguments, opened. -/
import Derived.Test.YtogdjgfgmdphgaaDoorRows
import Derived.Test.YtogdjgfgmdphgaaDoorOpen
import Derived.Test.YtogdjgfgmdphgaaDoorFits
import Derived.WalkKit
import Derived.ProofKit
import Derived.Laws.IdiomArrays
import Derived.Stop.LaidErr
import Derived.Lib.LaidTab
namespace Go.Proofs.YtogdjgfgmdphgaaDoor.SetW
set_option linter.unusedVariables false
open Go.RowKit Go.Proofs.YtogdjgfgmdphgaaDoor.SetM
open Go.ChangeShapes Go.WideShapes Go.ChangeAt
theorem nat_of_wf {x : Int} (h : (Lit.int .u64 x).wf = true) : ∃ n : Nat, x = n ∧ n < 18446744073709551616 := by
  have h1 : IntKind.u64.min = 0 := rfl
  have h2 : IntKind.u64.max = 18446744073709551615 := rfl
  simp only [Lit.wf, Bool.and_eq_true, decide_eq_true_eq] at h
  exact ⟨x.toNat, by omega, by omega⟩
theorem array_four {α : Type} {cs : Array α} (h : cs.size = 4) : ∃ a b c d, cs = #[a, b, c, d] := by
  obtain ⟨l⟩ := cs
  match l, h with
  | [a, b, c, d], _ => exact ⟨a, b, c, d, rfl⟩
/-- A set that is handed in: who is in it. -/
theorem set_open {H : Type} {enc : TypeId × Value → H} {W : World} {base : Nat} {v : Value} {d : DataW H} {p : List MemPlace} (hval : Value.okWide Tryd.prog W .any base 25 v)
    (h : DataW.Trod enc Tryd.prog W 0 (fun _ => true) true 25 v d p) : ∃ f : Nat → Bool, v = SV f := by
  obtain ⟨cs, rfl, hsz, _⟩ : ∃ cs, v = .agg cs ∧ cs.size = Tryd.prog.cellsOf 25 ∧ Row.okWide Tryd.prog W .any base 25 cs := by
    simpa [Value.okWide, Tryd.underlying25] using hval
  rw [show Tryd.prog.cellsOf 25 = 4 by kernel_rfl] at hsz
  obtain ⟨c0, c1, c2, c3, rfl⟩ := array_four hsz
  obtain ⟨fuel, hf⟩ := h
  obtain ⟨y0, y1, y2, y3, m, hx, hy0, hy1, hy2, hy3⟩ := trod_array4 Tryd.underlying25 (by kernel_rfl) hf
  obtain ⟨x0, e0, rfl, w0⟩ := DataW.trod_int Tryd.underlying23 hy0
  obtain ⟨x1, e1, rfl, w1⟩ := DataW.trod_int Tryd.underlying23 hy1
  obtain ⟨x2, e2, rfl, w2⟩ := DataW.trod_int Tryd.underlying23 hy2
  obtain ⟨x3, e3, rfl, w3⟩ := DataW.trod_int Tryd.underlying23 hy3
  simp at e0 e1 e2 e3
  subst e0 e1 e2 e3
  obtain ⟨n0, rfl, l0⟩ := nat_of_wf w0
  obtain ⟨n1, rfl, l1⟩ := nat_of_wf w1
  obtain ⟨n2, rfl, l2⟩ := nat_of_wf w2
  obtain ⟨n3, rfl, l3⟩ := nat_of_wf w3
  refine ⟨memOf n0 n1 n2 n3, ?_⟩
  show _ = Value.agg _
  rw [← memOf0 n0 n1 n2 n3 l0, ← memOf1 n0 n1 n2 n3 l1, ← memOf2 n0 n1 n2 n3 l2, ← memOf3 n0 n1 n2 n3 l3]
end Go.Proofs.YtogdjgfgmdphgaaDoor.SetW
namespace Go.Proofs.YtogdjgfgmdphgaaDoor.TreeW
set_option linter.unusedVariables false
open Go.RowKit Go.Proofs.YtogdjgfgmdphgaaDoor.TreeM
open Go.ChangeShapes Go.WideShapes Go.ChangeAt
theorem gKids : Tryd.prog.globalNamed "doublet/tree.kids" = some 0 := by kernel_rfl
theorem tab {W : World} (h : laidMetH Tryd.prog Rows.treeAsksRow.laid W) : Env W := by
  have h' : laidMet Tryd.prog [("doublet/tree.kids", Rows.laid_doublet_tree_kids)] W := h
  obtain ⟨ps, ⟨g', t', cs, fuel, p, q, hg', ht', hvar, hd, _, _⟩, _⟩ := h'
  obtain rfl := Option.some.inj (gKids.symm.trans hg')
  obtain rfl := Option.some.inj ((show (Tryd.prog.globals[0]?).map (·.type) = some 59 by kernel_rfl).symm.trans ht')
  cases fuel with
  | zero => simp [DataW.trod] at hd
  | succ fuel =>
    simp only [DataW.trod, Tryd.underlying59, show Tryd.prog.cellsOf 58 = 2 by kernel_rfl, show Tryd.prog.cellsOf 59 = 20 by kernel_rfl] at hd
    split at hd
    · obtain ⟨xs, hm, hx⟩ := Option.map_eq_some_iff.1 hd
      have hxs := congrArg Prod.fst hx
      simp only [Rows.laid_doublet_tree_kids, DataW.agg.injEq] at hxs
      intro k h1 h9
      obtain ⟨b, hb, hf⟩ := Lib.mapM_at hm k k (List.getElem?_range (by omega))
      have hbk : (xs.map (·.1))[k]? = some b.1 := by simp [hb]
      rw [hxs] at hbk
      have hcell := fun j => World.var?_cell gKids hvar j
      have key : ∀ lo hi : Int, b.1 = Lib.tabData .i64 [lo, hi] → cs[k * 2]? = some (.int .i64 lo) ∧ cs[k * 2 + 1]? = some (.int .i64 hi) := fun lo hi e => by
        have hc := Lib.cells_of_tab (p := b.2) Tryd.underlying58 Tryd.underlying3 (by kernel_rfl) (by kernel_rfl) (show _ = some (Lib.tabData .i64 [lo, hi], b.2) by rw [← e]; exact hf)
        have e0 := congrArg (·[0]?) hc
        have e1 := congrArg (·[1]?) hc
        simp [List.getElem?_drop] at e0 e1
        exact ⟨e0, e1⟩
      have hk : k = 1 ∨ k = 2 ∨ k = 3 ∨ k = 4 ∨ k = 5 ∨ k = 6 ∨ k = 7 ∨ k = 8 ∨ k = 9 := by omega
      rw [hcell, hcell]
      rcases hk with rfl | rfl | rfl | rfl | rfl | rfl | rfl | rfl | rfl
      all_goals
        simp at hbk
        exact key _ _ hbk.symm
    · cases hd
/-- A tree that is handed in. -/
theorem node_open {H : Type} {enc : TypeId × Value → H} {W : World} {base : Nat} {v : Value} {d : DataW H} {p : List MemPlace} (hval : Value.okWide Tryd.prog W .any base 28 v)
    (h : DataW.Trod enc Tryd.prog W 0 (fun _ => true) true 28 v d p) : ∃ (n : Nd) (l : List Tr) (a : Option Addr) (cap : Nat), v = NV n (.slice a l.length cap) ∧ Fits W l a cap d 28 := by
  obtain ⟨cs, rfl, hsz, _⟩ : ∃ cs, v = .agg cs ∧ cs.size = Tryd.prog.cellsOf 28 ∧ Row.okWide Tryd.prog W .any base 28 cs := by
    simpa [Value.okWide, Tryd.underlying28] using hval
  obtain ⟨fuel, hf⟩ := h
  obtain ⟨n, l, a, cap, he, hl⟩ := (both_said enc W fuel).1 _ _ hf
  refine ⟨n, l, a, cap, ?_, hl⟩
  have he' : cs.toList = _ := he
  show Value.agg cs = Value.agg _
  congr 1
  exact Array.toList_inj.1 he'
/-- Trees that are handed in. -/
theorem nodes_open {H : Type} {enc : TypeId × Value → H} {W : World} {v : Value} {d : DataW H} {p : List MemPlace} {ad : Option Addr} {len cap : Nat} (hv : v = .slice ad len cap)
    (h : DataW.Trod enc Tryd.prog W 0 (fun _ => true) true 26 v d p) : ∃ l : List Tr, len = l.length ∧ Fits W l ad cap d 26 := by
  obtain ⟨fuel, hf⟩ := h
  obtain ⟨l, a, c, he, hl⟩ := (both_said enc W fuel).2 _ _ hf
  subst hv
  simp only [Value.cells, List.cons.injEq, Value.slice.injEq, and_true] at he
  obtain ⟨rfl, rfl, rfl⟩ := he
  exact ⟨l, rfl, hl⟩
theorem upto_tree {H : Type} {ds : List (DataW H)} {d : DataW H} {s : Nat} (hk : Rows.uptoSmall H ds = true) (hb : s ≤ Rows.uptoBulk d) (hm : d ∈ ds) : s ≤ 1048576 := by
  have h1 : Rows.uptoBulkAll ds ≤ 1048576 := of_decide_eq_true hk
  have h2 := bulk_mem hm
  omega
theorem mx_tree {H : Type} {W : World} {l : List Tr} {a : Option Addr} {cap : Nat} {d : DataW H} {t : TypeId} {ts : List TypeId} {ds : List (DataW H)} {j : Nat} (hs : (DataW.weightsEach Tryd.prog ts ds).all (· ≤ reachBytes) = true) (ht : ts[j]? = some t) (hd : ds[j]? = some d) (hf : Fits W l a cap d t) :
    l.length ≤ 2199023255552 ∧ mxL l ≤ 2199023255552 := hf.2.2 _ fun m hm => by
  have h := List.all_eq_true.1 hs _ (DataW.weights_mem_each ht hd m hm)
  have h1 : m ≤ reachBytes := by simpa using h
  have h2 : reachBytes = 140737488351232 := rfl
  omega
end Go.Proofs.YtogdjgfgmdphgaaDoor.TreeW
