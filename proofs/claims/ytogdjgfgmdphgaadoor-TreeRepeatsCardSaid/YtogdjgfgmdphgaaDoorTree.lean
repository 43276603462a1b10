/- Trees as plain mathematics: their size, their nodes from the left, their leaves, whether they may be. -/
import Derived.Test.YtogdjgfgmdphgaaDoorSetMath
set_option linter.unusedVariables false
namespace Go.Proofs.YtogdjgfgmdphgaaDoor.TreeM

/-- What a node holds beside its kids. -/
structure Nd where
  K : Int
  a : Int
  b : Int
  c : Int
  d : Int
  L : Int
  H : Int
deriving DecidableEq
inductive Tr where
  | mk (n : Nd) (l : List Tr) : Tr
def Tr.nd : Tr → Nd
  | .mk n _ => n
def Tr.kids : Tr → List Tr
  | .mk _ l => l
theorem Tr.eta (t : Tr) : Tr.mk t.nd t.kids = t := by cases t; rfl
theorem Tr.ext {t u : Tr} (h1 : t.nd = u.nd) (h2 : t.kids = u.kids) : t = u := by cases t; cases u; simp only [Tr.nd, Tr.kids] at *; rw [h1, h2]

/-! ### Sizes -/
mutual
def size : Tr → Nat
  | .mk _ l => sizeL l + 1
def sizeL : List Tr → Nat
  | [] => 0
  | t :: r => size t + sizeL r
end
theorem size_mk (n : Nd) (l : List Tr) : size (.mk n l) = sizeL l + 1 := by rw [size]
theorem size_kids (t : Tr) : size t = sizeL t.kids + 1 := by cases t; rw [size]; rfl
theorem sizeL_nil : sizeL [] = 0 := by rw [sizeL]
theorem sizeL_cons (t : Tr) (r : List Tr) : sizeL (t :: r) = size t + sizeL r := by rw [sizeL]
theorem size_pos (t : Tr) : 0 < size t := by rw [size_kids]; omega
theorem size_mem {t : Tr} : ∀ {l : List Tr}, t ∈ l → size t ≤ sizeL l
  | x :: l, h => by
    rw [sizeL_cons]
    rcases List.mem_cons.1 h with rfl | h
    · omega
    · have := size_mem h; omega
theorem size_at (l : List Tr) (i : Nat) (h : i < l.length) : size l[i] ≤ sizeL l := size_mem (List.getElem_mem h)
theorem sizeL_app : ∀ (l m : List Tr), sizeL (l ++ m) = sizeL l + sizeL m
  | [], m => by rw [sizeL_nil]; simp
  | t :: l, m => by rw [List.cons_append, sizeL_cons, sizeL_cons, sizeL_app l m]; omega
theorem sizeL_take (l : List Tr) (k : Nat) (h : k < l.length) : sizeL (l.take (k + 1)) = sizeL (l.take k) + size l[k] := by
  rw [List.take_succ_eq_append_getElem h, sizeL_app, sizeL_cons, sizeL_nil, Nat.add_zero]
theorem sizeL_le (l : List Tr) (k : Nat) : sizeL (l.take k) ≤ sizeL l := by
  have h := sizeL_app (l.take k) (l.drop k)
  rw [List.take_append_drop] at h
  omega
theorem length_le : ∀ (l : List Tr), l.length ≤ sizeL l
  | [] => by simp
  | t :: l => by rw [sizeL_cons, List.length_cons]; have := length_le l; have := size_pos t; omega

/-! ### How many kids a node has at most -/
mutual
def mx : Tr → Nat
  | .mk _ l => max l.length (mxL l)
def mxL : List Tr → Nat
  | [] => 0
  | t :: r => max (mx t) (mxL r)
end
theorem mx_kids (t : Tr) : mx t = max t.kids.length (mxL t.kids) := by cases t; rw [mx]; rfl
theorem mxL_nil : mxL [] = 0 := by rw [mxL]
theorem mxL_cons (t : Tr) (r : List Tr) : mxL (t :: r) = max (mx t) (mxL r) := by rw [mxL]
theorem mx_mem {t : Tr} : ∀ {l : List Tr}, t ∈ l → mx t ≤ mxL l
  | x :: l, h => by
    rw [mxL_cons]
    rcases List.mem_cons.1 h with rfl | h
    · omega
    · have := mx_mem h; omega
theorem mx_at (l : List Tr) (i : Nat) (h : i < l.length) : mx l[i] ≤ mxL l := mx_mem (List.getElem_mem h)
theorem mxL_of {m : Nat} : ∀ (l : List Tr), (∀ i (h : i < l.length), mx l[i] ≤ m) → mxL l ≤ m
  | [], _ => by rw [mxL_nil]; omega
  | t :: l, h => by
    have h0 := h 0 (by simp)
    have := mxL_of l (fun i hi => by have := h (i + 1) (by simpa using hi); simpa using this)
    simp at h0
    rw [mxL_cons]; omega
mutual
theorem mx_size : ∀ t : Tr, mx t ≤ size t
  | .mk n l => by
    have h1 := mxL_size l
    have h2 := length_le l
    rw [mx, size_mk]; omega
theorem mxL_size : ∀ l : List Tr, mxL l ≤ sizeL l
  | [] => by rw [mxL_nil]; omega
  | t :: r => by
    have := mx_size t
    have := mxL_size r
    rw [mxL_cons, sizeL_cons]; omega
end

/-! ### Nodes from the left; not below a node of a kind that cut tells -/
mutual
def pre (cut : Int → Bool) : Tr → List (Nd × Nat)
  | .mk n l => (n, l.length) :: (if cut n.K then [] else preL cut l)
def preL (cut : Int → Bool) : List Tr → List (Nd × Nat)
  | [] => []
  | t :: r => pre cut t ++ preL cut r
end
def nocut : Int → Bool := fun _ => false
def cutSet : Int → Bool := fun k => k == 3
theorem pre_mk (cut : Int → Bool) (n : Nd) (l : List Tr) : pre cut (.mk n l) = (n, l.length) :: (if cut n.K then [] else preL cut l) := by rw [pre]
theorem pre_kids (cut : Int → Bool) (t : Tr) : pre cut t = (t.nd, t.kids.length) :: (if cut t.nd.K then [] else preL cut t.kids) := by cases t; rw [pre]; rfl
theorem preL_nil (cut : Int → Bool) : preL cut [] = [] := by rw [preL]
theorem preL_cons (cut : Int → Bool) (t : Tr) (r : List Tr) : preL cut (t :: r) = pre cut t ++ preL cut r := by rw [preL]
theorem preL_app (cut : Int → Bool) : ∀ (l m : List Tr), preL cut (l ++ m) = preL cut l ++ preL cut m
  | [], m => by rw [preL_nil]; rfl
  | t :: l, m => by rw [List.cons_append, preL_cons, preL_cons, preL_app cut l m, List.append_assoc]
theorem preL_take (cut : Int → Bool) (l : List Tr) (k : Nat) (h : k < l.length) : preL cut (l.take (k + 1)) = preL cut (l.take k) ++ pre cut l[k] := by
  rw [List.take_succ_eq_append_getElem h, preL_app, preL_cons, preL_nil, List.append_nil]
theorem preL_split (cut : Int → Bool) (l : List Tr) (k : Nat) (h : k < l.length) : preL cut l = preL cut (l.take k) ++ (pre cut l[k] ++ preL cut (l.drop (k + 1))) := by
  rw [← preL_cons, ← preL_app, List.getElem_cons_drop, List.take_append_drop]
mutual
theorem pre_len (cut : Int → Bool) : ∀ t : Tr, (pre cut t).length ≤ size t
  | .mk n l => by
    have := preL_len cut l
    rw [pre_mk, size_mk, List.length_cons]
    split <;> simp <;> omega
theorem preL_len (cut : Int → Bool) : ∀ l : List Tr, (preL cut l).length ≤ sizeL l
  | [] => by rw [preL_nil]; simp
  | t :: r => by
    have := pre_len cut t
    have := preL_len cut r
    rw [preL_cons, sizeL_cons, List.length_append]; omega
end
mutual
theorem pre_size : ∀ t : Tr, (pre nocut t).length = size t
  | .mk n l => by
    have := preL_size l
    rw [pre_mk, size_mk, List.length_cons, if_neg (by simp [nocut]), this]
theorem preL_size : ∀ l : List Tr, (preL nocut l).length = sizeL l
  | [] => by rw [preL_nil, sizeL_nil]; rfl
  | t :: r => by
    have := pre_size t
    have := preL_size r
    rw [preL_cons, sizeL_cons, List.length_append]; omega
end

/-! ### Leaves -/
structure Q where
  a : Int
  b : Int
  c : Int
  d : Int
deriving DecidableEq
def Nd.q (n : Nd) : Q := ⟨n.a, n.b, n.c, n.d⟩
/-- What a node of these brings. -/
def leafOf (x : Nd × Nat) : List Q := if x.1.K = 3 then [x.1.q] else []
mutual
def leaves : Tr → List Q
  | .mk n l => if n.K = 3 then [n.q] else leavesL l
def leavesL : List Tr → List Q
  | [] => []
  | t :: r => leaves t ++ leavesL r
end
theorem leaves_mk (n : Nd) (l : List Tr) : leaves (.mk n l) = if n.K = 3 then [n.q] else leavesL l := by rw [leaves]
theorem leaves_kids (t : Tr) : leaves t = if t.nd.K = 3 then [t.nd.q] else leavesL t.kids := by cases t; rw [leaves]; rfl
theorem leavesL_nil : leavesL [] = [] := by rw [leavesL]
theorem leavesL_cons (t : Tr) (r : List Tr) : leavesL (t :: r) = leaves t ++ leavesL r := by rw [leavesL]
theorem leavesL_app : ∀ (l m : List Tr), leavesL (l ++ m) = leavesL l ++ leavesL m
  | [], m => by rw [leavesL_nil]; rfl
  | t :: l, m => by rw [List.cons_append, leavesL_cons, leavesL_cons, leavesL_app l m, List.append_assoc]
theorem leavesL_take (l : List Tr) (k : Nat) (h : k < l.length) : leavesL (l.take (k + 1)) = leavesL (l.take k) ++ leaves l[k] := by
  rw [List.take_succ_eq_append_getElem h, leavesL_app, leavesL_cons, leavesL_nil, List.append_nil]
mutual
theorem leaves_pre : ∀ t : Tr, (pre cutSet t).flatMap leafOf = leaves t
  | .mk n l => by
    have := leavesL_pre l
    rw [pre_mk, leaves_mk, List.flatMap_cons]
    unfold leafOf cutSet
    by_cases h : n.K = 3
    · simp [h]
    · simp only [h, if_false, List.nil_append, beq_iff_eq]; exact this
theorem leavesL_pre : ∀ l : List Tr, (preL cutSet l).flatMap leafOf = leavesL l
  | [] => by rw [preL_nil, leavesL_nil]; rfl
  | t :: r => by rw [preL_cons, leavesL_cons, List.flatMap_append, leaves_pre t, leavesL_pre r]
end
mutual
theorem leaves_len : ∀ t : Tr, (leaves t).length ≤ size t
  | .mk n l => by
    have := leavesL_len l
    rw [leaves_mk, size_mk]
    split <;> simp <;> omega
theorem leavesL_len : ∀ l : List Tr, (leavesL l).length ≤ sizeL l
  | [] => by rw [leavesL_nil]; simp
  | t :: r => by
    have := leaves_len t
    have := leavesL_len r
    rw [leavesL_cons, sizeL_cons, List.length_append]; omega
end

/-! ### May a tree be -/
/-- May a node be, as the document says it. -/
def okR (n : Nd) (k : Nat) : Bool :=
  if n.K < 1 ∨ n.K > 9 ∨ (n.K ≠ 3 ∧ ¬ (n.a = 0 ∧ n.b = 0 ∧ n.c = 0 ∧ n.d = 0)) then false
  else if n.K = 9 then decide (k = 1 ∧ 0 ≤ n.L ∧ n.L ≤ 1000 ∧ (n.H = -1 ∨ (n.L ≤ n.H ∧ n.H ≤ 1000)))
  else if n.L ≠ 0 ∨ n.H ≠ 0 then false
  else if n.K ≤ 3 then decide (k = 0) else if n.K ≤ 5 then decide (2 ≤ k) else decide (k = 1)
/-- The same, no more kids than there may be nodes. -/
def okF (n : Nd) (k : Nat) : Bool := okR n k && decide (k ≤ 4096)
mutual
def allR : Tr → Bool
  | .mk n l => allRL l && okR n l.length
def allRL : List Tr → Bool
  | [] => true
  | t :: r => allR t && allRL r
end
theorem allR_kids (t : Tr) : allR t = (allRL t.kids && okR t.nd t.kids.length) := by cases t; rw [allR]; rfl
theorem allRL_nil : allRL [] = true := by rw [allRL]
theorem allRL_cons (t : Tr) (r : List Tr) : allRL (t :: r) = (allR t && allRL r) := by rw [allRL]
theorem allRL_at : ∀ (l : List Tr) (i : Nat) (h : i < l.length), allR l[i] = false → allRL l = false
  | t :: l, 0, h, h1 => by rw [allRL_cons]; simp at h1; rw [h1]; rfl
  | t :: l, i + 1, h, h1 => by
    have := allRL_at l i (by simpa using h) (by simpa using h1)
    rw [allRL_cons, this, Bool.and_false]
theorem allRL_of : ∀ (l : List Tr), (∀ i (h : i < l.length), allR l[i] = true) → allRL l = true
  | [], _ => allRL_nil
  | t :: l, h => by
    have h0 := h 0 (by simp)
    have := allRL_of l (fun i hi => by have := h (i + 1) (by simpa using hi); simpa using this)
    rw [allRL_cons, this, Bool.and_true]; simpa using h0
/-- P602: may a tree be. -/
def right (t : Tr) : Bool := decide (size t ≤ 4096) && allR t
def okP (x : Nd × Nat) : Bool := okF x.1 x.2
mutual
theorem allR_pre : ∀ t : Tr, size t ≤ 4096 → ((pre nocut t).all okP) = allR t
  | .mk n l, h => by
    rw [size_mk] at h
    have h1 := allRL_pre l (by omega)
    have h2 := length_le l
    rw [pre_mk, allR, if_neg (by simp [nocut]), List.all_cons, h1]
    unfold okP okF
    rw [show decide (l.length ≤ 4096) = true by simp; omega, Bool.and_true, Bool.and_comm]
theorem allRL_pre : ∀ l : List Tr, sizeL l ≤ 4096 → ((preL nocut l).all okP) = allRL l
  | [], _ => by rw [preL_nil, allRL_nil]; rfl
  | t :: r, h => by
    rw [sizeL_cons] at h
    rw [preL_cons, allRL_cons, List.all_append, allR_pre t (by omega), allRL_pre r (by omega)]
end
/-- All nodes came, no more than there may be, and each may be. -/
theorem right_of {t : Tr} (h1 : (pre nocut t).length ≤ 4096) (h2 : (pre nocut t).all okP = true) : right t = true := by
  rw [pre_size] at h1
  unfold right
  rw [← allR_pre t h1, h2]; simp [h1]
/-- A beginning of the nodes is too long, or one of it may not be. -/
theorem wrong_of {t : Tr} {l r : List (Nd × Nat)} (h : pre nocut t = l ++ r) (h1 : 4096 < l.length ∨ l.all okP = false) : right t = false := by
  unfold right
  by_cases hs : size t ≤ 4096
  · rw [← allR_pre t hs, h, List.all_append]
    rcases h1 with h1 | h1
    · rw [← pre_size, h, List.length_append] at hs; omega
    · rw [h1]; simp
  · simp [hs]
theorem right_size {t : Tr} (h : right t = true) : size t ≤ 4096 := by unfold right at h; simp at h; exact h.1

/-! ### One node more -/
def zero : Nd := ⟨0, 0, 0, 0, 0, 0, 0⟩
def ofKind (k : Int) : Nd := ⟨k, 0, 0, 0, 0, 0, 0⟩
/-- A tree of one kid. -/
def above1 (k : Int) (t : Tr) : Tr := .mk (ofKind k) [t]
def rep1 (lo hi : Int) (t : Tr) : Tr := .mk ⟨9, 0, 0, 0, 0, lo, hi⟩ [t]
/-- One behind the other, or one of some: of none what z tells, of one it. -/
def listT (K z : Int) : List Tr → Tr
  | [] => .mk (ofKind z) []
  | [t] => t
  | l => .mk (ofKind K) l
theorem listT_more (K z : Int) (l : List Tr) (h : 2 ≤ l.length) : listT K z l = .mk (ofKind K) l := by
  match l, h with
  | _ :: _ :: _, _ => rfl
theorem size_one (n : Nd) (t : Tr) : size (.mk n [t]) = size t + 1 := by rw [size_mk, sizeL_cons, sizeL_nil, Nat.add_zero]
theorem right_one (n : Nd) (t : Tr) : right (.mk n [t]) = (right t && (decide (size t < 4096) && okR n 1)) := by
  unfold right
  rw [size_one, allR_kids]
  show (_ && (allRL [t] && okR n 1)) = _
  rw [allRL_cons, allRL_nil, Bool.and_true]
  by_cases h : size t < 4096
  · have : size t + 1 ≤ 4096 := h
    have h2 : size t ≤ 4096 := by omega
    simp [this, h2, h]
  · have : ¬ size t + 1 ≤ 4096 := h
    simp [this, h]

/-! ### The same -/
open Classical in
noncomputable def eqT (t u : Tr) : Bool := decide (t = u)
theorem eqT_self (t : Tr) : eqT t t = true := by simp [eqT]
theorem eqT_yes {t u : Tr} (h : t = u) : eqT t u = true := by simp [eqT, h]
theorem eqT_no {t u : Tr} (h : t ≠ u) : eqT t u = false := by simp [eqT, h]
theorem eqT_comm (t u : Tr) : eqT t u = eqT u t := by
  by_cases h : t = u
  · rw [h]
  · rw [eqT_no h, eqT_no (Ne.symm h)]
end Go.Proofs.YtogdjgfgmdphgaaDoor.TreeM
