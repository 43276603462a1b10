/- Trees in memory. -/
import Derived.Test.YtogdjgfgmdphgaaDoorSetOf
import Derived.Test.YtogdjgfgmdphgaaDoorTree
namespace Go.Proofs.YtogdjgfgmdphgaaDoor.TreeW
set_option linter.unusedVariables false
open Go.RowKit Go.Proofs.YtogdjgfgmdphgaaDoor.TreeM

/-- A node as a value; v: its kids. -/
abbrev NV (n : Nd) (v : Value) : Value := .agg #[.int .i64 n.K, .int .u64 n.a, .int .u64 n.b, .int .u64 n.c, .int .u64 n.d, v, .int .i64 n.L, .int .i64 n.H]
/-- A node's eight cells in block b, from o on. -/
structure NodeAt (w : World) (b o : Nat) (n : Nd) (v : Value) : Prop where
  c0 : w.cell? ⟨b, o, none⟩ = some (.int .i64 n.K)
  c1 : w.cell? ⟨b, o + 1, none⟩ = some (.int .u64 n.a)
  c2 : w.cell? ⟨b, o + 2, none⟩ = some (.int .u64 n.b)
  c3 : w.cell? ⟨b, o + 3, none⟩ = some (.int .u64 n.c)
  c4 : w.cell? ⟨b, o + 4, none⟩ = some (.int .u64 n.d)
  c5 : w.cell? ⟨b, o + 5, none⟩ = some v
  c6 : w.cell? ⟨b, o + 6, none⟩ = some (.int .i64 n.L)
  c7 : w.cell? ⟨b, o + 7, none⟩ = some (.int .i64 n.H)
theorem NodeAt.lt {w : World} {b o : Nat} {n : Nd} {v : Value} (h : NodeAt w b o n v) : b < w.heap.size := World.block_lt_of_cell? _ _ h.c0
theorem NodeAt.keep {w w' : World} {b o : Nat} {n : Nd} {v : Value} (h : NodeAt w b o n v) (k : ∀ p, w'.cell? ⟨b, p, none⟩ = w.cell? ⟨b, p, none⟩) : NodeAt w' b o n v :=
  ⟨(k _).trans h.c0, (k _).trans h.c1, (k _).trans h.c2, (k _).trans h.c3, (k _).trans h.c4, (k _).trans h.c5, (k _).trans h.c6, (k _).trans h.c7⟩
theorem NodeAt.below {w w' : World} {b o : Nat} {n : Nd} {v : Value} {m : Nat} (h : NodeAt w b o n v) (hm : b < m) (hb : Below m w w') : NodeAt w' b o n v :=
  h.keep fun p => hb.cell (p := ⟨b, p, none⟩) hm
theorem NodeAt.new (w : World) (n : Nd) (v : Value) (t : TypeId) : NodeAt (w.alloc (.cells #[.int .i64 n.K, .int .u64 n.a, .int .u64 n.b, .int .u64 n.c, .int .u64 n.d, v, .int .i64 n.L, .int .i64 n.H] t)) w.heap.size 0 n v := by
  constructor <;> (rw [World.cell?_alloc_new]; rfl)

/-- The value v is a slice of these trees; of its blocks S is said. -/
inductive LiesS (S : Nat → Prop) (w : World) : Value → List Tr → Prop
  | nil (a : Option Addr) (cap : Nat) (h : a = none → cap = 0) : LiesS S w (.slice a 0 cap) []
  | cons (b o cap : Nat) (l : List Tr) (vs : Nat → Value) : 0 < l.length → l.length ≤ cap → cap ≤ maxLen → S b →
      (∀ i (h : i < l.length), NodeAt w b (o + i * 8) l[i].nd (vs i)) → (∀ i (h : i < l.length), LiesS S w (vs i) l[i].kids) → LiesS S w (.slice (some ⟨b, o, none⟩) l.length cap) l
theorem LiesS.form {S : Nat → Prop} {w : World} {v : Value} {l : List Tr} (h : LiesS S w v l) : ∃ a cap, v = .slice a l.length cap := by
  cases h with
  | nil a cap h0 => exact ⟨a, cap, rfl⟩
  | cons b o cap l vs => exact ⟨_, cap, rfl⟩
theorem LiesS.len {S : Nat → Prop} {w : World} {v : Value} {l : List Tr} (h : LiesS S w v l) : l.length ≤ maxLen := by
  cases h with
  | nil a cap h0 => simp
  | cons b o cap l vs h1 h2 h3 => omega
/-- It lies as it lay, if its blocks do. -/
theorem LiesS.keep {S S' : Nat → Prop} {w w' : World} {v : Value} {l : List Tr} (h : LiesS S w v l) (hS : ∀ b, S b → S' b) (k : ∀ b p, S b → w'.cell? ⟨b, p, none⟩ = w.cell? ⟨b, p, none⟩) : LiesS S' w' v l := by
  induction h with
  | nil a cap h0 => exact .nil a cap h0
  | cons b o cap l vs a1 a2 a3 a4 a6 a7 ih => exact .cons b o cap l vs a1 a2 a3 (hS b a4) (fun i hi => (a6 i hi).keep fun p => k b p a4) ih
theorem LiesS.mono {S S' : Nat → Prop} {w : World} {v : Value} {l : List Tr} (h : LiesS S w v l) (hS : ∀ b, S b → S' b) : LiesS S' w v l := h.keep hS fun _ _ _ => rfl
/-- What lies at kid i, where there is one. -/
theorem LiesS.at {S : Nat → Prop} {w : World} {a : Option Addr} {len cap : Nat} {l : List Tr} (h : LiesS S w (.slice a len cap) l) (i : Nat) (hi' : i < l.length) :
    ∃ b o a' cap', a = some ⟨b, o, none⟩ ∧ len = l.length ∧ len ≤ cap ∧ cap ≤ maxLen ∧ S b ∧ NodeAt w b (o + i * 8) l[i].nd (.slice a' l[i].kids.length cap') ∧ LiesS S w (.slice a' l[i].kids.length cap') l[i].kids := by
  cases h with
  | nil a cap h0 => simp at hi'
  | cons b o cap l vs a1 a2 a3 a4 a6 a7 =>
    obtain ⟨a', cap', e⟩ := (a7 i hi').form
    have h1 := a6 i hi'
    have h2 := a7 i hi'
    rw [e] at h1 h2
    exact ⟨b, o, a', cap', rfl, rfl, a2, a3, a4, h1, h2⟩
/-- The value v is a slice of these trees; its blocks are from lo on, ahead of hi. -/
abbrev Lies (lo hi : Nat) (w : World) (v : Value) (l : List Tr) : Prop := LiesS (fun b => lo ≤ b ∧ b < hi) w v l
theorem Lies.nil {lo hi : Nat} {w : World} (a : Option Addr) (cap : Nat) (h : a = none → cap = 0) : Lies lo hi w (.slice a 0 cap) [] := LiesS.nil a cap h
theorem Lies.cons {lo hi : Nat} {w : World} (b o cap : Nat) (l : List Tr) (vs : Nat → Value) (a1 : 0 < l.length) (a2 : l.length ≤ cap) (a3 : cap ≤ maxLen) (a4 : lo ≤ b) (a5 : b < hi)
    (a6 : ∀ i (h : i < l.length), NodeAt w b (o + i * 8) l[i].nd (vs i)) (a7 : ∀ i (h : i < l.length), Lies lo hi w (vs i) l[i].kids) : Lies lo hi w (.slice (some ⟨b, o, none⟩) l.length cap) l :=
  LiesS.cons b o cap l vs a1 a2 a3 ⟨a4, a5⟩ a6 a7
theorem Lies.form {lo hi : Nat} {w : World} {v : Value} {l : List Tr} (h : Lies lo hi w v l) : ∃ a cap, v = .slice a l.length cap := LiesS.form h
theorem Lies.len {lo hi : Nat} {w : World} {v : Value} {l : List Tr} (h : Lies lo hi w v l) : l.length ≤ maxLen := LiesS.len h
theorem Lies.mono {lo hi lo' hi' : Nat} {w : World} {v : Value} {l : List Tr} (h : Lies lo hi w v l) (h1 : lo' ≤ lo) (h2 : hi ≤ hi') : Lies lo' hi' w v l :=
  LiesS.mono h fun b hb => ⟨by omega, by omega⟩
theorem Lies.keep {lo hi : Nat} {w w' : World} {v : Value} {l : List Tr} (h : Lies lo hi w v l) (k : ∀ b p, lo ≤ b → b < hi → w'.cell? ⟨b, p, none⟩ = w.cell? ⟨b, p, none⟩) : Lies lo hi w' v l :=
  LiesS.keep h (fun _ h => h) fun b p hb => k b p hb.1 hb.2
theorem Lies.under {lo hi : Nat} {w w' : World} {v : Value} {l : List Tr} (h : Lies lo hi w v l) (hb : Below hi w w') : Lies lo hi w' v l :=
  h.keep fun b p _ h2 => hb.cell (p := ⟨b, p, none⟩) h2
theorem Lies.grow {lo : Nat} {w w' : World} {v : Value} {l : List Tr} (h : Lies lo w.heap.size w v l) (hb : Below w.heap.size w w') : Lies lo w'.heap.size w' v l :=
  (h.under hb).mono (Nat.le_refl _) hb.size
theorem Lies.at {lo hi : Nat} {w : World} {a : Option Addr} {len cap : Nat} {l : List Tr} (h : Lies lo hi w (.slice a len cap) l) (i : Nat) (hi' : i < l.length) :
    ∃ b o a' cap', a = some ⟨b, o, none⟩ ∧ len = l.length ∧ len ≤ cap ∧ cap ≤ maxLen ∧ lo ≤ b ∧ b < hi ∧ NodeAt w b (o + i * 8) l[i].nd (.slice a' l[i].kids.length cap') ∧ Lies lo hi w (.slice a' l[i].kids.length cap') l[i].kids := by
  obtain ⟨b, o, a', cap', h1, h2, h3, h4, h5, h6, h7⟩ := LiesS.at h i hi'
  exact ⟨b, o, a', cap', h1, h2, h3, h4, h5.1, h5.2, h6, h7⟩
theorem Lies.eqlen {lo hi : Nat} {w : World} {a : Option Addr} {len cap : Nat} {l : List Tr} (h : Lies lo hi w (.slice a len cap) l) : len = l.length := by
  obtain ⟨a', cap', e⟩ := h.form
  simp only [Value.slice.injEq] at e
  exact e.2.1
theorem eqZ {a b c d : Int} : (a = 0 ∧ b = 0 ∧ c = 0 ∧ d = 0) → (a == 0 && (b == 0 && (c == 0 && d == 0))) = true := fun ⟨h1, h2, h3, h4⟩ => by simp [h1, h2, h3, h4]
theorem neZ {a b c d : Int} : ¬ (a = 0 ∧ b = 0 ∧ c = 0 ∧ d = 0) → (a == 0 && (b == 0 && (c == 0 && d == 0))) = false := fun h => by
  rw [Bool.eq_false_iff]; intro h'; simp at h'; exact h ⟨h'.1, h'.2.1, h'.2.2.1, h'.2.2.2⟩
theorem len_small {l : List Tr} (h : l.length ≤ maxLen) : l.length ≤ 9223372036854775807 := by unfold maxLen at h; omega
end Go.Proofs.YtogdjgfgmdphgaaDoor.TreeW
