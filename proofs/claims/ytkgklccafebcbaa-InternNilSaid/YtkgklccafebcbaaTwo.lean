/- Two tables, of numbers and of pairs, side by side. -/
import Derived.Test.YtkgklccafebcbaaKnows
import Derived.Test.YtkgklccafebcbaaPutI
import Derived.Test.YtkgklccafebcbaaPutP
import Derived.Test.YtkgklccafebcbaaKeysI
namespace Go.Proofs.Ytkgklccafebcbaa.IntW
set_option linter.unusedVariables false
open Go.RowKit Go.Maps

theorem Own.other {k T : TypeId} {s : Nat} {w W W' : World} {p m : Nat} {v : Value} {l : List Value} {N : Nat} (h : Own k T s w W p m v l N) {S : Nat → Prop} (hb : But W.heap.size S W W') (hS : ∀ c, Bl p m v c → ¬ S c) (hn : ∀ c, S c → w.heap.size ≤ c) : Own k T s w W' p m v l N :=
  ⟨h.tbl.but hb fun c hc => ⟨h.tbl.lt hc, hS c hc⟩, h.b.trans ((hb.mono h.b.size (fun _ _ h => h)).below hn), h.new⟩
abbrev OwnI (w W : World) (p m : Nat) (v : Value) (l : List Value) (N : Nat) : Prop := Own 3 61 1 w W p m v l N
abbrev OwnP (w W : World) (p m : Nat) (v : Value) (l : List Value) (N : Nat) : Prop := Own 46 65 2 w W p m v l N
/-- Each pair's first number has been seen. -/
structure Cv (lt lu : List Value) : Prop where
  len : lt.length ≤ lu.length
  fst : ∀ y ∈ lu, ∃ a b, y = .agg #[.int .i64 a, .int .i64 b] ∧ .int .i64 a ∈ lt
theorem Cv.nil : Cv [] [] := ⟨Nat.le_refl _, fun y h => by simp at h⟩
structure Two (w W : World) (p m : Nat) (v : Value) (lt : List Value) (q n : Nat) (u : Value) (lu : List Value) (N M : Nat) : Prop where
  ot : OwnI w W p m v lt N
  ou : OwnP w W q n u lu M
  apart : ∀ c, Bl p m v c → ¬ Bl q n u c
theorem Two.next {w W W' : World} {p m : Nat} {v : Value} {lt : List Value} {q n : Nat} {u : Value} {lu : List Value} {N M : Nat} (h : Two w W p m v lt q n u lu N M) (hb : Below W.heap.size W W') : Two w W' p m v lt q n u lu N M :=
  ⟨h.ot.next hb, h.ou.next hb, h.apart⟩
theorem Two.putT {w W W' : World} {p m : Nat} {v v' : Value} {lt lt' : List Value} {q n : Nat} {u : Value} {lu : List Value} {N N' M : Nat} (h : Two w W p m v lt q n u lu N M) (hT : Tbl Try.prog 3 61 3 1 W' p m v' lt' N') (hb : But W.heap.size (Bl p m v) W W') (hv : ∀ c, v'.ownBlock = some c → v.ownBlock = some c ∨ W.heap.size ≤ c) : Two w W' p m v' lt' q n u lu N' M := by
  refine ⟨h.ot.write hT hb hv, h.ou.other hb (fun c hc hs => h.apart c hs hc) (fun c hc => h.ot.new c hc), fun c hc hs => ?_⟩
  rcases hc with rfl | rfl | hc
  · exact h.apart _ (.inl rfl) hs
  · exact h.apart _ (.inr (.inl rfl)) hs
  · rcases hv c hc with h1 | h1
    · exact h.apart c (.inr (.inr h1)) hs
    · have := h.ou.tbl.lt hs; omega
theorem Two.putU {w W W' : World} {p m : Nat} {v : Value} {lt : List Value} {q n : Nat} {u u' : Value} {lu lu' : List Value} {N M M' : Nat} (h : Two w W p m v lt q n u lu N M) (hT : Tbl Try.prog 46 65 3 2 W' q n u' lu' M') (hb : But W.heap.size (Bl q n u) W W') (hv : ∀ c, u'.ownBlock = some c → u.ownBlock = some c ∨ W.heap.size ≤ c) : Two w W' p m v lt q n u' lu' N M' := by
  refine ⟨h.ot.other hb (fun c hc hs => h.apart c hc hs) (fun c hc => h.ou.new c hc), h.ou.write hT hb hv, fun c hs hc => ?_⟩
  rcases hc with rfl | rfl | hc
  · exact h.apart _ hs (.inl rfl)
  · exact h.apart _ hs (.inr (.inl rfl))
  · rcases hv c hc with h1 | h1
    · exact h.apart c hs (.inr (.inr h1))
    · have := h.ot.tbl.lt hs; omega
/-- What a Put says of the lists. -/
def Stp (l : List Value) (x : Value) (l' : List Value) (i : Int) (b : Bool) : Prop := (x ∈ l ∧ l' = l ∧ b = false ∧ Ix l x i) ∨ (x ∉ l ∧ l' = l ++ [x] ∧ b = true ∧ i = (l.length : Nat))
theorem Stp.ix {l l' : List Value} {x : Value} {i : Int} {b : Bool} (h : Stp l x l' i b) : Ix l' x i := by
  rcases h with ⟨_, rfl, _, h⟩ | ⟨_, rfl, _, rfl⟩
  · exact h
  · exact .inl ⟨_, rfl, by simp⟩
theorem Stp.last {l l' : List Value} {x : Value} {i : Int} {b : Bool} (h : Stp l x l' i b) (hb : b = true) : i = (l'.length : Int) - 1 := by
  rcases h with ⟨_, _, rfl, _⟩ | ⟨_, rfl, _, rfl⟩
  · cases hb
  · simp
theorem Stp.mem {l l' : List Value} {x : Value} {i : Int} {b : Bool} (h : Stp l x l' i b) : ∃ j : Nat, i = j ∧ l'[j]? = some x ∧ j < l'.length := by
  rcases h with ⟨hx, rfl, _, ⟨j, rfl, hj⟩ | ⟨_, h⟩⟩ | ⟨_, rfl, _, rfl⟩
  · exact ⟨j, rfl, hj, (List.getElem?_eq_some_iff.1 hj).1⟩
  · exact absurd hx h
  · exact ⟨l.length, rfl, by simp, by simp⟩
theorem Cv.step {lt lu lt' lu' : List Value} (h : Cv lt lu) {a b : Int} {i j : Int} {is fresh : Bool} (h1 : Stp lt (.int .i64 a) lt' i is) (h2 : Stp lu (.agg #[.int .i64 a, .int .i64 b]) lu' j fresh) : Cv lt' lu' := by
  have hsub : ∀ x ∈ lt, x ∈ lt' := fun x hx => by rcases h1 with ⟨_, rfl, _⟩ | ⟨_, rfl, _⟩; exact hx; exact List.mem_append_left _ hx
  have ha : Value.int .i64 a ∈ lt' := by
    obtain ⟨j, _, hj, _⟩ := h1.mem
    exact List.mem_of_getElem? hj
  refine ⟨?_, fun y hy => ?_⟩
  · rcases h1 with ⟨_, rfl, _⟩ | ⟨hn, rfl, _⟩
    · rcases h2 with ⟨_, rfl, _⟩ | ⟨_, rfl, _⟩
      · exact h.len
      · have := h.len; simp; omega
    · rcases h2 with ⟨hm, _⟩ | ⟨_, rfl, _⟩
      · obtain ⟨a', b', e, hm'⟩ := h.fst _ hm
        simp at e
        obtain ⟨rfl, _⟩ := e
        exact absurd hm' hn
      · have := h.len; simp; omega
  · have hy' : y ∈ lu ∨ y = .agg #[.int .i64 a, .int .i64 b] := by
      rcases h2 with ⟨_, rfl, _⟩ | ⟨_, rfl, _⟩
      · exact .inl hy
      · simpa using hy
    rcases hy' with hy' | rfl
    · obtain ⟨a', b', e, hm'⟩ := h.fst y hy'
      exact ⟨a', b', e, hsub _ hm'⟩
    · exact ⟨a, b, rfl, ha⟩
end Go.Proofs.Ytkgklccafebcbaa.IntW
