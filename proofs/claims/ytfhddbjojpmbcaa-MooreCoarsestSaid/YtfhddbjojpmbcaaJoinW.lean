/- Walk of join: blocks are parted by what is said of each state, where they lie. -/
import Derived.Test.YtfhddbjojpmbcaaSays
import Derived.Test.YtfhddbjojpmbcaaRepeat
import Derived.BigQuiet
namespace Go.Proofs.Ytfhddbjojpmbcaa.DfaW
set_option linter.unusedVariables false
set_option linter.unusedSimpArgs false
open Go.RowKit Go.Maps Go.Proofs.Ytfhddbjojpmbcaa.PartM Go.Proofs.Ytfhddbjojpmbcaa.PartW
theorem OI.set {w : World} {B g n c j : Nat} {r : List Int} (h : OI w B (.slice (some ⟨g, 0, none⟩) n c) r) (hn : n = r.length) (y : Int) : OI (w.setCell ⟨g, j, none⟩ (.int .i64 y)) B (.slice (some ⟨g, 0, none⟩) n c) (r.set j y) := by
  subst hn
  have := (World.ownsRow.stored (show w.ownsRow B 3 1 (.slice (some ⟨g, 0, none⟩) r.length c) r.length _ from h) j (.int .i64 y)).1
  show World.ownsRow _ _ _ _ _ (r.set j y).length _
  rw [List.length_set, List.map_set]
  exact this
theorem OI.cellAt {w : World} {B g n c : Nat} {r : List Int} (h : OI w B (.slice (some ⟨g, 0, none⟩) n c) r) {j : Nat} (hj : j < r.length) : w.cell? ⟨g, j, none⟩ = some (.int .i64 (r.getD j 0)) ∧ w.frozen? ⟨g, j, none⟩ = false ∧ g < w.heap.size ∧ B ≤ g := by
  obtain ⟨⟨cur, h1⟩, h2, h3⟩ := own_at h (g := g) rfl
  refine ⟨?_, ?_, h3, h2⟩
  · obtain ⟨a, cap, he, _, _, hc⟩ := h.is.open
    simp only [Value.slice.injEq] at he
    obtain ⟨rfl, _, rfl⟩ := he
    obtain ⟨b, o, e, _, h5⟩ := hc j hj
    simp only [Option.some.injEq, Addr.mk.injEq, and_true] at e
    obtain ⟨rfl, rfl⟩ := e
    rw [Nat.zero_add] at h5
    exact h5
  · exact Ar.frozen (C := cur) (t := 3) h1 j
theorem OI.keep {w w' : World} {B : Nat} {v : Value} {l : List Int} (h : OI w B v l) (hk : ∀ g, v.ownBlock = some g → w'.heap[g]? = w.heap[g]?) : OI w' B v l := own_keep h hk
theorem ar_keep {w w' : World} {A : Nat} {C : Array Value} {t : TypeId} (h : Ar w A C t) (hk : w'.heap[A]? = w.heap[A]?) : Ar w' A C t := hk.trans h
/-- What join's loop knows. -/
structure JnK (w : World) (B B0 A M g n c : Nat) (KL : Nat → Lit) (E : Nat → Nat → Bool) (f : Nat → Int) (s k : Nat) (r q : Nat) (t : Value) (W : World) : Prop where
  a : Ar W A (latL E (joinE E f) s n).toArray 3
  o : OI W B0 t (toldI (joinE E f) f r)
  m : ∃ D, W.ownsMap Try.prog 64 (plainElem Try.prog 3) M k D ∧ Met D n KL E (joinE E f) q
  b : OI W B (.slice (some ⟨g, 0, none⟩) n c) (mixI E (joinE E f) s n)
  gr : w.grownBy W (some g)
  sz : B0 ≤ W.heap.size
/-- Where its blocks lie. -/
structure JnP (w : World) (B0 A M g : Nat) : Prop where
  a : w.heap.size ≤ A ∧ A < B0
  m : w.heap.size ≤ M ∧ M < B0
  ne : A ≠ M
  g : g < w.heap.size
section
variable {w W W' : World} {B B0 A M g n c s k r q : Nat} {KL : Nat → Lit} {E : Nat → Nat → Bool} {f : Nat → Int} {t : Value}
theorem JnK.drewN (h : JnK w B B0 A M g n c KL E f s k r q t W) (i : Nat) : JnK w B B0 A M g n c KL E f s k r q t (W.drewN i) :=
  ⟨h.a, h.o, h.m, h.b, ⟨h.gr.os, h.gr.tape, h.gr.output, h.gr.size, h.gr.block⟩, h.sz⟩
/-- What writes at or beyond B0 alone. -/
theorem JnK.past (P : JnP w B0 A M g) (h : JnK w B B0 A M g n c KL E f s k r q t W) (hb : Below B0 W W') {t' : Value} {r' : Nat} (ho : OI W' B0 t' (toldI (joinE E f) f r')) : JnK w B B0 A M g n c KL E f s k r' q t' W' := by
  obtain ⟨D, h1, h2⟩ := h.m
  have := P.a; have := P.m; have := P.g; have := h.gr.size
  refine ⟨ar_keep h.a (hb.block A (by omega)), ho, ⟨D, owns_map_heap h1 (hb.block M (by omega)), h2⟩, h.b.keep (fun i hi => by cases hi; exact hb.block g (by omega)), ?_, Nat.le_trans h.sz hb.size⟩
  exact ⟨hb.os.trans h.gr.os, hb.tape.trans h.gr.tape, hb.output.trans h.gr.output, by have := hb.size; omega, fun i hi hn => (hb.block i (by omega)).trans (h.gr.block i hi hn)⟩
/-- What turns the map alone. -/
theorem JnK.turn (P : JnP w B0 A M g) (h : JnK w B B0 A M g n c KL E f s k r q t W) (hg : W.grownBy W' (some M)) {D : DataW Unit} {k' q' : Nat} (hm : W'.ownsMap Try.prog 64 (plainElem Try.prog 3) M k' D) (hM : Met D n KL E (joinE E f) q') :
    JnK w B B0 A M g n c KL E f s k' r q' t W' := by
  have := P.a; have := P.m; have := P.g; have := P.ne; have := h.gr.size; have := h.sz
  have hne : ∀ i, i ≠ M → some i ≠ some M := fun i h e => h (by cases e; rfl)
  refine ⟨ar_keep h.a (hg.block A (by omega) (hne _ P.ne)), h.o.keep (fun i hi => ?_), ⟨D, hm, hM⟩, h.b.keep (fun i hi => by cases hi; exact hg.block g (by omega) (hne _ (by omega))), ?_, Nat.le_trans h.sz hg.size⟩
  · obtain ⟨_, h2, h3⟩ := own_at h.o hi
    exact hg.block i h3 (hne _ (by omega))
  · exact ⟨hg.os.trans h.gr.os, hg.tape.trans h.gr.tape, hg.output.trans h.gr.output, by have := hg.size; omega, fun i hi hn => (hg.block i (by omega) (hne _ (by omega))).trans (h.gr.block i hi hn)⟩
/-- The two places that are written at a round's end can be. -/
theorem JnK.two (P : JnP w B0 A M g) (h : JnK w B B0 A M g n c KL E f s k r q t W) (hs : s < n) (v : Value) :
    W.frozen? ⟨A, nm E s, none⟩ = false ∧ (∃ u, W.cell? ⟨A, nm E s, none⟩ = some u) ∧ (W.setCell ⟨A, nm E s, none⟩ v).frozen? ⟨g, s, none⟩ = false ∧ ∃ u, (W.setCell ⟨A, nm E s, none⟩ v).cell? ⟨g, s, none⟩ = some u := by
  have hb : nm E s < n := by have := nm_le (E := E) s; omega
  have := P.a; have := P.g
  have hh : (W.setCell ⟨A, nm E s, none⟩ v).heap[g]? = W.heap[g]? := Below.heap_setCell _ ⟨A, nm E s, none⟩ _ g (by intro e; have e : g = A := e; omega)
  obtain ⟨h1, h2, _⟩ := h.b.cellAt (j := s) (by rw [mixI_len]; exact hs)
  refine ⟨Ar.frozen h.a _, ⟨_, (Ar.at' h.a _).trans (by rw [List.getElem?_toArray]; exact latL_at _ _ hb)⟩, ?_, ?_⟩
  · exact (World.frozen?_of_block (a := ⟨g, s, none⟩) hh).trans h2
  · exact ⟨_, (World.cell?_of_block (a := ⟨g, s, none⟩) hh).trans h1⟩
/-- A round's end. -/
theorem JnK.end (P : JnP w B0 A M g) (h : JnK w B B0 A M g n c KL E f s k r q t W) (hs : s < n) :
    JnK w B B0 A M g n c KL E f (s + 1) k r q t ((W.setCell ⟨A, nm E s, none⟩ (.int .i64 (nm (joinE E f) s : Nat))).setCell ⟨g, s, none⟩ (.int .i64 (nm (joinE E f) s : Nat))) := by
  have hb : nm E s < n := by have := nm_le (E := E) s; omega
  have := P.a; have := P.m; have := P.g; have := P.ne; have := h.gr.size; have := h.sz
  obtain ⟨D, h1, h2⟩ := h.m
  have k1 : ∀ (X : World) (b j : Nat) (v : Value) (i : Nat), i ≠ b → (X.setCell ⟨b, j, none⟩ v).heap[i]? = X.heap[i]? := fun X b j v i hn => Below.heap_setCell _ ⟨b, j, none⟩ _ i (by intro e; have e : i = b := e; exact hn e)
  have k2 : ∀ i, i ≠ A → i ≠ g → ((W.setCell ⟨A, nm E s, none⟩ (.int .i64 (nm (joinE E f) s : Nat))).setCell ⟨g, s, none⟩ (.int .i64 (nm (joinE E f) s : Nat))).heap[i]? = W.heap[i]? := fun i h1 h2 => (k1 _ _ _ _ _ h2).trans (k1 _ _ _ _ _ h1)
  refine ⟨?_, h.o.keep (fun i hi => ?_), ⟨D, owns_map_heap h1 (k2 M (by omega) (by omega)), h2⟩, ?_, ?_, ?_⟩
  · have := ar_keep (Ar.set h.a (nm E s) (.int .i64 (nm (joinE E f) s : Nat))) (k1 _ g s (.int .i64 (nm (joinE E f) s : Nat)) A (by omega))
    rw [latL_set E (joinE E f) hb] at this
    exact this
  · obtain ⟨_, h4, h3⟩ := own_at h.o hi
    exact k2 i (by omega) (by omega)
  · have h5 := h.b.keep (w' := W.setCell ⟨A, nm E s, none⟩ (.int .i64 (nm (joinE E f) s : Nat))) (fun i hi => by cases hi; exact k1 W A (nm E s) _ g (by omega))
    have := h5.set (j := s) (by rw [mixI_len]) (nm (joinE E f) s : Nat)
    rw [mixI_set] at this
    exact this
  · refine ⟨h.gr.os, h.gr.tape, h.gr.output, by simp [World.setCell]; exact h.gr.size, fun i hi hn => (k2 i (by omega) (fun e => hn (by rw [e]))).trans (h.gr.block i hi hn)⟩
  · simp [World.setCell]; exact h.sz
end
end Go.Proofs.Ytfhddbjojpmbcaa.DfaW
