/- Walks: what makes trees, by the document. -/
import Derived.Test.YtogdjgfgmdphgaaDoorMake
import Derived.Laws.AppendOwnNone
import Derived.OwnWalk
namespace Go.Proofs.YtogdjgfgmdphgaaDoor.TreeW
set_option linter.unusedVariables false
open Go.RowKit Go.Proofs.YtogdjgfgmdphgaaDoor.TreeM
theorem NodeAt.cell8 {w : World} {b o : Nat} {n : Nd} {v : Value} (h : NodeAt w b o n v) (hv : v.oneCell' = true) (c : Nat) (hc : c < 8) : ∃ u, w.cell? ⟨b, o + c, none⟩ = some u ∧ u.oneCell' = true := by
  have hcc : c = 0 ∨ c = 1 ∨ c = 2 ∨ c = 3 ∨ c = 4 ∨ c = 5 ∨ c = 6 ∨ c = 7 := by omega
  rcases hcc with rfl | rfl | rfl | rfl | rfl | rfl | rfl | rfl
  · exact ⟨_, h.c0, rfl⟩
  · exact ⟨_, h.c1, rfl⟩
  · exact ⟨_, h.c2, rfl⟩
  · exact ⟨_, h.c3, rfl⟩
  · exact ⟨_, h.c4, rfl⟩
  · exact ⟨_, h.c5, hv⟩
  · exact ⟨_, h.c6, rfl⟩
  · exact ⟨_, h.c7, rfl⟩
theorem LiesS.cap0 {S : Nat → Prop} {w : World} {v : Value} {l : List Tr} (h : LiesS S w v l) (hl : l.length = 0) {len cap : Nat} (hv : v = .slice none len cap) : cap = 0 := by
  cases h with
  | nil a c h0 =>
    simp only [Value.slice.injEq] at hv
    obtain ⟨rfl, _, rfl⟩ := hv
    exact h0 rfl
  | cons b off c l vs a1 => omega
theorem LiesS.inv {S : Nat → Prop} {w : World} {v : Value} {l : List Tr} (h : LiesS S w v l) (hl : 0 < l.length) {ad : Option Addr} {len cap : Nat} (hv : v = .slice ad len cap) :
    ∃ (b off : Nat) (vs : Nat → Value), ad = some ⟨b, off, none⟩ ∧ S b ∧ len ≤ cap ∧ (∀ i (h : i < l.length), NodeAt w b (off + i * 8) l[i].nd (vs i)) ∧ (∀ i (h : i < l.length), LiesS S w (vs i) l[i].kids) := by
  cases h with
  | nil a c h0 => simp at hl
  | cons b off c l vs a1 a2 a3 a4 a5 a6 =>
    simp only [Value.slice.injEq] at hv
    obtain ⟨rfl, rfl, rfl⟩ := hv
    exact ⟨b, off, vs, rfl, a4, a2, a5, a6⟩
theorem addr_add (b o j : Nat) : (⟨b, o, none⟩ : Addr).add j = ⟨b, o + j, none⟩ := by unfold Addr.add; split <;> simp_all
theorem NodeAt.moved {w w' : World} {b o g p : Nat} {n : Nd} {v : Value} (h : NodeAt w b o n v) (k : ∀ c, c < 8 → w'.cell? ⟨g, p + c, none⟩ = w.cell? ⟨b, o + c, none⟩) : NodeAt w' g p n v :=
  ⟨(k 0 (by decide)).trans h.c0, (k 1 (by decide)).trans h.c1, (k 2 (by decide)).trans h.c2, (k 3 (by decide)).trans h.c3, (k 4 (by decide)).trans h.c4, (k 5 (by decide)).trans h.c5, (k 6 (by decide)).trans h.c6, (k 7 (by decide)).trans h.c7⟩
/-- 'append' of nodes that came in to an empty slice of the call's own. -/
theorem wpList_append_nodes {w : World} {ops : Array Oper} {rest : List Oper} {o : Oper} {a : Act} {Q : Exit → Act → World → Prop} (hgd : o.guard = none) (sl x : Operand)
    (ho : o.op = .call { callee := .builtin .append, args := #[sl, x], argTypes := #[26, 26] })
    (base : Nat) (v : Value) (hs : a.eval sl = v) (hown : w.ownsRow base 28 8 v 0 [])
    (l : List Tr) (ad : Option Addr) (cap : Nat) (hx : a.eval x = .slice ad l.length cap) (S : Nat → Prop) (hS : ∀ b, S b → b < base) (hL : LiesS S w (.slice ad l.length cap) l) (hlen : l.length ≤ 1048576) (hbase : base ≤ w.heap.size)
    (h : ∀ ad' cap' w', LiesS (fun b => S b ∨ (base ≤ b ∧ b < w'.heap.size)) w' (.slice ad' l.length cap') l → Below base w w' → wpList Tryd.prog ops Q rest (a.put o.dst (.slice ad' l.length cap')) w') : wpList Tryd.prog ops Q (o :: rest) a w := by
  obtain ⟨i0, hi, hz0, hz1, hz2⟩ := info_parts' infoNode
  have hob : ∀ k, v.ownBlock = some k → base ≤ k := fun k hk => by
    rcases hown.2 with ⟨rfl, _⟩ | ⟨g, cp, cur, rfl, hg, _⟩
    · simp [Value.ownBlock] at hk
    · simp [Value.ownBlock] at hk; omega
  cases l with
  | nil =>
    cases ad with
    | none =>
      obtain rfl : cap = 0 := hL.cap0 rfl rfl
      rcases hown.2 with ⟨rfl, _⟩ | ⟨g, cp, cur, rfl, hg, _⟩
      · exact wpList_append_own_none hgd sl x _ ho base 28 i0 8 Tryd.underlying26 hi _ 0 _ hs hown hx (h none 0 w (.nil _ _ (fun h => by first | rfl | cases h)) (Below.refl _ _))
      · exact wpList_append_own_none hgd sl x _ ho base 28 i0 8 Tryd.underlying26 hi _ 0 _ hs hown hx (h _ _ w (.nil _ _ (fun h => by first | rfl | cases h)) (Below.refl _ _))
    | some ad =>
      refine wpList_append_own _ hgd sl x _ ho base 28 i0 (NV zero (.slice none 0 0)) 8 80 Tryd.underlying26 hi hz0 hz1 hz2 rfl (by decide) v 0 _ hs hown ad 0 cap [] hx rfl (fun j u hj => by simp at hj) (by simp) (by unfold maxLen; omega) (by omega) hbase fun v' w' h1 h2 _ => ?_
      have hb := (Below.refl base w).grown h2 hbase hob
      rcases h1.2 with ⟨rfl, _⟩ | ⟨g, cp, cur, rfl, hg, _⟩
      · exact h _ _ w' (.nil _ _ (fun h => by first | rfl | cases h)) hb
      · exact h _ _ w' (.nil _ _ (fun h => by first | rfl | cases h)) hb
  | cons t r =>
    generalize hll : t :: r = l at *
    have hne : 0 < l.length := by rw [← hll]; simp
    clear hll
    obtain ⟨b, off, vs, rfl, hSb, hcap, hN, hK⟩ := hL.inv hne rfl
    have hcell : ∀ j, j < l.length * 8 → ∃ u, w.cell? ⟨b, off + j, none⟩ = some u ∧ u.oneCell' = true := fun j hj => by
      have hi8 : j / 8 < l.length := by omega
      obtain ⟨a', cap', e⟩ := (hK (j / 8) hi8).form
      obtain ⟨u, hu, h1⟩ := (hN (j / 8) hi8).cell8 (by rw [e]; rfl) (j % 8) (by omega)
      exact ⟨u, by rw [show off + j = off + j / 8 * 8 + j % 8 by omega]; exact hu, h1⟩
    obtain ⟨news, hnews⟩ : ∃ news : List Value, news = (List.range (l.length * 8)).map fun j => (w.cell? ⟨b, off + j, none⟩).getD undef := ⟨_, rfl⟩
    have hat : ∀ j, j < l.length * 8 → news[j]? = w.cell? ⟨b, off + j, none⟩ := fun j hj => by
      obtain ⟨u, hu, _⟩ := hcell j hj
      rw [hnews, List.getElem?_map, List.getElem?_range hj, hu]; simp [hu]
    have hnl : news.length = l.length * 8 := by rw [hnews]; simp
    refine wpList_append_own _ hgd sl x _ ho base 28 i0 (NV zero (.slice none 0 0)) 8 80 Tryd.underlying26 hi hz0 hz1 hz2 rfl (by decide) v 0 _ hs hown ⟨b, off, none⟩ l.length cap news hx hnl (fun j u hj => ?_) (fun u hu => ?_) (by unfold maxLen; omega) (by omega) hbase fun v' w' h1 h2 _ => ?_
    · have hj8 : j < l.length * 8 := by
        rcases Nat.lt_or_ge j (l.length * 8) with h | h
        · exact h
        · rw [List.getElem?_eq_none (by omega)] at hj; cases hj
      rw [addr_add, ← hat j hj8]; exact hj
    · obtain ⟨j, hj, rfl⟩ := List.mem_iff_getElem.1 hu
      obtain ⟨u, hu', h1⟩ := hcell j (by omega)
      have := hat j (by omega)
      rw [List.getElem?_eq_getElem hj, hu'] at this
      simp at this
      rw [this]; exact h1
    · have hb := (Below.refl base w).grown h2 hbase hob
      rw [Nat.zero_add, List.nil_append] at h1
      have hsame : ∀ c p, S c → w'.cell? ⟨c, p, none⟩ = w.cell? ⟨c, p, none⟩ := fun c p hc => hb.cell (p := ⟨c, p, none⟩) (hS c hc)
      have h1' := h1
      rcases h1'.2 with ⟨rfl, h0⟩ | ⟨g, cp, cur, rfl, hg, hh, hn, hc, hsz, htk⟩
      · omega
      · have hcopy : ∀ j, j < l.length * 8 → w'.cell? ⟨g, j, none⟩ = w.cell? ⟨b, off + j, none⟩ := fun j hj => by
          rw [World.ownsRow.cellAt h1 j hj, hat j hj]
        refine h _ _ w' ?_ hb
        refine .cons g 0 cp l vs hne hn hc (.inr ⟨hg, (Array.getElem?_eq_some_iff.1 hh).1⟩) (fun i hi => ?_) (fun i hi => ?_)
        · rw [Nat.zero_add]
          exact (hN i hi).moved fun c hc => by
            rw [hcopy (i * 8 + c) (by omega), show off + (i * 8 + c) = off + i * 8 + c by omega]
        · exact (hK i hi).keep (fun _ h => Or.inl h) hsame

theorem put8_parts {W : World} {g N : Nat} (h : Open W g N) (ho : 8 ≤ N) (n : Nd) (v : Value) : (W.setCell ⟨g, 0, none⟩ (.int .i64 n.K)).cell? ⟨g, 0, none⟩ = some (.int .i64 n.K) ∧ ((W.setCell ⟨g, 0, none⟩ (.int .i64 n.K)).setCell ⟨g, 1, none⟩ (.int .u64 n.a)).cell? ⟨g, 1, none⟩ = some (.int .u64 n.a) ∧ (((W.setCell ⟨g, 0, none⟩ (.int .i64 n.K)).setCell ⟨g, 1, none⟩ (.int .u64 n.a)).setCell ⟨g, 2, none⟩ (.int .u64 n.b)).cell? ⟨g, 2, none⟩ = some (.int .u64 n.b) ∧ ((((W.setCell ⟨g, 0, none⟩ (.int .i64 n.K)).setCell ⟨g, 1, none⟩ (.int .u64 n.a)).setCell ⟨g, 2, none⟩ (.int .u64 n.b)).setCell ⟨g, 3, none⟩ (.int .u64 n.c)).cell? ⟨g, 3, none⟩ = some (.int .u64 n.c) ∧ (((((W.setCell ⟨g, 0, none⟩ (.int .i64 n.K)).setCell ⟨g, 1, none⟩ (.int .u64 n.a)).setCell ⟨g, 2, none⟩ (.int .u64 n.b)).setCell ⟨g, 3, none⟩ (.int .u64 n.c)).setCell ⟨g, 4, none⟩ (.int .u64 n.d)).cell? ⟨g, 4, none⟩ = some (.int .u64 n.d) ∧ ((((((W.setCell ⟨g, 0, none⟩ (.int .i64 n.K)).setCell ⟨g, 1, none⟩ (.int .u64 n.a)).setCell ⟨g, 2, none⟩ (.int .u64 n.b)).setCell ⟨g, 3, none⟩ (.int .u64 n.c)).setCell ⟨g, 4, none⟩ (.int .u64 n.d)).setCell ⟨g, 5, none⟩ v).cell? ⟨g, 5, none⟩ = some v ∧ (((((((W.setCell ⟨g, 0, none⟩ (.int .i64 n.K)).setCell ⟨g, 1, none⟩ (.int .u64 n.a)).setCell ⟨g, 2, none⟩ (.int .u64 n.b)).setCell ⟨g, 3, none⟩ (.int .u64 n.c)).setCell ⟨g, 4, none⟩ (.int .u64 n.d)).setCell ⟨g, 5, none⟩ v).setCell ⟨g, 6, none⟩ (.int .i64 n.L)).cell? ⟨g, 6, none⟩ = some (.int .i64 n.L) ∧ ((((((((W.setCell ⟨g, 0, none⟩ (.int .i64 n.K)).setCell ⟨g, 1, none⟩ (.int .u64 n.a)).setCell ⟨g, 2, none⟩ (.int .u64 n.b)).setCell ⟨g, 3, none⟩ (.int .u64 n.c)).setCell ⟨g, 4, none⟩ (.int .u64 n.d)).setCell ⟨g, 5, none⟩ v).setCell ⟨g, 6, none⟩ (.int .i64 n.L)).setCell ⟨g, 7, none⟩ (.int .i64 n.H)).cell? ⟨g, 7, none⟩ = some (.int .i64 n.H) :=
  ⟨cell_same _ h 0 (by omega) _, cell_same _ (h.set g 0 (.int .i64 n.K)) 1 (by omega) _, cell_same _ ((h.set g 0 (.int .i64 n.K)).set g 1 (.int .u64 n.a)) 2 (by omega) _, cell_same _ (((h.set g 0 (.int .i64 n.K)).set g 1 (.int .u64 n.a)).set g 2 (.int .u64 n.b)) 3 (by omega) _, cell_same _ ((((h.set g 0 (.int .i64 n.K)).set g 1 (.int .u64 n.a)).set g 2 (.int .u64 n.b)).set g 3 (.int .u64 n.c)) 4 (by omega) _, cell_same _ (((((h.set g 0 (.int .i64 n.K)).set g 1 (.int .u64 n.a)).set g 2 (.int .u64 n.b)).set g 3 (.int .u64 n.c)).set g 4 (.int .u64 n.d)) 5 (by omega) _, cell_same _ ((((((h.set g 0 (.int .i64 n.K)).set g 1 (.int .u64 n.a)).set g 2 (.int .u64 n.b)).set g 3 (.int .u64 n.c)).set g 4 (.int .u64 n.d)).set g 5 v) 6 (by omega) _, cell_same _ (((((((h.set g 0 (.int .i64 n.K)).set g 1 (.int .u64 n.a)).set g 2 (.int .u64 n.b)).set g 3 (.int .u64 n.c)).set g 4 (.int .u64 n.d)).set g 5 v).set g 6 (.int .i64 n.L)) 7 (by omega) _⟩
/-- A tree was returned, whose blocks are those that came in, or new. -/
def MadeS (S : Nat → Prop) (n : Nd) (l : List Tr) (w : World) (e : Ending) (w' : World) : Prop := ∃ a' cap', e = .returned (NV n (.slice a' l.length cap')) ∧ LiesS (fun b => S b ∨ (w.heap.size < b ∧ b < w'.heap.size)) w' (.slice a' l.length cap') l ∧ Below w.heap.size w w'
theorem MadeS.made {S : Nat → Prop} {n : Nd} {l : List Tr} {w : World} {e : Ending} {w' : World} (hS : ∀ b, S b → b < w.heap.size) (h : MadeS S n l w e w') : Made n l w e w' := by
  obtain ⟨a, c, h1, h2, h3⟩ := h
  exact ⟨a, c, h1, h2.mono fun b hb => ⟨Nat.zero_le _, by rcases hb with hb | hb
                                                          · have := hS b hb; have := h3.size; omega
                                                          · exact hb.2⟩, h3⟩
set_option maxHeartbeats 2000000 in
theorem ROf_any (K : Int) (l : List Tr) (a : Option Addr) (cap : Nat) (w : World) (S : Nat → Prop) (hS : ∀ b, S b → b < w.heap.size) (hmx : l.length ≤ 1048576) (hL : LiesS S w (.slice a l.length cap) l) :
    Calls Tryd.prog 25 #[.int .i64 K, .slice a l.length cap] w (MadeS S (ofKind K) l w) := by
  obtain ⟨B, hB⟩ : ∃ B, B = w.heap.size := ⟨_, rfl⟩
  have HB := Lib.hid hB; clear hB
  have hb0 := ((Below.refl w.heap.size w).alloc (Nat.le_refl _) (.cells #[.int .i64 0, .int .u64 0, .int .u64 0, .int .u64 0, .int .u64 0, .slice none 0 0, .int .i64 0, .int .i64 0] 28)).alloc (by simp) (.cells #[] 28)
  have hO := (zero_new w).below (by simp) ((Below.refl _ _).alloc (Nat.le_refl _) (.cells #[] 28))
  have hL1 : LiesS S ((w.alloc (.cells #[.int .i64 0, .int .u64 0, .int .u64 0, .int .u64 0, .int .u64 0, .slice none 0 0, .int .i64 0, .int .i64 0] 28)).alloc (.cells #[] 28)) (.slice a l.length cap) l := hL.keep (fun _ h => h) fun b p h => hb0.cell (p := ⟨b, p, none⟩) (hS b h)
  have hown : ((w.alloc (.cells #[.int .i64 0, .int .u64 0, .int .u64 0, .int .u64 0, .int .u64 0, .slice none 0 0, .int .i64 0, .int .i64 0] 28)).alloc (.cells #[] 28)).ownsRow (w.heap.size + 1) 28 8 (.slice (some ⟨w.heap.size + 1, 0, none⟩) 0 0) 0 [] := by
    refine ⟨rfl, .inr ⟨_, 0, #[], rfl, Nat.le_refl _, ?_, Nat.le_refl _, by simp, rfl, rfl⟩⟩
    have := World.alloc_heap_new (w.alloc (.cells #[.int .i64 0, .int .u64 0, .int .u64 0, .int .u64 0, .int .u64 0, .slice none 0 0, .int .i64 0, .int .i64 0] 28)) (.cells #[] 28)
    rwa [World.size_alloc] at this
  have HB0 := Lib.hid hb0; have HO := Lib.hid hO; have HL1 := Lib.hid hL1; have HOWN := Lib.hid hown; have HS := Lib.hid hS
  clear hb0 hO hL1 hown hS hL
  go_enter Tryd.func25, Tryd.ntmps25
  go_wp2_with (at_builtin; refine wpList_append_nodes rfl _ _ rfl (w.heap.size + 1) _ rfl HOWN.out l a cap rfl S (fun b h => by have := HS.out b h; omega) HL1.out hmx (by simp) ?_; intro a1 c1 w1 hL2 hb1; have hO := HO.out.below (Nat.lt_succ_self _) hb1; obtain ⟨u0, e0⟩ := hO.cell 0 (by omega); obtain ⟨u1, e1⟩ := hO.cell 1 (by omega); obtain ⟨u2, e2⟩ := hO.cell 2 (by omega); obtain ⟨u3, e3⟩ := hO.cell 3 (by omega); obtain ⟨u4, e4⟩ := hO.cell 4 (by omega); obtain ⟨u5, e5⟩ := hO.cell 5 (by omega); obtain ⟨u6, e6⟩ := hO.cell 6 (by omega); obtain ⟨u7, e7⟩ := hO.cell 7 (by omega); have z0 := hO.frozen 0; have z1 := hO.frozen 1; have z2 := hO.frozen 2; have z3 := hO.frozen 3; have z4 := hO.frozen 4; have z5 := hO.frozen 5; have z6 := hO.frozen 6; have z7 := hO.frozen 7; have HO1 := Lib.hid hO; clear hO)
  obtain ⟨q0, q1, q2, q3, q4, q5, q6, q7⟩ := put8_parts HO1.out (Nat.le_refl _) ⟨K, 0, 0, 0, 0, 0, 0⟩ (.slice a1 l.length c1)
  refine bodyPost_ret (v := NV (ofKind K) (.slice a1 l.length c1)) (by simp [results, Tryd.results25, go_sem, q0, q1, q2, q3, q4, q5, q6, q7, ofKind]) rfl ⟨_, _, rfl, ?_, ?_⟩
  · refine (hL2.off (g := w.heap.size) (fun h => ?_) 0 (ofKind K) (.slice a1 l.length c1)).mono fun b hb => ?_
    · rcases h with h | h
      · have := HS.out _ h; omega
      · omega
    · show S b ∨ (w.heap.size < b ∧ b < (put8 w1 w.heap.size 0 (ofKind K) (.slice a1 l.length c1)).heap.size)
      rw [size_put8]
      rcases hb with hb | hb
      · exact .inl hb
      · exact .inr ⟨by omega, hb.2⟩
  · exact below_put8 (g := w.heap.size) (HB0.out.trans (hb1.mono (by omega))) (Nat.le_refl _) 0 (ofKind K) (.slice a1 l.length c1)
end Go.Proofs.YtogdjgfgmdphgaaDoor.TreeW
