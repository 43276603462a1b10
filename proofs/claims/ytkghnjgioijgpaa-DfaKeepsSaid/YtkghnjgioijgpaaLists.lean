/- Lists of the call's own; walks of labelled, and of the document's Has, Put. -/
import Derived.Test.YtkghnjgioijgpaaReached
import Derived.Test.YtkghnjgioijgpaaRefRun
import Derived.Laws.AppendOwnNone
import Derived.OwnWalk
namespace Go.Proofs.Ytkghnjgioijgpaa.DfaW
set_option linter.unusedVariables false
open Go.RowKit Go.Maps Go.Proofs.Ytkghnjgioijgpaa.PartW Go.Proofs.Ytkghnjgioijgpaa.DfaM

/-- A list of the call's own. -/
def OI (w : World) (base : Nat) (v : Value) (l : List Int) : Prop := w.ownsRow base 3 1 v l.length (l.map (Value.int .i64))
theorem OI.is {w : World} {base : Nat} {v : Value} {l : List Int} (h : OI w base v l) : IS w.heap.size w v l := by
  have hl := h.1
  rcases h.2 with ⟨h1, h2⟩ | ⟨g, cap, cur, rfl, hg, hh, hn, hc, hs, hx⟩
  · obtain rfl := List.length_eq_zero_iff.1 h2
    rw [h1]
    exact VS.nil _ _ _
  · refine ⟨_, cap, by rw [List.length_map], by rw [List.length_map]; omega, hc, fun i hi => ⟨g, 0, rfl, (Array.getElem?_eq_some_iff.1 hh).1, ?_⟩⟩
    rw [List.length_map] at hi
    have h' := h
    rw [Nat.zero_add, World.ownsRow.cellAt h' i (by omega)]
theorem OI.below {w w' : World} {base : Nat} {v : Value} {l : List Int} (h : OI w base v l) (hb : Below w.heap.size w w') : OI w' base v l := by
  obtain ⟨h1, h2⟩ := h
  refine ⟨h1, ?_⟩
  rcases h2 with h2 | ⟨g, cap, cur, rfl, hg, hgh, hr⟩
  · exact .inl h2
  · exact .inr ⟨g, cap, cur, rfl, hg, by rw [hb.block g (Array.getElem?_eq_some_iff.1 hgh).1]; exact hgh, hr⟩
theorem OI.len {w : World} {base : Nat} {v : Value} {l : List Int} (h : OI w base v l) : ∃ a c, v = .slice a l.length c ∧ l.length ≤ c ∧ c ≤ maxLen := by
  obtain ⟨a, c, h1, h2, h3, _⟩ := h.is.open
  exact ⟨a, c, h1, h2, h3⟩
theorem iv_cast (l : List Nat) : l.map iv = (castL l).map (Value.int .i64) := by simp [castL, iv]
theorem OI.of_iv {w : World} {base : Nat} {v : Value} {l : List Nat} (h : w.ownsRow base 3 1 v l.length (l.map iv)) : OI w base v (castL l) := by
  rw [iv_cast] at h
  show w.ownsRow base 3 1 v (castL l).length _
  rw [castL_len]; exact h
theorem OI.nil (w : World) (base : Nat) : OI w base (.slice none 0 0) [] := World.ownsRow_nil w base _ _
theorem OI.empty (w : World) : OI (w.alloc (.cells #[] 3)) w.heap.size (.slice (some ⟨w.heap.size, 0, none⟩) 0 0) [] :=
  ⟨rfl, .inr ⟨w.heap.size, 0, #[], rfl, Nat.le_refl _, Ar.new _ _ _, Nat.le_refl _, Nat.zero_le _, rfl, rfl⟩⟩
theorem below_own {B n : Nat} {w w' : World} {v : Value} {xs : List Value} {e : TypeId} {k : Nat} (hB : B ≤ w.heap.size) (hown : w.ownsRow B e k v n xs) (hg : w.grownBy w' v.ownBlock) : Below B w w' := by
  refine (Below.refl B w).grown hg hB (fun j hj => ?_)
  rcases hown.2 with ⟨h1, _⟩ | ⟨g, cap, _, h1, h2, _⟩
  · rw [h1] at hj; cases hj
  · rw [h1] at hj; cases hj; exact h2
section
variable {ops : Array Oper} {rest : List Oper} {o : Oper} {a : Act} {w : World} {Q : Exit → Act → World → Prop}
/-- One number more. -/
theorem wpList_append_int (hgd : o.guard = none) (s x : Operand) (ho : o.op = .call { callee := .builtin .append, args := #[s, x], argTypes := #[24, 24] })
    {base : Nat} {v : Value} {l : List Int} (hs : a.eval s = v) (hown : OI w base v l) (hbase : base ≤ w.heap.size) (ad : Addr) (c : Nat) (y : Int) (hx : a.eval x = .slice (some ad) 1 c) (hc : w.cell? ad = some (.int .i64 y)) (hsp : ad.add 0 = ad)
    (hbytes : l.length + 1 ≤ 17592186044416)
    (hK : ∀ v' w', OI w' base v' (l ++ [y]) → Below base w w' → wpList Try.prog ops Q rest (a.put o.dst v') w') : wpList Try.prog ops Q (o :: rest) a w := by
  obtain ⟨i0, hi, hz0, hz1, hz2⟩ := info_parts info3
  refine wpList_append_own _ hgd s x 24 ho base 3 i0 (.int .i64 0) 1 8 Try.underlying24 hi hz0 hz1 hz2 rfl (by decide) v _ _ hs hown ad 1 c [.int .i64 y] hx rfl (fun j u hj => ?_) (fun u hu => ?_) (by unfold maxLen; omega) (by omega) hbase fun v' w' h1 h2 _ => hK v' w' ?_ (below_own hbase hown h2)
  · cases j with
    | zero => simp at hj; subst hj; rw [hsp]; exact hc
    | succ j => simp at hj
  · rw [List.mem_singleton] at hu; subst hu; rfl
  · show w'.ownsRow base 3 1 v' (l ++ [y]).length ((l ++ [y]).map (Value.int .i64))
    rw [List.length_append, List.map_append]; exact h1
/-- A list more. -/
theorem wpList_append_ints (hgd : o.guard = none) (s x : Operand) (ho : o.op = .call { callee := .builtin .append, args := #[s, x], argTypes := #[24, 24] })
    {base B : Nat} {v vx : Value} {l m : List Int} (hs : a.eval s = v) (hown : OI w base v l) (hbase : base ≤ w.heap.size) (hx : a.eval x = vx) (hm : IS B w vx m) (hnil : ∀ n c, vx = .slice none n c → c = 0) (hbytes : l.length + m.length ≤ 17592186044416)
    (hK : ∀ v' w', OI w' base v' (l ++ m) → Below base w w' → wpList Try.prog ops Q rest (a.put o.dst v') w') : wpList Try.prog ops Q (o :: rest) a w := by
  obtain ⟨i0, hi, hz0, hz1, hz2⟩ := info_parts info3
  obtain ⟨ad, cap, rfl, h1, h2, h3⟩ := hm.open
  rcases Nat.eq_zero_or_pos m.length with h0 | h0
  · obtain rfl := List.length_eq_zero_iff.1 h0
    cases ad with
    | none =>
      obtain rfl := hnil _ _ rfl
      refine wpList_append_own_none hgd s x 24 ho base 3 i0 1 Try.underlying24 hi v _ _ hs hown hx (hK v w ?_ (Below.refl _ _))
      rw [List.append_nil]; exact hown
    | some ad =>
      refine wpList_append_own _ hgd s x 24 ho base 3 i0 (.int .i64 0) 1 8 Try.underlying24 hi hz0 hz1 hz2 rfl (by decide) v _ _ hs hown ad 0 cap [] hx rfl (fun j u hj => by simp at hj) (by simp) (by unfold maxLen; simp at hbytes; omega) (by simp at hbytes; omega) hbase fun v' w' h1 h2 _ => hK v' w' ?_ (below_own hbase hown h2)
      rw [List.append_nil]
      show w'.ownsRow base 3 1 v' l.length _
      simpa using h1
  · obtain ⟨b, off, rfl, _, hc⟩ := IS.cells (cap := cap) h3 h0
    refine wpList_append_own _ hgd s x 24 ho base 3 i0 (.int .i64 0) 1 8 Try.underlying24 hi hz0 hz1 hz2 rfl (by decide) v _ _ hs hown ⟨b, off, none⟩ m.length cap (m.map (Value.int .i64)) hx (by simp) (fun j u hj => ?_) (fun u hu => ?_) (by unfold maxLen; omega) (by omega) hbase fun v' w' h1 h2 _ => hK v' w' ?_ (below_own hbase hown h2)
    · have hj2 := (List.getElem?_eq_some_iff.1 hj).1
      rw [List.length_map] at hj2
      rw [Addr.add_mid, hc j hj2, ← hj]
      simp [List.getD, hj2]
    · simp only [List.mem_map] at hu
      obtain ⟨c, _, rfl⟩ := hu
      rfl
    · show w'.ownsRow base 3 1 v' (l ++ m).length ((l ++ m).map (Value.int .i64))
      rw [List.length_append, List.map_append]; exact h1
end
/-- The states that have a label. -/
def labS (lb : List Int) : List Nat := (List.range lb.length).filter fun s => lb.getD s 0 != 0
def labTo (lb : List Int) (k : Nat) : List Nat := (List.range k).filter fun s => lb.getD s 0 != 0
theorem labTo_yes {lb : List Int} {k : Nat} (h : lb.getD k 0 ≠ 0) : labTo lb (k + 1) = labTo lb k ++ [k] := by
  unfold labTo
  have h' : (lb.getD k 0 != 0) = true := by simpa using h
  rw [List.range_succ, List.filter_append, List.filter_cons, h']; rfl
theorem labTo_no {lb : List Int} {k : Nat} (h : lb.getD k 0 = 0) : labTo lb (k + 1) = labTo lb k := by
  unfold labTo
  have h' : (lb.getD k 0 != 0) = false := by simpa using h
  rw [List.range_succ, List.filter_append, List.filter_cons, h']; simp
theorem labTo_len (lb : List Int) (k : Nat) : (labTo lb k).length ≤ k := by
  have := List.length_filter_le (fun s => lb.getD s 0 != 0) (List.range k)
  simpa [labTo] using this
set_option maxHeartbeats 1000000 in
theorem labelled_any {v : Value} {lb : List Int} (w : World) (h : IS w.heap.size w v lb) (hn : lb.length ≤ 65536) :
    Calls Try.prog 44 #[v] w fun e w' => ∃ v', e = .returned v' ∧ OI w' w.heap.size v' (castL (labS lb)) ∧ Below w.heap.size w w' := by
  obtain ⟨a, cap, rfl, h1, h2, h3⟩ := h.open
  obtain ⟨n, hn'⟩ : ∃ n, n = lb.length := ⟨_, rfl⟩
  have hni : (n : Int) ≤ 65536 := by omega
  have HN := Lib.hid hn'
  rw [← hn'] at h3 ⊢
  have HC := Lib.hid h3
  clear h h1 h2 h3 hn' hn
  go_enter Try.func44, Try.ntmps44
  go_wp2_with fail
  go_loopw [3, 8] (fun u i wr => ∃ k : Nat, k ≤ n ∧ i = .int .i64 k ∧ OI wr w.heap.size u (castL (labTo lb k)) ∧ Below w.heap.size w wr) (fun _ i _ => n - (intOf i).toNat)
  case atStart => exact ⟨0, Nat.zero_le _, rfl, OI.nil _ _, Below.refl _ _⟩
  case round =>
    obtain ⟨k, hk, rfl, hO, hb⟩ := hrel
    obtain ⟨a', c', rfl, _, _⟩ := hO.len
    by_cases hlt : k < n
    · obtain ⟨b, o, rfl, hb1, hc1⟩ := HC.out k hlt
      have c1 := (hb.cell (p := ⟨b, o + k, none⟩) hb1).trans hc1
      obtain ⟨x, hx⟩ : ∃ x, x = lb.getD k 0 := ⟨_, rfl⟩
      rw [← hx] at c1
      have HO := Lib.hid hO; have HB := Lib.hid hb; have HLT := Lib.hid hlt
      have HL := Lib.hid (labTo_len lb k)
      obtain ⟨q, hq⟩ : ∃ q, q = (castL (labTo lb k)).length := ⟨_, rfl⟩
      have HQ := Lib.hid (show q ≤ k by rw [hq, castL_len]; exact HL.out)
      rw [← hq] at HO ⊢
      have HQE := Lib.hid hq
      by_cases hx0 : x = 0
      · have t0 : (x != 0) = false := by simpa using hx0
        have HE := Lib.hid (labTo_no (show lb.getD k 0 = 0 by rw [← hx]; exact hx0))
        clear hx0 hx hO hb hb1 hc1 hq
        go_wp2_with fail
        exact ⟨⟨k + 1, HLT.out, by go_num, by rw [HE.out]; exact HO.out, HB.out⟩, by have := HLT.out; simp [intOf]; omega⟩
      · have t0 : (x != 0) = true := by simpa using hx0
        have HE := Lib.hid (labTo_yes (show lb.getD k 0 ≠ 0 by rw [← hx]; exact hx0))
        have HO2 := Lib.hid (HO.out.below ((Below.refl _ wr).alloc (Nat.le_refl _) (.cells #[.int .i64 (k : Int)] 3)))
        clear hx0 hx hO hb hb1 hc1 hq
        go_wp2_with (at_builtin; refine wpList_append_int rfl _ _ rfl rfl HO2.out (by have := HB.out.size; simp; omega) ⟨wr.heap.size, 0, none⟩ 1 (k : Int) rfl (by rw [World.cell?_alloc_new]; rfl) rfl (by have := HQ.out; have := HQE.out; have := HLT.out; omega) ?_; intro v' w3 hO3 hb3; have HO3 := Lib.hid hO3; have HB3 := Lib.hid hb3; obtain ⟨a3, c3, rfl, _, _⟩ := hO3.len; clear hO3 hb3)
        refine ⟨⟨k + 1, HLT.out, by go_num, ?_, ?_⟩, by have := HLT.out; simp [intOf]; omega⟩
        · rw [HE.out]
          have := HO3.out
          simpa [castL] using this
        · exact (HB.out.alloc HB.out.size _).trans HB3.out
    · have hkn : k = n := by omega
      subst hkn
      have HO := Lib.hid (show OI wr w.heap.size _ (castL (labS lb)) by unfold labS; rw [← HN.out]; exact hO)
      have HB := Lib.hid hb
      clear hO hb
      go_wp2_with fail
      go_ret
      exact ⟨_, rfl, HO.out, HB.out⟩

/-! ### The document's rising lists -/
/-- Is a number in it? -/
theorem Has_any {v : Value} {l : List Nat} {B : Nat} (w : World) (h : IS B w v (castL l)) (x : Nat) :
    Calls Try.prog 47 #[v, .int .i64 x] w fun e w' => e = .returned (.bool (decide (x ∈ l))) ∧ w = w' := by
  obtain ⟨a, cap, rfl, h1, h2, h3⟩ := h.open
  rw [castL_len] at h3 h1 ⊢
  obtain ⟨n, hn⟩ : ∃ n, n = l.length := ⟨_, rfl⟩
  have hni : (n : Int) ≤ 9223372036854775807 := by unfold maxLen at h2; omega
  have HN := Lib.hid hn
  rw [← hn] at h3 ⊢
  have HC := Lib.hid h3
  clear h h1 h2 h3 hn
  go_enter Try.func47, Try.ntmps47
  go_wp2_with fail
  go_loop [5] (fun i => ∃ k : Nat, k ≤ n ∧ i = .int .i64 k ∧ Hid (x ∉ l.take k)) (fun i => n - (intOf i).toNat)
  case atStart => exact ⟨0, Nat.zero_le _, rfl, Lib.hid (by simp)⟩
  case round =>
    obtain ⟨k, hk, rfl, HA⟩ := hrel
    by_cases hlt : k < n
    · obtain ⟨b, o, rfl, _, hc⟩ := HC.out k hlt
      rw [castL_at] at hc
      have HT := Lib.hid (take_snoc l (show k < l.length by rw [← HN.out]; exact hlt))
      obtain ⟨y, hy⟩ : ∃ y, y = l.getD k 0 := ⟨_, rfl⟩
      rw [← hy] at hc HT
      have HM := Lib.hid (show y ∈ l from by rw [hy, List.getD_eq_getElem?_getD, List.getElem?_eq_getElem (by rw [← HN.out]; exact hlt)]; exact List.getElem_mem _)
      have HLT := Lib.hid hlt
      clear hy hlt
      by_cases hxy : y = x
      · have t0 : ((y : Int) == (x : Int)) = true := by rw [hxy]; simp
        have HE := Lib.hid (show decide (x ∈ l) = true by rw [decide_eq_true_iff, ← hxy]; exact HM.out)
        clear hxy
        have hlt := HLT.out
        go_wp2_with fail
        go_ret
        exact ⟨Base.ret_bool HE.out.symm, rfl⟩
      · have t0 : ((y : Int) == (x : Int)) = false := by simp; omega
        have HE := Lib.hid hxy
        clear hxy
        have hlt := HLT.out
        go_wp2_with fail
        refine ⟨⟨k + 1, HLT.out, by go_num, Lib.hid ?_⟩, by have := HLT.out; simp [intOf]; omega⟩
        rw [HT.out, List.mem_append, List.mem_singleton]
        exact fun h => h.elim HA.out (fun e => HE.out e.symm)
    · have hkn : k = n := by omega
      have HE := Lib.hid (show decide (x ∈ l) = false by rw [decide_eq_false_iff_not]; have := HA.out; rw [hkn, HN.out, List.take_length] at this; exact this)
      clear hkn
      go_wp2_with fail
      go_ret
      exact ⟨Base.ret_bool HE.out.symm, rfl⟩
end Go.Proofs.Ytkghnjgioijgpaa.DfaW
