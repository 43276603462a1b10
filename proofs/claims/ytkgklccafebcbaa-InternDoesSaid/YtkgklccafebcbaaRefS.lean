/- Walks of the document's answers: Find, Same, Back. -/
import Derived.Test.YtkgklccafebcbaaKeysS
import Derived.Test.YtkgklccafebcbaaPutS
import Derived.Laws.AppendOwnNone
namespace Go.Proofs.Ytkgklccafebcbaa.IntW
set_option linter.unusedVariables false
open Go.RowKit Go.Maps

/-- A slice of texts that reads as ss. -/
def SSl (w : World) (v : Value) (ss : List ByteArray) : Prop :=
  ∃ a cap, v = .slice a ss.length cap ∧ ∀ j, j < ss.length → ∃ b, a = some ⟨b, 0, none⟩ ∧ w.cell? ⟨b, j, none⟩ = some (.string (ss.getD j ByteArray.empty))
abbrev StrRow (w : World) (v : Value) (ss : List ByteArray) : Prop := w.ownsRow 0 9 1 v ss.length (ss.map .string)
theorem ssl_of {w : World} {b : Nat} {v : Value} {ss : List ByteArray} (h : w.ownsRow b 9 1 v ss.length (ss.map .string)) : SSl w v ss := by
  rcases h.2 with ⟨rfl, h0⟩ | ⟨g, cap, cur, rfl, _⟩
  · exact ⟨none, 0, by rw [h0], fun j hj => by omega⟩
  · exact ⟨_, cap, rfl, fun j hj => ⟨g, rfl, by rw [World.ownsRow.cellAt h j (by omega)]; simp [List.getD, hj]⟩⟩
theorem snoc_at (l : List ByteArray) (j : Nat) (h : j < l.length) : l.take (j + 1) = l.take j ++ [l.getD j ByteArray.empty] := by
  rw [List.take_add_one, List.getElem?_eq_getElem h]
  simp [List.getD, h]
theorem at_j {l : List ByteArray} {j : Nat} (h : j < l.length) : (l.map Value.string)[j]? = some (.string (l.getD j ByteArray.empty)) := by simp [List.getD, h]
theorem lst_ne {s x : ByteArray} (h : x ≠ s) : (x.toList == s.toList) = false := by
  rw [beq_eq_false_iff_ne]
  intro e
  rw [ByteArray.toList_eq, ByteArray.toList_eq] at e
  exact h (Base.ba_ext e)
theorem refFindS {w : World} {v : Value} {ss : List ByteArray} (s : ByteArray) (h : SSl w v ss) (hl : ss.length ≤ 1000000) :
    Calls Try.prog 9 #[v, .string s] w fun e w' => ∃ i, Ix (ss.map .string) (.string s) i ∧ e = .returned (.int .i64 i) ∧ w' = w := by
  obtain ⟨a, cap, rfl, hc⟩ := h
  have HC := Lib.hid hc
  clear hc
  generalize hm : ss.length = m at *
  have HM := Lib.hid hm
  clear hm
  go_enter Try.func9, Try.ntmps9
  go_wp2_with fail
  go_loopw [5] (fun k wr => ∃ j : Nat, j ≤ m ∧ k = .int .i64 j ∧ Hid (s ∉ ss.take j) ∧ wr = w) (fun k _ => m - (intOf k).toNat)
  case atStart => exact ⟨0, Nat.zero_le _, rfl, Lib.hid (by simp), rfl⟩
  case round =>
    obtain ⟨j, hj, rfl, HL, rfl⟩ := hrel
    by_cases hlt : j < m
    · have hjl : j < ss.length := by rw [HM.out]; exact hlt
      obtain ⟨b, rfl, hcj⟩ := HC.out j hlt
      have HT := Lib.hid (snoc_at ss j hjl)
      have HA := Lib.hid (at_j hjl)
      generalize ss.getD j ByteArray.empty = x at *
      by_cases hx : x = s
      · subst hx
        have he := ba_eq x
        go_wp2_with fail
        go_ret
        exact ⟨j, .inl ⟨j, rfl, HA.out⟩, rfl, rfl⟩
      · have he := lst_ne hx
        have HX := Lib.hid hx
        clear hx
        go_wp2_with fail
        exact ⟨⟨j + 1, by omega, rfl, Lib.hid (by rw [HT.out]; simp only [List.mem_append, List.mem_singleton, not_or]; exact ⟨HL.out, fun e => HX.out e.symm⟩), trivial⟩, by simp [intOf]; omega⟩
    · have HR := Lib.hid (show s ∉ ss by have := HL.out; rwa [List.take_of_length_le (by rw [HM.out]; omega)] at this)
      go_wp2_with fail
      go_ret
      exact ⟨-1, .inr ⟨rfl, by simpa using HR.out⟩, rfl, rfl⟩
set_option maxHeartbeats 1000000 in
theorem refSameS {w : World} {v u : Value} {ss : List ByteArray} (h : SSl w v ss) (h' : SSl w u ss) (hl : ss.length ≤ 1000000) :
    Calls Try.prog 15 #[v, u] w fun e w' => e = .returned (.bool true) ∧ Below w.heap.size w w' := by
  obtain ⟨a, cap, rfl, hc⟩ := h
  obtain ⟨a', cap', rfl, hc'⟩ := h'
  have HC := Lib.hid hc; have HC' := Lib.hid hc'
  clear hc hc'
  generalize hm : ss.length = m at *
  have HM := Lib.hid hm
  clear hm
  have t0 : ((m : Int) != (m : Int)) = false := by simp
  go_enter Try.func15, Try.ntmps15
  go_wp2_with fail
  go_loopw [5] (fun i wr => ∃ j : Nat, j ≤ m ∧ i = .int .i64 j ∧ Below w.heap.size w wr) (fun i _ => m - (intOf i).toNat)
  case atStart => exact ⟨0, Nat.zero_le _, rfl, Below.refl _ _⟩
  case round =>
    obtain ⟨j, hj, rfl, hb⟩ := hrel
    by_cases hlt : j < m
    · obtain ⟨b, rfl, hcj⟩ := HC.out j hlt
      obtain ⟨b', rfl, hcj'⟩ := HC'.out j hlt
      have d1 := (hb.cell (p := ⟨b, j, none⟩) (World.block_lt_of_cell? _ _ hcj)).trans hcj
      have d2 := (hb.cell (p := ⟨b', j, none⟩) (World.block_lt_of_cell? _ _ hcj')).trans hcj'
      have hji : (j : Int) < (m : Int) := by omega
      have hj0 : (0 : Int) ≤ (j : Int) := by omega
      generalize ss.getD j ByteArray.empty = x at *
      have HBd := Lib.hid hb
      clear hb hcj hcj'
      have t1 : (x.toList != x.toList) = false := by simp
      go_wp2_with fail
      go_quiet (fail)
      go_wp2_with fail
      exact ⟨⟨j + 1, by omega, by go_num, HBd.out.trans ⟨rfl, rfl, rfl, Nat.le_refl _, fun _ _ => rfl⟩⟩, by simp [intOf]; omega⟩
    · go_wp2_with fail
      go_ret
      exact ⟨rfl, hb⟩
/-- What the document's Back leaves. -/
def cutB (ss : List ByteArray) (n : Int) : List ByteArray := ss.take (max n 0).toNat
/-- Where a slice of texts lies. -/
def SS2 (w : World) (v : Value) (ss : List ByteArray) : Prop :=
  (v = .slice none 0 0 ∧ ss = []) ∨ ∃ g cap, v = .slice (some ⟨g, 0, none⟩) ss.length cap ∧ ss.length ≤ cap ∧ ∀ j, j < ss.length → w.cell? ⟨g, j, none⟩ = some (.string (ss.getD j ByteArray.empty))
theorem ss2_of {w : World} {v : Value} {ss : List ByteArray} (h : StrRow w v ss) : SS2 w v ss := by
  rcases h.2 with ⟨rfl, h0⟩ | ⟨g, cap, cur, rfl, _, _, hn, _⟩
  · exact .inl ⟨rfl, List.length_eq_zero_iff.1 h0⟩
  · exact .inr ⟨g, cap, rfl, hn, fun j hj => by rw [World.ownsRow.cellAt h j (by omega)]; simp [List.getD, hj]⟩
theorem SS2.below {w w' : World} {v : Value} {ss : List ByteArray} (h : SS2 w v ss) (hb : Below w.heap.size w w') : SS2 w' v ss := by
  rcases h with h | ⟨g, cap, h1, h2, h3⟩
  · exact .inl h
  · exact .inr ⟨g, cap, h1, h2, fun j hj => (hb.cell (p := ⟨g, j, none⟩) (World.block_lt_of_cell? _ _ (h3 j hj))).trans (h3 j hj)⟩
theorem SS2.head {w : World} {g cap : Nat} {ss : List ByteArray} (h : SS2 w (.slice (some ⟨g, 0, none⟩) ss.length cap) ss) {k : Nat} (hk : k ≤ ss.length) : SS2 w (.slice (some ⟨g, 0, none⟩) k cap) (ss.take k) := by
  rcases h with ⟨h, _⟩ | ⟨g', cap', h1, h2, h3⟩
  · simp at h
  · simp at h1
    obtain ⟨rfl, rfl⟩ := h1
    refine .inr ⟨g, cap, by rw [List.length_take, Nat.min_eq_left hk], by rw [List.length_take]; omega, fun j hj => ?_⟩
    rw [List.length_take] at hj
    rw [h3 j (by omega)]
    simp [List.getD, show j < k by omega]
theorem add0 (g j : Nat) : (⟨g, 0, none⟩ : Addr).add j = ⟨g, j, none⟩ := by unfold Addr.add; split <;> simp_all
theorem cells_strs {w : World} {g : Nat} {ss : List ByteArray} (h : ∀ j, j < ss.length → w.cell? ⟨g, j, none⟩ = some (.string (ss.getD j ByteArray.empty))) : ∀ j u, (ss.map Value.string)[j]? = some u → w.cell? ((⟨g, 0, none⟩ : Addr).add j) = some u := fun j u hj => by
  have hl : j < ss.length := by have := (List.getElem?_eq_some_iff.1 hj).1; simpa using this
  rw [add0, h j hl]
  rw [List.getElem?_map, List.getElem?_eq_getElem hl] at hj
  simp at hj
  subst hj
  simp [List.getD, hl]
theorem one_strs (ss : List ByteArray) : ∀ u ∈ ss.map Value.string, u.oneCell' = true := fun u hu => by
  obtain ⟨s, _, rfl⟩ := List.mem_map.1 hu
  rfl
/-- 'append(s, t...)' of texts. -/
theorem wpList_append_strs {w : World} {ops : Array Oper} {rest : List Oper} {o : Oper} {a : Act} {Q : Exit → Act → World → Prop} (hgd : o.guard = none) (sl x : Operand)
    (ho : o.op = .call { callee := .builtin .append, args := #[sl, x], argTypes := #[26, 26] })
    (base : Nat) (v : Value) (l : List ByteArray) (hs : a.eval sl = v) (hown : w.ownsRow base 9 1 v l.length (l.map .string))
    (va : Value) (ss : List ByteArray) (hx : a.eval x = va) (hb : SS2 w va ss) (hbytes : l.length + ss.length ≤ 1000000) (hbase : base ≤ w.heap.size)
    (h : ∀ v' w', w'.ownsRow base 9 1 v' (l ++ ss).length ((l ++ ss).map .string) → w.grownBy w' v.ownBlock → wpList Try.prog ops Q rest (a.put o.dst v') w') : wpList Try.prog ops Q (o :: rest) a w := by
  obtain ⟨i0, hi, hz0, hz1, hz2⟩ := info_parts infoS
  rcases hb with ⟨rfl, rfl⟩ | ⟨g, cap, rfl, hcap, hc⟩
  · refine wpList_append_own_none hgd sl x _ ho base 9 i0 1 Try.underlying26 hi v _ _ hs hown hx (h v w ?_ ⟨rfl, rfl, rfl, Nat.le_refl _, fun _ _ _ => rfl⟩)
    rw [List.append_nil]; exact hown
  · refine wpList_append_own _ hgd sl x _ ho base 9 i0 (.string ⟨#[]⟩) 1 16 Try.underlying26 hi hz0 hz1 hz2 rfl (by decide) v _ _ hs hown ⟨g, 0, none⟩ ss.length cap (ss.map .string) hx (by simp) (cells_strs hc) (one_strs ss) (by unfold maxLen; omega) (by omega) hbase fun v' w' h1 h2 _ => h v' w' ?_ h2
    rw [List.length_append, List.map_append]; exact h1
theorem refBackS {w : World} {v : Value} {ss : List ByteArray} (n : Int) (h : StrRow w v ss) (hl : ss.length ≤ 1000000) :
    Calls Try.prog 13 #[v, .int .i64 n] w fun e w' => ∃ v', e = .returned v' ∧ StrRow w' v' (cutB ss n) ∧ (∀ g, v'.ownBlock = some g → v.ownBlock = some g ∨ w.heap.size ≤ g) ∧ Below w.heap.size w w' := by
  by_cases h1 : n < 0
  · go_enter Try.func13, Try.ntmps13
    go_wp2_with fail
    go_ret
    refine ⟨_, rfl, ?_, fun g hg => by simp [Value.ownBlock] at hg, Below.refl _ _⟩
    have : cutB ss n = [] := by unfold cutB; rw [show (max n 0).toNat = 0 by omega]; rfl
    rw [this]
    exact World.ownsRow_nil _ _ _ _
  · obtain ⟨k, rfl⟩ : ∃ k : Nat, n = k := ⟨n.toNat, by omega⟩
    have hk : cutB ss (k : Int) = ss.take k := by unfold cutB; rw [show (max (k : Int) 0).toNat = k by omega]
    by_cases h2 : (ss.length : Int) < (k : Int)
    · have hS := ssl_of h
      obtain ⟨a, cap, rfl, _⟩ := hS
      have HR := Lib.hid h
      clear h
      have hcut : cutB ss (k : Int) = ss := by rw [hk, List.take_of_length_le (by omega)]
      rw [hcut]
      obtain ⟨m, hm⟩ : ∃ m, m = ss.length := ⟨_, rfl⟩
      have HR1 := Lib.hid (show StrRow w (.slice a m cap) ss by rw [hm]; exact HR.out)
      rw [← hm] at h2 ⊢
      clear HR hm
      go_enter Try.func13, Try.ntmps13
      go_wp2_with fail
      go_ret
      exact ⟨_, rfl, HR1.out, fun g hg => .inl hg, Below.refl _ _⟩
    · have hkl : k ≤ ss.length := by omega
      have hS := ss2_of h
      rw [hk]
      clear hk h1
      rcases hS with ⟨rfl, rfl⟩ | ⟨g, cap, rfl, hcap, hc⟩
      · obtain rfl : k = 0 := by simpa using hkl
        clear h hl hkl
        go_enter Try.func13, Try.ntmps13
        have hown0 := World.ownsRow_lit (base := w.heap.size) (e := 9) (size := 1) w #[] 0 (Nat.le_refl _) (by unfold maxLen; omega) rfl
        go_wp2_with (first | (at_builtin; refine wpList_append_strs rfl _ _ rfl w.heap.size _ [] rfl hown0 (.slice none 0 0) [] rfl (.inl ⟨rfl, rfl⟩) (by simp) (by simp) ?_; intro v2 w2 hown (hg : (w.alloc (.cells #[] 9)).grownBy w2 (some w.heap.size))))
        go_ret
        exact ⟨v2, rfl, owns_zero hown (Nat.zero_le _), fun g' hg' => .inr (World.ownsRow.lt hown g' hg').1, ((Below.refl _ w).alloc (Nat.le_refl _) _).grown hg (by simp) (fun k e => by cases e; exact Nat.le_refl _)⟩
      · have hSS := SS2.head (.inr ⟨g, cap, rfl, hcap, hc⟩) hkl
        have HS := Lib.hid (hSS.below ((Below.refl _ w).alloc (Nat.le_refl _) (.cells #[] 9)))
        have HL := Lib.hid hkl
        have h3 : (k : Int) ≤ (cap : Int) := by omega
        have HL2 := Lib.hid (show ([] : List ByteArray).length + (ss.take k).length ≤ 1000000 by simp; omega)
        clear h hc hcap hSS hkl
        generalize ss.length = L at *
        go_enter Try.func13, Try.ntmps13
        have hown0 := World.ownsRow_lit (base := w.heap.size) (e := 9) (size := 1) w #[] 0 (Nat.le_refl _) (by unfold maxLen; omega) rfl
        go_wp2_with (first | (at_builtin; refine wpList_append_strs rfl _ _ rfl w.heap.size _ [] rfl hown0 (.slice (some ⟨g, 0, none⟩) k cap) (ss.take k) rfl HS.out HL2.out (by simp) ?_; intro v2 w2 hown (hg : (w.alloc (.cells #[] 9)).grownBy w2 (some w.heap.size))))
        go_ret
        exact ⟨v2, rfl, owns_zero hown (Nat.zero_le _), fun g' hg' => .inr (World.ownsRow.lt hown g' hg').1, ((Below.refl _ w).alloc (Nat.le_refl _) _).grown hg (by simp) (fun k e => by cases e; exact Nat.le_refl _)⟩
end Go.Proofs.Ytkgklccafebcbaa.IntW
