/- Walks: Leaves, by the document. -/
import Derived.Test.YtogdjgfgmdphgaaDoorMake
import Derived.Laws.AppendOwnNone
import Derived.OwnWalk
namespace Go.Proofs.YtogdjgfgmdphgaaDoor.TreeW
set_option linter.unusedVariables false
open Go.RowKit Go.Proofs.YtogdjgfgmdphgaaDoor.TreeM
/-- A set's four cells. -/
def qc (q : Q) : List Value := [.int .u64 q.a, .int .u64 q.b, .int .u64 q.c, .int .u64 q.d]
theorem qc_len (l : List Q) : (l.flatMap qc).length = l.length * 4 := by
  induction l with
  | nil => rfl
  | cons q l ih => rw [List.flatMap_cons, List.length_append, ih, List.length_cons]; simp [qc]; omega
theorem qc_one (l : List Q) : ∀ u ∈ l.flatMap qc, u.oneCell' = true := fun u hu => by
  obtain ⟨q, _, h⟩ := List.mem_flatMap.1 hu
  simp [qc] at h
  rcases h with rfl | rfl | rfl | rfl <;> rfl
theorem own_under {W W' : World} {base : Nat} {e : TypeId} {size : Nat} {v : Value} {n : Nat} {xs : List Value} (h : W.ownsRow base e size v n xs) (hb : Below W.heap.size W W') : W'.ownsRow base e size v n xs := by
  obtain ⟨h1, h2⟩ := h
  refine ⟨h1, ?_⟩
  rcases h2 with h2 | ⟨g, cap, cur, h3, h4, h5, h6⟩
  · exact .inl h2
  · exact .inr ⟨g, cap, cur, h3, h4, (hb.block g (Array.getElem?_eq_some_iff.1 h5).1).trans h5, h6⟩
theorem own_mono {W : World} {base base' : Nat} {e : TypeId} {size : Nat} {v : Value} {n : Nat} {xs : List Value} (h : W.ownsRow base e size v n xs) (hb : base' ≤ base) : W.ownsRow base' e size v n xs := by
  obtain ⟨h1, h2⟩ := h
  refine ⟨h1, ?_⟩
  rcases h2 with h2 | ⟨g, cap, cur, h3, h4, h5⟩
  · exact .inl h2
  · exact .inr ⟨g, cap, cur, h3, by omega, h5⟩
theorem infoSet : (Tryd.prog.info? 25).map (fun i => (i.zero, i.size, i.bytes)) = some (some (.agg #[.int .u64 0, .int .u64 0, .int .u64 0, .int .u64 0]), 4, 32) := by kernel_rfl
/-- Sets were returned. -/
def LeafPost (ls : List Q) (w : World) (e : Ending) (w' : World) : Prop := ∃ v, e = .returned v ∧ w'.ownsRow w.heap.size 25 4 v ls.length (ls.flatMap qc) ∧ Below w.heap.size w w'
theorem own_form {W : World} {base : Nat} {e : TypeId} {size : Nat} {v : Value} {n : Nat} {xs : List Value} (h : W.ownsRow base e size v n xs) : ∃ ad cap, v = .slice ad n cap := by
  rcases h.2 with ⟨rfl, rfl⟩ | ⟨g, cap, cur, rfl, _⟩
  · exact ⟨none, 0, rfl⟩
  · exact ⟨_, cap, rfl⟩
theorem addr_add' (b o j : Nat) : (⟨b, o, none⟩ : Addr).add j = ⟨b, o + j, none⟩ := by unfold Addr.add; split <;> simp_all
/-- 'append' of sets of another row. -/
theorem wpList_append_sets {w : World} {ops : Array Oper} {rest : List Oper} {o : Oper} {a : Act} {Q' : Exit → Act → World → Prop} (hgd : o.guard = none) (sl x : Operand)
    (ho : o.op = .call { callee := .builtin .append, args := #[sl, x], argTypes := #[33, 33] })
    (base base' : Nat) (v u : Value) (hs : a.eval sl = v) (hx : a.eval x = u) (ls ms : List Q) (hown : w.ownsRow base 25 4 v ls.length (ls.flatMap qc)) (hown' : w.ownsRow base' 25 4 u ms.length (ms.flatMap qc))
    (hlen : ls.length + ms.length ≤ 1048576) (hbase : base ≤ w.heap.size)
    (h : ∀ ad cap w', w'.ownsRow base 25 4 (.slice ad (ls.length + ms.length) cap) (ls.length + ms.length) ((ls ++ ms).flatMap qc) → Below base w w' → wpList Tryd.prog ops Q' rest (a.put o.dst (.slice ad (ls.length + ms.length) cap)) w') : wpList Tryd.prog ops Q' (o :: rest) a w := by
  obtain ⟨i0, hi, hz0, hz1, hz2⟩ := info_parts' infoSet
  have hob : ∀ k, v.ownBlock = some k → base ≤ k := fun k hk => by
    rcases hown.2 with ⟨rfl, _⟩ | ⟨g, cp, cur, rfl, hg, _⟩
    · simp [Value.ownBlock] at hk
    · simp [Value.ownBlock] at hk; omega
  rcases hown'.2 with ⟨rfl, h0⟩ | ⟨g, cp, cur, rfl, hg, hh, hn, hc, hsz, htk⟩
  · obtain rfl : ms = [] := List.length_eq_zero_iff.1 h0
    obtain ⟨ad, cap, rfl⟩ := own_form hown
    refine wpList_append_own_none hgd sl x _ ho base 25 i0 4 Tryd.underlying33 hi _ _ _ hs hown hx (h ad cap w ?_ (Below.refl _ _))
    rw [List.append_nil]; exact hown
  · refine wpList_append_own _ hgd sl x _ ho base 25 i0 _ 4 32 Tryd.underlying33 hi hz0 hz1 hz2 rfl (by decide) v _ _ hs hown ⟨g, 0, none⟩ ms.length cp (ms.flatMap qc) hx (qc_len ms) (fun j u hj => ?_) (qc_one ms) (by unfold maxLen; omega) (by omega) hbase fun v' w' h1 h2 _ => ?_
    · have hj8 : j < ms.length * 4 := by
        rcases Nat.lt_or_ge j (ms.length * 4) with h | h
        · exact h
        · rw [List.getElem?_eq_none (by rw [qc_len]; omega)] at hj; cases hj
      rw [addr_add', Nat.zero_add, World.ownsRow.cellAt hown' j hj8]; exact hj
    · have hb := (Below.refl base w).grown h2 hbase hob
      obtain ⟨ad, cap, rfl⟩ := own_form h1
      refine h ad cap w' ?_ hb
      rw [List.flatMap_append]; exact h1
set_option maxHeartbeats 2000000 in
theorem refLeaves_to : ∀ (m : Nat) (n : Nd) (l : List Tr) (a : Option Addr) (cap : Nat) (w : World), sizeL l + 1 ≤ m → sizeL l + 1 ≤ 1048576 → Lies 0 w.heap.size w (.slice a l.length cap) l →
    Calls Tryd.prog 14 #[NV n (.slice a l.length cap)] w (LeafPost (leaves (.mk n l)) w) := by
  intro m
  induction m with
  | zero => intro n l a cap w h; exact absurd h (by omega)
  | succ m ih =>
    intro n l a cap w hm hbig hL
    have hmx := Nat.le_trans (length_le l) (show sizeL l ≤ 1048576 by omega)
    have HL := Lib.hid hL; clear hL
    obtain ⟨B, hB⟩ : ∃ B, B = w.heap.size := ⟨_, rfl⟩
    have HB := Lib.hid hB; clear hB
    have IH := Lib.hid ih; clear ih
    have hb0 := (Below.refl w.heap.size w).alloc (Nat.le_refl _) (.cells #[.int .i64 n.K, .int .u64 n.a, .int .u64 n.b, .int .u64 n.c, .int .u64 n.d, .slice a l.length cap, .int .i64 n.L, .int .i64 n.H] 28)
    have hN0 := NodeAt.new w n (.slice a l.length cap) 28
    have hs0 : (w.alloc (.cells #[.int .i64 n.K, .int .u64 n.a, .int .u64 n.b, .int .u64 n.c, .int .u64 n.d, .slice a l.length cap, .int .i64 n.L, .int .i64 n.H] 28)).heap.size = w.heap.size + 1 := by simp
    by_cases hk3 : n.K = 3
    · have t3 : (n.K == 3) = true := by simpa using hk3
      have HV := Lib.hid (show leaves (.mk n l) = [n.q] by rw [leaves_mk, if_pos hk3])
      have hr : ((w.alloc (.cells #[.int .i64 n.K, .int .u64 n.a, .int .u64 n.b, .int .u64 n.c, .int .u64 n.d, .slice a l.length cap, .int .i64 n.L, .int .i64 n.H] 28)).alloc (.cells #[.int .u64 n.a, .int .u64 n.b, .int .u64 n.c, .int .u64 n.d] 25)).ownsRow w.heap.size 25 4 (.slice (some ⟨w.heap.size + 1, 0, none⟩) 1 1) 1 ([n.q].flatMap qc) := by
        have hn := World.alloc_heap_new (w.alloc (.cells #[.int .i64 n.K, .int .u64 n.a, .int .u64 n.b, .int .u64 n.c, .int .u64 n.d, .slice a l.length cap, .int .i64 n.L, .int .i64 n.H] 28)) (.cells #[.int .u64 n.a, .int .u64 n.b, .int .u64 n.c, .int .u64 n.d] 25)
        rw [hs0] at hn
        exact ⟨rfl, .inr ⟨_, 1, _, rfl, by omega, hn, Nat.le_refl _, by unfold maxLen; omega, rfl, rfl⟩⟩
      have HR := Lib.hid hr
      clear hr hk3 hb0 hN0 hs0
      go_enter Tryd.func14, Tryd.ntmps14
      go_wp2_with fail
      go_ret
      exact ⟨_, rfl, by rw [HV.out]; exact HR.out, ((Below.refl _ _).alloc (Nat.le_refl _) _).alloc (by simp) _⟩
    · have t3 : (n.K == 3) = false := by simpa using hk3
      have HV := Lib.hid (show leaves (.mk n l) = leavesL l by rw [leaves_mk, if_neg hk3])
      have hb1 := hb0.alloc (by simp) (.cells #[] 25)
      have hN1 := hN0.below (by simp) ((Below.refl _ _).alloc (Nat.le_refl _) (.cells #[] 25))
      have hr : ((w.alloc (.cells #[.int .i64 n.K, .int .u64 n.a, .int .u64 n.b, .int .u64 n.c, .int .u64 n.d, .slice a l.length cap, .int .i64 n.L, .int .i64 n.H] 28)).alloc (.cells #[] 25)).ownsRow (w.heap.size + 1) 25 4 (.slice (some ⟨w.heap.size + 1, 0, none⟩) 0 0) 0 [] := by
        have hn := World.alloc_heap_new (w.alloc (.cells #[.int .i64 n.K, .int .u64 n.a, .int .u64 n.b, .int .u64 n.c, .int .u64 n.d, .slice a l.length cap, .int .i64 n.L, .int .i64 n.H] 28)) (.cells #[] 25)
        rw [hs0] at hn
        exact ⟨rfl, .inr ⟨_, 0, _, rfl, by omega, hn, Nat.le_refl _, by simp, rfl, rfl⟩⟩
      have HR := Lib.hid hr; have HB1 := Lib.hid hb1; have HN1 := Lib.hid hN1
      clear hr hk3 hb0 hN0 hs0 hb1 hN1
      go_enter Tryd.func14, Tryd.ntmps14
      go_wp2_with fail
      have hN1 := HN1.out
      rw [← HB.out] at hN1 ⊢
      go_loopw [3, 4] (fun s i wr => ∃ (k : Nat) (ad : Option Addr) (cp : Nat), k ≤ l.length ∧ i = .int .i64 k ∧ s = .slice ad (leavesL (l.take k)).length cp ∧ wr.ownsRow (w.heap.size + 1) 25 4 (.slice ad (leavesL (l.take k)).length cp) (leavesL (l.take k)).length ((leavesL (l.take k)).flatMap qc) ∧ NodeAt wr B 0 n (.slice a l.length cap) ∧ Below w.heap.size w wr) (fun _ i _ => l.length - (intOf i).toNat)
      case atStart =>
        refine ⟨0, some ⟨B + 1, 0, none⟩, 0, Nat.zero_le _, rfl, ?_, ?_, hN1, HB1.out⟩
        · rw [List.take_zero, leavesL_nil]; rfl
        · rw [List.take_zero, leavesL_nil, HB.out]; exact HR.out
      case round =>
        obtain ⟨k, ad, cp, hk, rfl, rfl, hrow, hN, hb⟩ := hrel
        clear hN1
        have c5 := hN.c5
        by_cases hlt : k < l.length
        · obtain ⟨b, o, a', cap', rfl, -, h1, h2, h3, h4, hA, hK⟩ := HL.out.at k hlt
          have hA2 := hA.below h4 hb
          have d0 := hA2.c0; have d1 := hA2.c1; have d2 := hA2.c2; have d3 := hA2.c3; have d4 := hA2.c4; have d5 := hA2.c5; have d6 := hA2.c6; have d7 := hA2.c7
          have HT := Lib.hid (size_at l k hlt)
          have HZ := Lib.hid (size_kids l[k])
          have HE := Lib.hid (Tr.eta l[k])
          have HS := Lib.hid (leavesL_take l k hlt)
          have HLE := Lib.hid (leavesL_len (l.take (k + 1))); have HLE2 := Lib.hid (sizeL_le l (k + 1))
          have HK := Lib.hid (hK.under hb)
          have HN := Lib.hid hN; have HROW := Lib.hid hrow
          have hz := hb.size
          generalize l[k] = tk at *
          generalize hlk : tk.kids = lk at *
          generalize hnk : tk.nd = nk at *
          clear hlk hnk hA hK hA2 hN hrow
          generalize leavesL (l.take k) = ls at *
          have HC := Lib.hid (IH.out nk lk a' cap' wr (by have := HT.out; have := HZ.out; omega) (by have := HT.out; have := HZ.out; omega) (HK.out.mono (Nat.le_refl _) hz))
          rw [HE.out] at HC
          go_wp2_with fail
          refine HC.out.mono ?_
          rintro e w1 ⟨u, rfl, hu, hb1⟩
          have hN1 := HN.out.below HN.out.lt hb1
          have hrow1 := own_under HROW.out hb1
          have hb2 := hb.trans (hb1.mono hz)
          have hll : ls.length + (leaves tk).length ≤ 1048576 := by
            have e1 := congrArg List.length HS.out
            have e2 := HLE.out
            have e3 := HLE2.out
            rw [List.length_append] at e1; omega
          have HU := Lib.hid hu; have HROW1 := Lib.hid hrow1; have HN1 := Lib.hid hN1; have HB2 := Lib.hid hb2
          clear c5 d0 d1 d2 d3 d4 d5 d6 d7 hu hrow1 hN1 hb2 hb1
          go_wp2_with (at_builtin; refine wpList_append_sets rfl _ _ rfl (w.heap.size + 1) _ _ _ rfl rfl ls (leaves tk) HROW1.out HU.out hll (by rw [← HB.out]; exact HN1.out.lt) ?_; intro a2 c2 w2 hr2 hbx)
          have hlen2 : (leavesL (l.take (k + 1))).length = ls.length + (leaves tk).length := by rw [HS.out, List.length_append]
          refine ⟨⟨k + 1, a2, c2, by omega, by go_num, by rw [hlen2], by rw [hlen2, HS.out]; exact hr2, HN1.out.below (by rw [HB.out]; exact Nat.lt_succ_self _) hbx, HB2.out.trans (hbx.mono (Nat.le_succ _))⟩, by simp [intOf]; omega⟩
        · have HE := Lib.hid (show l.take k = l from List.take_of_length_le (by omega))
          have HROW := Lib.hid hrow
          clear hrow
          go_wp2_with fail
          go_ret
          refine ⟨_, rfl, ?_, hb⟩
          rw [HV.out]
          have := HROW.out
          rw [HE.out] at this ⊢
          exact own_mono this (Nat.le_succ _)
theorem refLeaves_any (n : Nd) (l : List Tr) (a : Option Addr) (cap : Nat) (w : World) (hbig : sizeL l + 1 ≤ 1048576) (hL : Lies 0 w.heap.size w (.slice a l.length cap) l) :
    Calls Tryd.prog 14 #[NV n (.slice a l.length cap)] w (LeafPost (leaves (.mk n l)) w) := refLeaves_to _ n l a cap w (Nat.le_refl _) hbig hL
end Go.Proofs.YtogdjgfgmdphgaaDoor.TreeW
