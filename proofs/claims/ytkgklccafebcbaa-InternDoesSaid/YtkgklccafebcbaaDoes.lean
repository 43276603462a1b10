/- InternDoes: what a round knows. -/
import Derived.Test.YtkgklccafebcbaaKnows
import Derived.Test.YtkgklccafebcbaaBackS
import Derived.Test.YtkgklccafebcbaaNil
import Derived.Deep.CutRange
import Derived.Deep.CutBlock
import Derived.Deep.RegionWith
import Derived.Deep.RegionHeld3
import Derived.Deep.DeepCutAuto
import Derived.Deep.RegionLaw
namespace Go.Proofs.Ytkgklccafebcbaa.IntW
set_option linter.unusedVariables false
open Go.RowKit Go.Maps

/-- A row of what is to be done. -/
structure OpT where
  kind : Int
  k : ByteArray
  i : Int
def OSl (w : World) (v : Value) (l : List OpT) : Prop :=
  ∃ a cap, v = .slice a l.length cap ∧ ∀ j, j < l.length → ∃ (b o : Nat) (x : OpT), a = some ⟨b, o, none⟩ ∧ w.cell? ⟨b, o + j * 3, none⟩ = some (.int .i64 x.kind) ∧ w.cell? ⟨b, o + j * 3 + 1, none⟩ = some (.string x.k) ∧ w.cell? ⟨b, o + j * 3 + 2, none⟩ = some (.int .i64 x.i) ∧ x.k.size ≤ maxLen
/-- The row's own variable. -/
def Bx (w : World) (X : Nat) (K : Int) (s : ByteArray) (I : Int) : Prop := w.heap[X]? = some (.cells #[.int .i64 K, .string s, .int .i64 I] 28 (0, 0))
theorem Bx.c0 {w : World} {X : Nat} {K : Int} {s : ByteArray} {I : Int} (h : Bx w X K s I) : w.cell? ⟨X, 0, none⟩ = some (.int .i64 K) := by simp [World.cell?, show w.heap[X]? = _ from h]
theorem Bx.c1 {w : World} {X : Nat} {K : Int} {s : ByteArray} {I : Int} (h : Bx w X K s I) : w.cell? ⟨X, 1, none⟩ = some (.string s) := by simp [World.cell?, show w.heap[X]? = _ from h]
theorem Bx.c2 {w : World} {X : Nat} {K : Int} {s : ByteArray} {I : Int} (h : Bx w X K s I) : w.cell? ⟨X, 2, none⟩ = some (.int .i64 I) := by simp [World.cell?, show w.heap[X]? = _ from h]
theorem Bx.new (w : World) (K : Int) (s : ByteArray) (I : Int) : Bx (w.alloc (.cells #[.int .i64 K, .string s, .int .i64 I] 28)) w.heap.size K s I := Array.getElem?_push_size
theorem Bx.below {w w' : World} {X : Nat} {K : Int} {s : ByteArray} {I : Int} (h : Bx w X K s I) (hb : Below w.heap.size w w') : Bx w' X K s I := (hb.block X (lt_of_heap h)).trans h
theorem Bx.but {w w' : World} {X : Nat} {K : Int} {s : ByteArray} {I : Int} (h : Bx w X K s I) {S : Nat → Prop} (hb : But w.heap.size S w w') (hS : ¬ S X) : Bx w' X K s I := (hb.block X (lt_of_heap h) hS).trans h
/-- The table, and the document's list beside it. -/
structure Sep (w W : World) (p m : Nat) (v : Value) (ss : List ByteArray) (mv : Value) (tt : List ByteArray) (N : Nat) : Prop where
  o : OwnS w W p m v (ss.map .string) N
  r : StrRow W mv tt
  a : ∀ g, mv.ownBlock = some g → ¬ Bl p m v g
theorem StrRow.below {W W' : World} {mv : Value} {tt : List ByteArray} (h : StrRow W mv tt) (hb : Below W.heap.size W W') : StrRow W' mv tt := owns_below h hb
theorem StrRow.lt {W : World} {mv : Value} {tt : List ByteArray} (h : StrRow W mv tt) {g : Nat} (hg : mv.ownBlock = some g) : g < W.heap.size := (World.ownsRow.lt h g hg).2
theorem Sep.next {w W W' : World} {p m : Nat} {v : Value} {ss : List ByteArray} {mv : Value} {tt : List ByteArray} {N : Nat} (h : Sep w W p m v ss mv tt N) (hb : Below W.heap.size W W') : Sep w W' p m v ss mv tt N :=
  ⟨h.o.next hb, StrRow.below h.r hb, h.a⟩
theorem Sep.write {w W W' : World} {p m : Nat} {v v' : Value} {ss ss' : List ByteArray} {mv : Value} {tt : List ByteArray} {N N' : Nat} (h : Sep w W p m v ss mv tt N) (hT : TblS W' p m v' (ss'.map .string) N') (hb : But W.heap.size (Bl p m v) W W') (hv : ∀ c, v'.ownBlock = some c → v.ownBlock = some c ∨ W.heap.size ≤ c) : Sep w W' p m v' ss' mv tt N' := by
  refine ⟨h.o.write hT hb hv, owns_but h.r hb (fun g hg => ⟨StrRow.lt h.r hg, h.a g hg⟩), fun g hg hs => ?_⟩
  have hlt := StrRow.lt h.r hg
  rcases hs with rfl | rfl | hs
  · exact h.a _ hg (.inl rfl)
  · exact h.a _ hg (.inr (.inl rfl))
  · rcases hv g hs with h1 | h1
    · exact h.a g hg (.inr (.inr h1))
    · omega
/-- The document's list is another one. -/
theorem Sep.turn {w W W' : World} {p m : Nat} {v : Value} {ss : List ByteArray} {mv mv' : Value} {tt tt' : List ByteArray} {N : Nat} (h : Sep w W p m v ss mv tt N) (hb : Below W.heap.size W W') (hr : StrRow W' mv' tt') (ha : ∀ g, mv'.ownBlock = some g → mv.ownBlock = some g ∨ W.heap.size ≤ g) : Sep w W' p m v ss mv' tt' N :=
  ⟨h.o.next hb, hr, fun g hg hs => by
    rcases ha g hg with h1 | h1
    · exact h.a g h1 hs
    · have := h.o.tbl.lt hs; omega⟩
theorem ix_str {ss : List ByteArray} {s : ByteArray} {i : Int} (h : Ix (ss.map Value.string) (.string s) i) : (0 ≤ i ∧ s ∈ ss) ∨ (i = -1 ∧ s ∉ ss) := by
  rcases h with ⟨j, rfl, hj⟩ | ⟨rfl, hn⟩
  · have := List.mem_of_getElem? hj
    simp at this
    exact .inl ⟨by omega, this⟩
  · simp at hn
    exact .inr ⟨rfl, hn⟩
theorem mem_str {ss : List ByteArray} {s : ByteArray} : Value.string s ∈ ss.map Value.string ↔ s ∈ ss := by simp
theorem step_append_strs {w : World} {ops : Array Oper} {o : Oper} {a : Act} {K : Act → World → Prop} {Q : Exit → Act → World → Prop} {E : Prop} (hgd : o.guard = none) (sl x : Operand)
    (ho : o.op = .call { callee := .builtin .append, args := #[sl, x], argTypes := #[26, 26] })
    (base : Nat) (v : Value) (l : List ByteArray) (hs : a.eval sl = v) (hown : w.ownsRow base 9 1 v l.length (l.map .string))
    (va : Value) (ss : List ByteArray) (hx : a.eval x = va) (hb : SS2 w va ss) (hbytes : l.length + ss.length ≤ 1000000) (hbase : base ≤ w.heap.size)
    (h : ∀ v' w', w'.ownsRow base 9 1 v' (l ++ ss).length ((l ++ ss).map .string) → w.grownBy w' v.ownBlock → K (a.put o.dst v') w') :
    if Region.wanted o (yielded ops a.tmps) = true then Oper.wp Try.prog o a w K Q else E := by
  have hw : Region.wanted o (yielded ops a.tmps) = true := by simp [Region.wanted, hgd]
  rw [if_pos hw]
  obtain ⟨i0, hi, hz0, hz1, hz2⟩ := info_parts infoS
  rcases hb with ⟨rfl, rfl⟩ | ⟨g, cap, rfl, hcap, hc⟩
  · have hrun := run_append_owned_none (P := Try.prog) (w := w) base 26 o.type 9 i0 1 Try.underlying26 hi v l.length _ hown
    unfold Oper.wp
    simp [execOp, ho, resolve, invoke, builtin, hs, hx, hrun, Result.andThen]
    exact h v w (by rw [List.append_nil]; exact hown) ⟨rfl, rfl, rfl, Nat.le_refl _, fun _ _ _ => rfl⟩
  · obtain ⟨v', w', hrun, h2, h3, _⟩ := run_append_own_at (P := Try.prog) w base 26 o.type 9 i0 (.string ⟨#[]⟩) 1 16 Try.underlying26 hi hz0 hz1 hz2 rfl (by decide) v l.length (l.map .string) hown ⟨g, 0, none⟩ ss.length cap (ss.map .string) (by simp) (cells_strs hc) (one_strs ss) (by unfold maxLen; omega) (by omega) hbase
    unfold Oper.wp execOp
    simp only [ho, resolve, invoke, builtin, Sem.run_bind, Sem.run_pure, Result.andThen_ok, List.map_toArray, List.map_cons, List.map_nil, hs, hx, hrun]
    exact h v' w' (by rw [List.length_append, List.map_append]; exact h2) h3
theorem step_app {W w : World} {N : Nat} {ops : Array Oper} {o : Oper} {a : Act} {K : Act → World → Prop} {Q : Exit → Act → World → Prop} {E : Prop} (hgd : o.guard = none) (sl x : Operand)
    (ho : o.op = .call { callee := .builtin .append, args := #[sl, x], argTypes := #[26, 26] })
    (v : Value) (l : List ByteArray) (hs : a.eval sl = v) (hR : w.ownsRow N 9 1 v l.length (l.map .string) ∧ Below N W w)
    (va : Value) (ss : List ByteArray) (hx : a.eval x = va) (hb : SS2 w va ss) (hbytes : l.length + ss.length ≤ 1000000) (hN : N ≤ W.heap.size)
    (h : ∀ v' w', w'.ownsRow N 9 1 v' (l ++ ss).length ((l ++ ss).map .string) ∧ Below N W w' → w.grownBy w' v.ownBlock → K (a.put o.dst v') w') :
    if Region.wanted o (yielded ops a.tmps) = true then Oper.wp Try.prog o a w K Q else E :=
  step_append_strs hgd sl x ho N v l hs hR.1 va ss hx hb hbytes (Nat.le_trans hN hR.2.size) fun v' w' h1 h2 => h v' w' ⟨h1, hR.2.grown h2 (Nat.le_trans hN hR.2.size) (fun k e => (World.ownsRow.lt hR.1 k e).1)⟩ h2
theorem ss2_grown {w w' : World} {g : Nat} {s : ByteArray} {row : Option Nat} (h : SS2 w (.slice (some ⟨g, 0, none⟩) 1 1) [s]) (hg : w.grownBy w' row) (hne : some g ≠ row) : SS2 w' (.slice (some ⟨g, 0, none⟩) 1 1) [s] := by
  rcases h with ⟨h, _⟩ | ⟨g', cap, h1, h2, h3⟩
  · simp at h
  · simp at h1
    obtain ⟨rfl, rfl⟩ := h1
    refine .inr ⟨g, 1, rfl, h2, fun j hj => ?_⟩
    have h4 := h3 j hj
    rw [← h4]
    exact World.cell?_of_block (a := ⟨g, j, none⟩) (hg.block g (World.block_lt_of_cell? _ _ h4) hne)
theorem ss2_one (w : World) (s : ByteArray) : SS2 (w.alloc (.cells #[.string s] 9)) (.slice (some ⟨w.heap.size, 0, none⟩) 1 1) [s] :=
  .inr ⟨w.heap.size, 1, rfl, by simp, fun j hj => by
    obtain rfl : j = 0 := by simpa using hj
    simp⟩
theorem ix_ex (ss : List ByteArray) (s : ByteArray) : ∃ i, Ix (ss.map Value.string) (.string s) i := by
  by_cases h : (Value.string s) ∈ ss.map Value.string
  · obtain ⟨j, hj⟩ := List.mem_iff_getElem?.1 h
    exact ⟨j, .inl ⟨j, rfl, hj⟩⟩
  · exact ⟨-1, .inr ⟨rfl, h⟩⟩
theorem Sep.mono {w W : World} {p m : Nat} {v : Value} {ss : List ByteArray} {mv : Value} {tt : List ByteArray} {N N' : Nat} (h : Sep w W p m v ss mv tt N) (hN : N ≤ N') : Sep w W p m v ss mv tt N' :=
  ⟨⟨h.o.tbl.mono hN, h.o.b, h.o.new⟩, h.r, h.a⟩
theorem FindSS {w W : World} {p m : Nat} {v : Value} {ss : List ByteArray} {N : Nat} (h : OwnS w W p m v (ss.map .string) N) {s : ByteArray} (hs : s.size ≤ maxLen) {i : Int} (hi : Ix (ss.map Value.string) (.string s) i) :
    Calls Try.prog 10 #[.pointer (some ⟨p, 0, none⟩), .string s] W fun e w' => e = .returned (.int .i64 i) ∧ Below W.heap.size W w' := by
  refine (FindS s hs h.tbl).mono ?_
  rintro e w' ⟨i', hi', rfl, hb⟩
  rw [hi'.one h.tbl.dist hi]
  exact ⟨rfl, hb⟩
theorem refFindSS {W : World} {v : Value} {ss : List ByteArray} {s : ByteArray} (h : SSl W v ss) (hl : ss.length ≤ 1000000) (hd : (ss.map Value.string).Nodup) {i : Int} (hi : Ix (ss.map Value.string) (.string s) i) :
    Calls Try.prog 9 #[v, .string s] W fun e w' => e = .returned (.int .i64 i) ∧ w' = W := by
  refine (refFindS s h hl).mono ?_
  rintro e w' ⟨i', hi', rfl, rfl⟩
  rw [hi'.one hd hi]
  exact ⟨rfl, rfl⟩
theorem LenSS {w W : World} {p m : Nat} {v : Value} {ss : List ByteArray} {N : Nat} (h : OwnS w W p m v (ss.map .string) N) :
    Calls Try.prog 14 #[.pointer (some ⟨p, 0, none⟩)] W fun e w' => e = .returned (.int .i64 ss.length) ∧ w' = W := by
  have := LenS h.tbl
  rwa [List.length_map] at this
theorem KeysSS {w W : World} {p m : Nat} {v : Value} {ss : List ByteArray} {N : Nat} (h : OwnS w W p m v (ss.map .string) N) (hN : N ≤ 1000001) :
    Calls Try.prog 16 #[.pointer (some ⟨p, 0, none⟩)] W fun e w' => ∃ kv, e = .returned kv ∧ SSl w' kv ss ∧ Below W.heap.size W w' := by
  refine (KeysS h.tbl hN).mono ?_
  rintro e w' ⟨kv, rfl, hr, hb⟩
  rw [List.length_map] at hr
  exact ⟨kv, rfl, ssl_of hr, hb⟩
theorem Sep.len {w W : World} {p m : Nat} {v : Value} {ss : List ByteArray} {mv : Value} {tt : List ByteArray} {N : Nat} (h : Sep w W p m v ss mv tt N) : ss.length ≤ N := by
  have := h.o.tbl.len
  rwa [List.length_map] at this
set_option maxRecDepth 100000 in
set_option maxHeartbeats 8000000 in
theorem Does_main (v : Value) (l : List OpT) (w : World) (hl : OSl w v l) (h80 : l.length ≤ 80) :
    Calls Try.prog 3 #[v] w fun e w' => e = .returned (.bool true) ∧ Below w.heap.size w w' := by
  obtain ⟨a, cap, rfl, hc⟩ := hl
  have HC := Lib.hid hc
  clear hc
  generalize hk : l.length = k at *
  have HK := Lib.hid hk
  clear hk
  have h1 : ¬ (80 : Int) < (k : Int) := by omega
  go_enter Try.func3, Try.ntmps3
  go_wp2_with fail
  refine (NewS _).mono ?_
  rintro e w1 ⟨p, m, rfl, hp, hm, hT, hb⟩
  have H1 := Lib.hid (Own.made hT hb hp hm)
  clear hT hb hp hm
  have hal : Below w1.heap.size w1 (w1.alloc (.cells #[] 9)) := (Below.refl _ w1).alloc (Nat.le_refl _) _
  have hrow := World.ownsRow_lit (base := 0) (e := 9) (size := 1) w1 #[] 0 (Nat.zero_le _) (by unfold maxLen; omega) rfl
  have H2 := Lib.hid (show Sep w (w1.alloc (.cells #[] 9)) p m (.slice none 0 0) [] (.slice (some ⟨w1.heap.size, 0, none⟩) 0 0) [] 0 from ⟨H1.out.next hal, hrow, fun g hg hs => by
    simp [Value.ownBlock] at hg
    have := H1.out.tbl.lt hs
    omega⟩)
  clear hal hrow H1
  go_wp2_with fail
  go_loopw [4, 5] (fun mv i wr => ∃ j : Nat, j ≤ k ∧ i = .int .i64 j ∧ ∃ v ss, Sep w wr p m v ss mv ss j) (fun _ i _ => k - (intOf i).toNat)
  case atStart => exact ⟨0, Nat.zero_le _, rfl, _, _, H2.out⟩
  case round =>
    obtain ⟨j, hj, rfl, v, ss, hR⟩ := hrel
    by_cases hlt : j < k
    · obtain ⟨b, o, x, rfl, hc0, hc1, hc2, hxs⟩ := HC.out j hlt
      obtain ⟨K, s, I⟩ := x
      simp only at hc0 hc1 hc2 hxs
      have e0 := (hR.o.b.cell (p := ⟨b, o + j * 3, none⟩) (World.block_lt_of_cell? _ _ hc0)).trans hc0
      have e1 := (hR.o.b.cell (p := ⟨b, o + j * 3 + 1, none⟩) (World.block_lt_of_cell? _ _ hc1)).trans hc1
      have e2 := (hR.o.b.cell (p := ⟨b, o + j * 3 + 2, none⟩) (World.block_lt_of_cell? _ _ hc2)).trans hc2
      have HR := Lib.hid hR
      clear hR hc0 hc1 hc2 H2
      go_upto_block 2 with fail
      have hal : Below wr.heap.size wr (wr.alloc (.cells #[.int .i64 K, .string s, .int .i64 I] 28)) := (Below.refl _ wr).alloc (Nat.le_refl _) _
      have HR0 := Lib.hid (HR.out.next hal)
      have HX0 := Lib.hid (Bx.new wr K s I)
      have HNB := Lib.hid (show ¬ Bl p m v wr.heap.size from fun h => by have := HR.out.o.tbl.lt h; omega)
      clear hal HR e0 e1 e2
      generalize wr.alloc (.cells #[.int .i64 K, .string s, .int .i64 I] 28) = W0 at *
      generalize wr.heap.size = X at *
      go_cut [4, 7, 8, 9, 10, 11] from 26 to 145 (fun mv _ _ _ _ _ wx => ∃ v' ss', Sep w wx p m v' ss' mv ss' (j + 1))
      case first =>
        have b0 := HX0.out.c0
        go_upto_if 46 with fail
        go_cut [37, 46] from 26 to 145 (fun kd t wx => kd = .int .i64 K ∧ t = .bool (K == 0 || (K == 1 || K == 2)) ∧ wx = W0)
        case first =>
          by_cases k0 : K = 0
          · subst k0
            go_wp2_with fail
            go_meet
            exact ⟨rfl, rfl, rfl⟩
          · by_cases k1 : K = 1
            · subst k1
              go_wp2_with fail
              go_meet
              exact ⟨rfl, rfl, rfl⟩
            · by_cases k2 : K = 2
              · subst k2
                go_wp2_with fail
                go_meet
                exact ⟨rfl, rfl, rfl⟩
              · have q0 : (K == 0) = false := by simpa using k0
                have q1 : (K == 1) = false := by simpa using k1
                have q2 : (K == 2) = false := by simpa using k2
                go_wp2_with fail
                go_meet
                exact ⟨rfl, by simp [q0, q1, q2], rfl⟩
        case rest =>
          obtain ⟨rfl, rfl, rfl⟩ := hcut
          generalize hB : (K == 0 || (K == 1 || K == 2)) = B at *
          cases B
          · have x1 := HX0.out.c1
            have x2 := HX0.out.c2
            have hl := HR0.out.len
            obtain ⟨am, cm, rfl, hcm⟩ := ssl_of HR0.out.r
            by_cases k3 : K = 3
            · subst k3
              obtain ⟨i0, hi0⟩ := ix_ex ss s
              have HFS := Lib.hid (fun (W : World) (h : Below wc.heap.size wc W) => FindSS (HR0.out.next h).o hxs hi0)
              have HRF := Lib.hid (fun (W : World) (h : Below wc.heap.size wc W) => refFindSS (ssl_of (HR0.out.next h).r) (by omega) HR0.out.o.tbl.dist hi0)
              have HBX := Lib.hid (fun (Z : World) (h : Below wc.heap.size wc Z) => (HX0.out.below h).c1)
              clear hi0 hcm x2
              go_wp2_with fail
              go_region_held3 (fun Z => Z.cell? ⟨X, 1, none⟩ = some (.string s)) (first | (exact HBX.out _ (Below.refl _ _).drew) | (exact HBX.out _ ((Below.refl _ _).drew.trans hb3)))
                (first | (go_at_call 10; refine (HFS.out _ (Below.refl _ _).drew).mono ?_; rintro e w3 ⟨rfl, hb3⟩) | (go_at_call 9; refine (HRF.out _ (Below.refl _ _).drew).mono ?_; rintro e w5 ⟨rfl, rfl⟩) | (go_at_call 9; refine (HRF.out _ ((Below.refl _ _).drew.trans hb3)).mono ?_; rintro e w5 ⟨rfl, rfl⟩))
              all_goals
                go_wp2_with fail
                go_meet
                exact ⟨_, _, ((HR0.out.next (Below.refl _ _).drew).next hb3).mono (by omega)⟩
            · by_cases k4 : K = 4
              · subst k4
                have HKEY := Lib.hid (KeyS I HR0.out.o.tbl)
                have HCM := Lib.hid hcm
                clear hcm x1
                go_wp2_with fail
                refine HKEY.out.mono ?_
                rintro e w' ⟨hk, rfl⟩
                rcases hk with ⟨jj, x, rfl, hx, rfl⟩ | ⟨hk, rfl⟩
                · obtain ⟨hjj, hxe⟩ : jj < ss.length ∧ x = .string (ss.getD jj ByteArray.empty) := by
                    obtain ⟨h1, h2⟩ := List.getElem?_eq_some_iff.1 hx
                    rw [List.length_map] at h1
                    exact ⟨h1, by rw [← h2]; simp [List.getD, h1]⟩
                  subst hxe
                  obtain ⟨bm, rfl, hcell⟩ := HCM.out jj hjj
                  generalize ss.getD jj ByteArray.empty = y at *
                  have g0 : decide ((0 : Int) ≤ (jj : Int)) = true := by simp
                  have g1 : decide ((jj : Int) < (ss.length : Int)) = true := by simp; exact hjj
                  have g2 : (y.toList != y.toList) = false := by simp
                  have g3 : (0 : Int) ≤ (jj : Int) ∧ (jj : Int) < (ss.length : Int) := by omega
                  clear hx HKEY
                  go_wp2_with fail
                  go_meet
                  exact ⟨_, _, HR0.out.mono (by omega)⟩
                · by_cases hI : I < 0
                  · have g0 : decide ((0 : Int) ≤ I) = false := by simp; exact hI
                    clear HKEY hk
                    go_wp2_with fail
                    go_meet
                    exact ⟨_, _, HR0.out.mono (by omega)⟩
                  · have g0 : decide ((0 : Int) ≤ I) = true := by simp; omega
                    have g1 : decide (I < (ss.length : Int)) = false := by
                      simp; rcases hk with hk | hk
                      · omega
                      · simpa using hk
                    clear HKEY hk
                    go_wp2_with fail
                    go_meet
                    exact ⟨_, _, HR0.out.mono (by omega)⟩
              · have q3 : (K == 3) = false := by simpa using k3
                have q4 : (K == 4) = false := by simpa using k4
                clear hcm x1
                go_wp2_with fail
                refine (BackS I HR0.out.o.tbl (by omega)).mono ?_
                rintro e w3 ⟨rfl, v3, hT, hb, hv⟩
                rw [← List.map_take] at hT
                have HX3 := Lib.hid (HX0.out.but hb HNB.out)
                have HR3 := Lib.hid (HR0.out.write hT hb hv)
                clear hT hb hv x2 b0 HR0 HX0 HNB
                have x3 := HX3.out.c2
                go_wp2_with fail
                refine (refBackS I HR3.out.r (by omega)).mono ?_
                rintro e w4 ⟨mv', rfl, hr, ha, hb⟩
                have HR4 := Lib.hid (HR3.out.turn hb hr ha)
                clear hr ha hb HR3 x3
                go_wp2_with fail
                go_meet
                exact ⟨_, _, HR4.out.mono (by omega)⟩
          · have x1 := HX0.out.c1
            have b1 := HX0.out.c1
            go_wp2_with fail
            refine (PutS s hxs HR0.out.o.tbl (by omega)).mono ?_
            rintro e w3 ⟨v3, l3, i3, is, rfl, hT, hb, hv, hst⟩
            have HX3 := Lib.hid (HX0.out.but hb HNB.out)
            rcases hst with ⟨hin, rfl, rfl, hix⟩ | ⟨hin, rfl, rfl, rfl⟩
            · have HR3 := Lib.hid (HR0.out.write hT hb hv)
              have HIX := Lib.hid hix; have HIN := Lib.hid (mem_str.1 hin); have HD := Lib.hid hT.dist
              clear hT hb hv hix hin x1 b1 HR0 HX0 HNB
              have x1 := HX3.out.c1
              have hl := HR3.out.len
              obtain ⟨am, cm, rfl, _⟩ := ssl_of HR3.out.r
              have HF := Lib.hid (refFindS s (ssl_of HR3.out.r) (by omega))
              go_wp2_with fail
              refine HF.out.mono ?_
              rintro e w' ⟨i4, hi4, rfl, rfl⟩
              obtain rfl : i4 = i3 := hi4.one HD.out HIX.out
              clear hi4
              have hge : decide (i4 < 0) = false := by
                rcases ix_str HIX.out with ⟨h, _⟩ | ⟨_, h⟩
                · simp; omega
                · exact absurd HIN.out h
              go_wp2_with fail
              refine HF.out.mono ?_
              rintro e w' ⟨i5, hi5, rfl, rfl⟩
              obtain rfl : i5 = i4 := hi5.one HD.out HIX.out
              clear hi5
              go_wp2_with fail
              go_meet
              exact ⟨_, _, HR3.out⟩
            · rw [show ss.map Value.string ++ [Value.string s] = (ss ++ [s]).map Value.string by simp] at hT
              have HR3 := Lib.hid (HR0.out.write hT hb hv)
              have HD := Lib.hid hT.dist
              have HNI := Lib.hid (show s ∉ ss from fun h => hin (mem_str.2 h))
              have hlen := HR0.out.len
              clear hT hb hv x1 b1 HR0 HX0 HNB
              have x1 := HX3.out.c1
              obtain ⟨am, cm, rfl, _⟩ := ssl_of HR3.out.r
              have HF := Lib.hid (refFindS s (ssl_of HR3.out.r) (by omega))
              go_wp2_with fail
              refine HF.out.mono ?_
              rintro e w' ⟨i4, hi4, rfl, rfl⟩
              obtain rfl : i4 = -1 := by
                rcases ix_str hi4 with ⟨_, h⟩ | ⟨h, _⟩
                · exact absurd h HNI.out
                · exact h
              clear hi4 HF
              have HS0 := Lib.hid (ss2_of HR3.out.r)
              go_wp2_with fail
              go_cut [4] from 26 to 145 (fun mv wx => wx.ownsRow w'.heap.size 9 1 mv (ss ++ [s]).length ((ss ++ [s]).map .string) ∧ Below w'.heap.size w' wx)
              case first =>
                have hNN : w'.heap.size ≤ w'.heap.size := Nat.le_refl _
                have B1 : Below w'.heap.size w' (w'.alloc (.cells #[] 9)) := (Below.refl _ w').alloc (Nat.le_refl _) _
                have A1 := World.ownsRow_lit (base := w'.heap.size) (e := 9) (size := 1) w' #[] 0 (Nat.le_refl _) (by unfold maxLen; omega) rfl
                have R1 := Lib.hid (show (w'.alloc (.cells #[] 9)).drew.ownsRow w'.heap.size 9 1 (.slice (some ⟨w'.heap.size, 0, none⟩) 0 0) 0 [] ∧ Below w'.heap.size w' (w'.alloc (.cells #[] 9)).drew from ⟨A1, B1.drew⟩)
                have R2 := Lib.hid (show ((w'.alloc (.cells #[] 9)).alloc (.cells #[.string s] 9)).drew.ownsRow w'.heap.size 9 1 (.slice (some ⟨w'.heap.size, 0, none⟩) 0 0) 0 [] ∧ Below w'.heap.size w' ((w'.alloc (.cells #[] 9)).alloc (.cells #[.string s] 9)).drew from ⟨A1.alloc _, (B1.alloc (by simp) _).drew⟩)
                have A3 := World.ownsRow_lit (base := w'.heap.size) (e := 9) (size := 1) (w'.alloc (.cells #[.string s] 9)) #[] 0 (by simp) (by unfold maxLen; omega) rfl
                rw [World.size_alloc] at A3
                have R3 := Lib.hid (show ((w'.alloc (.cells #[.string s] 9)).alloc (.cells #[] 9)).drew.ownsRow w'.heap.size 9 1 (.slice (some ⟨w'.heap.size + 1, 0, none⟩) 0 0) 0 [] ∧ Below w'.heap.size w' ((w'.alloc (.cells #[.string s] 9)).alloc (.cells #[] 9)).drew from ⟨A3, (((Below.refl _ w').alloc (Nat.le_refl _) _).alloc (by simp) _).drew⟩)
                have O2' := ss2_one (w'.alloc (.cells #[] 9)) s
                rw [World.size_alloc] at O2'
                have O2 := Lib.hid (show SS2 ((w'.alloc (.cells #[] 9)).alloc (.cells #[.string s] 9)).drew (.slice (some ⟨w'.heap.size + 1, 0, none⟩) 1 1) [s] from O2')
                have O3 := Lib.hid (show SS2 ((w'.alloc (.cells #[.string s] 9)).alloc (.cells #[] 9)).drew (.slice (some ⟨w'.heap.size, 0, none⟩) 1 1) [s] from (ss2_one w' s).below ((Below.refl _ _).alloc (Nat.le_refl _) _).drew)
                have L1 := Lib.hid (show ([] : List ByteArray).length + ss.length ≤ 1000000 by simp; omega)
                have L2 := Lib.hid (show ([] ++ ss : List ByteArray).length + [s].length ≤ 1000000 by simp; omega)
                have HBX := Lib.hid (fun (Z : World) (h : Below w'.heap.size w' Z) => (HX3.out.below h).c1)
                have x2 := HBX.out _ B1
                clear B1 A1 A3 O2'
                go_region_law (first
                  | (refine step_app rfl (.tmp 63) (.tmp 64) rfl (.slice (some ⟨w'.heap.size, 0, none⟩) 0 0) [] rfl R1.out _ ss rfl (HS0.out.below R1.out.2) L1.out (Nat.le_refl _) ?_; intro v5 w5 hR5 hg5; have HR5 := Lib.hid hR5; have y5 := HBX.out _ hR5.2; clear hR5 hg5)
                  | (refine step_app rfl (.tmp 63) (.tmp 64) rfl (.slice (some ⟨w'.heap.size, 0, none⟩) 0 0) [] rfl R2.out _ ss rfl (HS0.out.below R2.out.2) L1.out (Nat.le_refl _) ?_; intro v5 w5 hR5 hg5; have HR5 := Lib.hid hR5; have HO5 := Lib.hid (ss2_grown O2.out hg5 (by simp [Value.ownBlock])); clear hR5 hg5)
                  | (refine step_app rfl (.tmp 63) (.tmp 64) rfl (.slice (some ⟨w'.heap.size + 1, 0, none⟩) 0 0) [] rfl R3.out _ ss rfl (HS0.out.below R3.out.2) L1.out (Nat.le_refl _) ?_; intro v5 w5 hR5 hg5; have HR5 := Lib.hid hR5; have HO5 := Lib.hid (ss2_grown O3.out hg5 (by simp [Value.ownBlock])); clear hR5 hg5)
                  | (refine step_app rfl (.tmp 65) (.tmp 68) rfl v5 ([] ++ ss) rfl HR5.out _ [s] rfl HO5.out L2.out (Nat.le_refl _) ?_; intro v6 w6 hR6 hg6; have HR6 := Lib.hid hR6; clear hR6 hg6)
                  | (refine step_app rfl (.tmp 65) (.tmp 68) rfl v5 ([] ++ ss) rfl ⟨HR5.out.1.alloc _, HR5.out.2.alloc HR5.out.2.size _⟩ _ [s] rfl (ss2_one _ s) L2.out (Nat.le_refl _) ?_; intro v6 w6 hR6 hg6; have HR6 := Lib.hid hR6; clear hR6 hg6))
                all_goals
                  go_wp2_with fail
                  go_meet
                  exact HR6.out
              case rest =>
                obtain ⟨hr6, hb6⟩ := hcut
                have HIX := Lib.hid (show Ix ((ss ++ [s]).map Value.string) (.string s) (ss.length : Nat) from .inl ⟨ss.length, rfl, by simp⟩)
                have hr7 := HR3.out.turn hb6 (owns_zero hr6 (Nat.zero_le _)) (fun g hg => .inr (World.ownsRow.lt hr6 g hg).1)
                have hx7 := (HX3.out.below hb6).c1
                clear hr6 hb6 HR3 HX3 HS0 x1
                obtain ⟨tt, htt⟩ : ∃ tt, tt = ss ++ [s] := ⟨_, rfl⟩
                rw [← htt] at HIX hr7 HD
                have hltt := hr7.len
                have HR7 := Lib.hid hr7
                clear htt hr7
                generalize (ss.length : Nat) = i0 at *
                obtain ⟨am', cm', rfl, _⟩ := ssl_of HR7.out.r
                have HF := Lib.hid (refFindSS (ssl_of HR7.out.r) (by omega) HD.out HIX.out)
                go_wp2_with fail
                refine HF.out.mono ?_
                rintro e w8 ⟨rfl, rfl⟩
                go_wp2_with fail
                go_meet
                exact ⟨_, _, HR7.out⟩
      case rest =>
        clear HR0 HX0 HNB
        obtain ⟨v', ss', hR⟩ := hcut
        obtain ⟨am, cm, rfl, _⟩ := ssl_of hR.r
        have HR := Lib.hid hR
        have hl := hR.len
        clear hR
        go_wp2_with fail
        refine (LenSS HR.out.o).mono ?_
        rintro e w' ⟨rfl, rfl⟩
        go_wp2_with fail
        refine (KeysSS HR.out.o (by omega)).mono ?_
        rintro e w4 ⟨kv, rfl, hkv, hb⟩
        have HR4 := Lib.hid (HR.out.next hb); have HKV := Lib.hid hkv
        clear hb hkv HR
        go_wp2_with fail
        refine (refSameS HKV.out (ssl_of HR4.out.r) (by omega)).mono ?_
        rintro e w5 ⟨rfl, hb⟩
        have HR5 := Lib.hid (HR4.out.next hb)
        clear hb HR4
        go_wp2_with fail
        exact ⟨⟨j + 1, by omega, rfl, _, _, HR5.out⟩, by simp [intOf]; omega⟩
    · have hjk : j = k := by omega
      have HR := Lib.hid hR
      clear hR H2
      go_wp2_with fail
      refine (knows_any _).mono ?_
      rintro e w4 ⟨rfl, hb⟩
      have HB4 := Lib.hid (HR.out.o.b.trans (hb.mono HR.out.o.b.size))
      clear hb HR
      go_wp2_with fail
      go_ret
      exact ⟨rfl, HB4.out⟩
end Go.Proofs.Ytkgklccafebcbaa.IntW
