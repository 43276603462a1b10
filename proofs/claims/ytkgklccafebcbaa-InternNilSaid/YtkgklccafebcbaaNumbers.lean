/- InternNumbers. -/
import Derived.Test.YtkgklccafebcbaaTwo
namespace Go.Proofs.Ytkgklccafebcbaa.IntW
set_option linter.unusedVariables false
open Go.RowKit Go.Maps

theorem isl_shape {w : World} {v : Value} {l : List Int} (h : Base.ISl .i64 w v l) : ∃ a cap, v = .slice a l.length cap ∧ (∀ x ∈ l, (Lit.int .i64 x).wf = true) ∧ ∀ j, j < l.length → ∃ b o, a = some ⟨b, o, none⟩ ∧ w.cell? ⟨b, o + j, none⟩ = some (.int .i64 (l.getD j 0)) := by
  rcases h with ⟨a, rfl, rfl⟩ | ⟨b, o, cap, rfl, _, _, hc, hw⟩
  · exact ⟨a, 0, rfl, fun x hx => by simp at hx, fun j hj => by simp at hj⟩
  · exact ⟨_, cap, rfl, hw, fun j hj => ⟨b, o, rfl, by rw [hc j hj]; simp [hj]⟩⟩
theorem KeyI_at {lt : List Value} {x : Int} {l0 : List Value} {i : Int} {is : Bool} (hs : Stp l0 (.int .i64 x) lt i is) {w : World} {p m : Nat} {v : Value} {N : Nat} (h : TblI w p m v lt N) :
    Calls Try.prog 21 #[.pointer (some ⟨p, 0, none⟩), .int .i64 i] w fun e w' => e = .returned (.tuple #[.int .i64 x, .bool true]) ∧ w' = w := by
  obtain ⟨j, rfl, hj, hlt⟩ := hs.mem
  refine (KeyI j h).mono ?_
  rintro e w' ⟨h1 | h1, rfl⟩
  · obtain ⟨j', x', e1, e2, rfl⟩ := h1
    have : j = j' := by omega
    subst this
    rw [hj] at e2
    cases e2
    exact ⟨rfl, rfl⟩
  · omega
theorem FindI_at {lt : List Value} {x : Int} (hx : (Lit.int .i64 x).wf = true) {l0 : List Value} {i : Int} {is : Bool} (hs : Stp l0 (.int .i64 x) lt i is) {w : World} {p m : Nat} {v : Value} {N : Nat} (h : TblI w p m v lt N) :
    Calls Try.prog 22 #[.pointer (some ⟨p, 0, none⟩), .int .i64 x] w fun e w' => e = .returned (.int .i64 i) ∧ Below w.heap.size w w' := by
  refine (FindI x hx h).mono ?_
  rintro e w' ⟨i', hi, rfl, hb⟩
  rw [hi.one h.dist hs.ix]
  exact ⟨rfl, hb⟩
theorem FindP_at {lt : List Value} {x y : Int} (hx : (Lit.int .i64 x).wf = true) (hy : (Lit.int .i64 y).wf = true) {l0 : List Value} {i : Int} {is : Bool} (hs : Stp l0 (.agg #[.int .i64 x, .int .i64 y]) lt i is) {w : World} {p m : Nat} {v : Value} {N : Nat} (h : TblP w p m v lt N) :
    Calls Try.prog 25 #[.pointer (some ⟨p, 0, none⟩), .agg #[.int .i64 x, .int .i64 y]] w fun e w' => e = .returned (.int .i64 i) ∧ Below w.heap.size w w' := by
  refine (FindP x y hx hy h).mono ?_
  rintro e w' ⟨i', hi, rfl, hb⟩
  rw [hi.one h.dist hs.ix]
  exact ⟨rfl, hb⟩
theorem nth_int {lt : List Value} (h : ∀ x ∈ lt, ∃ lx, keyOf Try.prog 3 x = some lx) {k : Nat} (hk : k < lt.length) : ∃ y, lt[k]? = some (.int .i64 y) ∧ (Lit.int .i64 y).wf = true := by
  obtain ⟨lx, hx⟩ := h _ (List.getElem_mem hk)
  obtain ⟨y, hy, hw⟩ := key_int hx
  exact ⟨y, by rw [List.getElem?_eq_getElem hk, hy], hw⟩
theorem FindI_kth {lt : List Value} {x : Int} (hx : (Lit.int .i64 x).wf = true) {k : Nat} (hk : lt[k]? = some (.int .i64 x)) {w : World} {p m : Nat} {v : Value} {N : Nat} (h : TblI w p m v lt N) :
    Calls Try.prog 22 #[.pointer (some ⟨p, 0, none⟩), .int .i64 x] w fun e w' => e = .returned (.int .i64 k) ∧ Below w.heap.size w w' := by
  refine (FindI x hx h).mono ?_
  rintro e w' ⟨i', hi, rfl, hb⟩
  rw [hi.one h.dist (.inl ⟨k, rfl, hk⟩)]
  exact ⟨rfl, hb⟩
theorem last_wrap {l l' : List Value} {x : Value} {i : Int} (h : Stp l x l' i true) (hl : l'.length ≤ 1000000) : IntKind.i64.wrap ((l'.length : Int) - 1) = i := by
  have h1 := h.last rfl
  obtain ⟨j, e, _, h2⟩ := h.mem
  rw [IntKind.wrap_i64]
  omega
set_option maxHeartbeats 2000000 in
theorem Numbers_long (a : Option Addr) (L cap : Nat) (hL : 200 < L) (w : World) :
    Calls Try.prog 4 #[.slice a L cap] w fun e w' => e = .returned (.bool true) ∧ Below w.heap.size w w' := by
  have h1 : (200 : Int) < (L : Int) := by omega
  go_enter Try.func4, Try.ntmps4
  go_wp2_with fail
  refine (NewI _).mono ?_
  rintro e w1 ⟨p, m, rfl, hp, hm, hT, hb⟩
  have HB1 := Lib.hid hb
  clear hT hb hp hm
  go_wp2_with fail
  refine (NewP _).mono ?_
  rintro e w2 ⟨q, n, rfl, hq, hn, hU, hb⟩
  have HB2 := Lib.hid (HB1.out.trans (hb.mono HB1.out.size))
  clear hU hb hq hn HB1
  go_wp2_with fail
  refine (knows_any _).mono ?_
  rintro e w3 ⟨rfl, hb⟩
  have HB3 := Lib.hid (HB2.out.trans (hb.mono HB2.out.size))
  clear hb HB2
  go_wp2_with fail
  go_ret
  exact ⟨rfl, HB3.out⟩
set_option maxRecDepth 100000 in
set_option maxHeartbeats 4000000 in
theorem Numbers_main (v : Value) (l : List Int) (w : World) (hv : Base.ISl .i64 w v l) (hl : l.length ≤ 200) :
    Calls Try.prog 4 #[v] w fun e w' => e = .returned (.bool true) ∧ Below w.heap.size w w' := by
  obtain ⟨a, cap, rfl, hwf, hcell⟩ := isl_shape hv
  have HWF := Lib.hid hwf; have HC := Lib.hid hcell
  clear hv hwf hcell
  obtain ⟨L, hL⟩ : ∃ L, L = l.length := ⟨_, rfl⟩
  rw [← hL] at hl ⊢
  have HL := Lib.hid hL
  clear hL
  have h1 : ¬ (200 : Int) < (L : Int) := by omega
  go_enter Try.func4, Try.ntmps4
  go_wp2_with fail
  refine (NewI _).mono ?_
  rintro e w1 ⟨p, m, rfl, hp, hm, hT, hb⟩
  have H1 := Lib.hid (Own.made hT hb hp hm)
  clear hT hb hp hm
  go_wp2_with fail
  refine (NewP _).mono ?_
  rintro e w2 ⟨q, n, rfl, hq, hn, hU, hb⟩
  have H2 := Lib.hid (show Two w w2 p m (.slice none 0 0) [] q n (.slice none 0 0) [] 0 0 from ⟨H1.out.next hb, ⟨hU, H1.out.b.trans (hb.mono H1.out.b.size), fun c hc => by rcases hc with rfl | rfl | hc; exact Nat.le_trans H1.out.b.size hq; exact Nat.le_trans H1.out.b.size hn; simp [Value.ownBlock] at hc⟩, fun c hc hs => by
    have := H1.out.tbl.lt hc
    rcases hs with rfl | rfl | hs
    · omega
    · omega
    · simp [Value.ownBlock] at hs⟩)
  clear hU hb hq hn H1
  go_wp2_with fail
  go_loopw [5] (fun i wr => ∃ j : Nat, j ≤ L ∧ i = .int .i64 j ∧ ∃ v lt u lu, Two w wr p m v lt q n u lu j j ∧ Cv lt lu) (fun i _ => L - (intOf i).toNat)
  case atStart => exact ⟨0, Nat.zero_le _, rfl, _, _, _, _, H2.out, Cv.nil⟩
  case round =>
    obtain ⟨j, hj, rfl, v, lt, u, lu, hR, hcv⟩ := hrel
    by_cases hlt : j < L
    · obtain ⟨b, o, rfl, hc⟩ := HC.out j (by rw [← HL.out]; exact hlt)
      have hbw := World.block_lt_of_cell? _ _ hc
      have e1 := (hR.ot.b.cell (p := ⟨b, o + j, none⟩) hbw).trans hc
      have hx : (Lit.int .i64 (l.getD j 0)).wf = true := HWF.out _ (by rw [List.getD_eq_getElem?_getD, List.getElem?_eq_getElem (by rw [← HL.out]; exact hlt)]; simp)
      generalize l.getD j 0 = x at *
      have HR := Lib.hid hR; have HCV := Lib.hid hcv; have HX := Lib.hid hx; have HC0 := Lib.hid hc
      clear hR hcv hx hc H2
      go_wp2_with fail
      refine (PutI x HX.out HR.out.ot.tbl (by omega)).mono ?_
      rintro e w3 ⟨v3, lt3, i3, is, rfl, hT, hb, hv, hst⟩
      have HS : Hid (Stp lt (.int .i64 x) lt3 i3 is) := Lib.hid hst
      have HR3 := Lib.hid (HR.out.putT hT hb hv)
      clear hT hb hv hst HR e1
      have e2 := (HR3.out.ot.b.cell (p := ⟨b, o + j, none⟩) hbw).trans HC0.out
      have HM := Lib.hid (show (Lit.int .i64 ((j : Int) % 2)).wf = true from WalkArith.wf_i64 (by omega))
      generalize hy : (j : Int) % 2 = y at *
      have HY := Lib.hid hy
      go_wp2_with fail
      refine (PutP x y HX.out HM.out HR3.out.ou.tbl (by omega)).mono ?_
      rintro e w4 ⟨u4, lu4, i4, fresh, rfl, hT, hb, hv, hst⟩
      have HS4 : Hid (Stp lu (.agg #[.int .i64 x, .int .i64 y]) lu4 i4 fresh) := Lib.hid hst
      have HR4 := Lib.hid (HR3.out.putU hT hb hv)
      have HCV4 := Lib.hid (HCV.out.step HS.out HS4.out)
      clear hT hb hv hst HR3 e2
      have e3 := (HR4.out.ot.b.cell (p := ⟨b, o + j, none⟩) hbw).trans HC0.out
      go_wp2_with fail
      refine (KeyI_at HS.out HR4.out.ot.tbl).mono ?_
      rintro e w' ⟨rfl, rfl⟩
      go_wp2_with fail
      refine (FindI_at HX.out HS.out HR4.out.ot.tbl).mono ?_
      rintro e w5 ⟨rfl, hb⟩
      have HR5 := Lib.hid (HR4.out.next hb)
      clear hb HR4 e3
      have e4 := (HR5.out.ot.b.cell (p := ⟨b, o + j, none⟩) hbw).trans HC0.out
      have hlen := HR5.out.ot.tbl.len
      have hlen2 := HR5.out.ou.tbl.len
      cases his : is <;> subst his <;> cases hfr : fresh <;> subst hfr
      · go_wp2_with fail
        refine (FindP_at HX.out HM.out HS4.out HR5.out.ou.tbl).mono ?_
        rintro e w6 ⟨rfl, hb⟩
        have HR6 := Lib.hid (HR5.out.next hb)
        clear hb HR5 hy hlen hlen2 e4
        go_wp2_with fail
        exact ⟨⟨j + 1, by omega, rfl, _, _, _, _, HR6.out, HCV4.out⟩, by simp [intOf]; omega⟩
      · have hw2 := last_wrap HS4.out (by omega)
        go_wp2_with fail
        refine (LenP HR5.out.ou.tbl).mono ?_
        rintro e w' ⟨rfl, rfl⟩
        go_wp2_with fail
        refine (FindP_at HX.out HM.out HS4.out HR5.out.ou.tbl).mono ?_
        rintro e w6 ⟨rfl, hb⟩
        have HR6 := Lib.hid (HR5.out.next hb)
        clear hb HR5 hy hlen hlen2 e4
        go_wp2_with fail
        exact ⟨⟨j + 1, by omega, rfl, _, _, _, _, HR6.out, HCV4.out⟩, by simp [intOf]; omega⟩
      · have hw1 := last_wrap HS.out (by omega)
        go_wp2_with fail
        refine (LenI HR5.out.ot.tbl).mono ?_
        rintro e w' ⟨rfl, rfl⟩
        go_wp2_with fail
        refine (FindP_at HX.out HM.out HS4.out HR5.out.ou.tbl).mono ?_
        rintro e w6 ⟨rfl, hb⟩
        have HR6 := Lib.hid (HR5.out.next hb)
        clear hb HR5 hy hlen hlen2 e4
        go_wp2_with fail
        exact ⟨⟨j + 1, by omega, rfl, _, _, _, _, HR6.out, HCV4.out⟩, by simp [intOf]; omega⟩
      · have hw1 := last_wrap HS.out (by omega)
        have hw2 := last_wrap HS4.out (by omega)
        go_wp2_with fail
        refine (LenI HR5.out.ot.tbl).mono ?_
        rintro e w' ⟨rfl, rfl⟩
        go_wp2_with fail
        refine (LenP HR5.out.ou.tbl).mono ?_
        rintro e w' ⟨rfl, rfl⟩
        go_wp2_with fail
        refine (FindP_at HX.out HM.out HS4.out HR5.out.ou.tbl).mono ?_
        rintro e w6 ⟨rfl, hb⟩
        have HR6 := Lib.hid (HR5.out.next hb)
        clear hb HR5 hy hlen hlen2 e4
        go_wp2_with fail
        exact ⟨⟨j + 1, by omega, rfl, _, _, _, _, HR6.out, HCV4.out⟩, by simp [intOf]; omega⟩
    · have hjL : j = L := by omega
      subst hjL
      have hlen := hR.ot.tbl.len
      have HR := Lib.hid hR; have HCV := Lib.hid hcv
      clear hR hcv H2
      go_wp2_with fail
      refine (KeysI HR.out.ot.tbl (by omega)).mono ?_
      rintro e w3 ⟨kv, rfl, hrow, hb⟩
      have HR3 := Lib.hid (HR.out.next hb)
      have hrow0 := owns_zero hrow (Nat.zero_le _)
      obtain ⟨ka, kc, rfl, hkc⟩ : ∃ ka kc, kv = .slice ka lt.length kc ∧ ∀ i, i < lt.length → ∃ g, ka = some ⟨g, 0, none⟩ ∧ w3.cell? ⟨g, i, none⟩ = lt[i]? := by
        rcases hrow0.2 with ⟨rfl, h0⟩ | ⟨g, cap, cur, rfl, _⟩
        · exact ⟨none, 0, by rw [h0], fun i hi => by omega⟩
        · exact ⟨_, cap, rfl, fun i hi => ⟨g, rfl, World.ownsRow.cellAt hrow0 i (by omega)⟩⟩
      have HKC := Lib.hid hkc
      clear hrow hrow0 hb hkc HR
      obtain ⟨M, hM⟩ : ∃ M, M = lt.length := ⟨_, rfl⟩
      rw [← hM] at hlen ⊢
      have HM := Lib.hid hM
      clear hM
      go_wp2_with fail
      go_loopw [13] (fun i wr => ∃ k : Nat, k ≤ M ∧ i = .int .i64 k ∧ Two w wr p m v lt q n u lu j j ∧ Below w3.heap.size w3 wr) (fun i _ => M - (intOf i).toNat)
      case atStart => exact ⟨0, Nat.zero_le _, rfl, HR3.out, Below.refl _ _⟩
      case round =>
        obtain ⟨k, hk, rfl, hR, hb3⟩ := hrel
        by_cases hlt2 : k < M
        · obtain ⟨g, rfl, hc⟩ := HKC.out k (by rw [← HM.out]; exact hlt2)
          obtain ⟨y, hy, hyw⟩ := nth_int hR.ot.tbl.keys (k := k) (by rw [← HM.out]; exact hlt2)
          rw [hy] at hc
          have e1 := (hb3.cell (p := ⟨g, k, none⟩) (World.block_lt_of_cell? _ _ hc)).trans hc
          have HY := Lib.hid hy; have HYW := Lib.hid hyw; have HR := Lib.hid hR; have HB := Lib.hid hb3
          clear hR hb3 hc hy hyw
          go_wp2_with fail
          refine (FindI_kth HYW.out HY.out HR.out.ot.tbl).mono ?_
          rintro e w4 ⟨rfl, hb⟩
          have HR4 := Lib.hid (HR.out.next hb)
          have HB4 := Lib.hid (HB.out.trans (hb.mono HB.out.size))
          clear hb HR HB e1
          go_wp2_with fail
          exact ⟨⟨k + 1, by omega, rfl, HR4.out, HB4.out⟩, by simp [intOf]; omega⟩
        · have hkM : k = M := by omega
          have HR := Lib.hid hR
          have hle : ¬ ((lu.length : Int) < (lt.length : Int)) := by have := HCV.out.len; omega
          have hle2 : ((lt.length : Int) ≤ (lu.length : Int)) := by omega
          clear hR hb3
          rw [HM.out] at *
          go_wp2_with fail
          refine (LenI HR.out.ot.tbl).mono ?_
          rintro e w' ⟨rfl, rfl⟩
          go_wp2_with fail
          refine (LenP HR.out.ou.tbl).mono ?_
          rintro e w' ⟨rfl, rfl⟩
          go_wp2_with fail
          refine (LenI HR.out.ot.tbl).mono ?_
          rintro e w' ⟨rfl, rfl⟩
          go_wp2_with fail
          refine (knows_any _).mono ?_
          rintro e w4 ⟨rfl, hb⟩
          have HB4 := Lib.hid (HR.out.ot.b.trans (hb.mono HR.out.ot.b.size))
          clear hb HR
          go_wp2_with fail
          go_ret
          exact ⟨rfl, HB4.out⟩
end Go.Proofs.Ytkgklccafebcbaa.IntW
