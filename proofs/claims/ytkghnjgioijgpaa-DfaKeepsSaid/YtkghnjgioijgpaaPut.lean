/- Walk of the document's Put: a rising list with a number more. -/
import Derived.Test.YtkghnjgioijgpaaLive
namespace Go.Proofs.Ytkghnjgioijgpaa.DfaW
set_option linter.unusedVariables false
open Go.RowKit Go.Maps Go.Proofs.Ytkghnjgioijgpaa.PartM Go.Proofs.Ytkghnjgioijgpaa.PartW Go.Proofs.Ytkghnjgioijgpaa.DfaM

/-- What comes of putting a number into a list. -/
structure PutS (l : List Nat) (x : Nat) (l' : List Nat) : Prop where
  mem : ∀ y, y ∈ l' ↔ y ∈ l ∨ y = x
  rise : l.Pairwise (· < ·) → l'.Pairwise (· < ·)
  len : l'.length ≤ l.length + 1
theorem PutS.old {l : List Nat} {x : Nat} (h : x ∈ l) : PutS l x l := ⟨fun y => ⟨.inl, fun h' => h'.elim id (fun e => e ▸ h)⟩, id, Nat.le_succ _⟩
theorem PutS.new {l : List Nat} {x i : Nat} (h : x ∉ l) (hi : i ≤ l.length) (hlt : ∀ k, k < i → l.getD k 0 < x) (hge : i < l.length → ¬ l.getD i 0 < x) : PutS l x (l.take i ++ [x] ++ l.drop i) := by
  refine ⟨fun y => ?_, fun hp => ?_, by simp; omega⟩
  · rw [List.mem_append, List.mem_append, List.mem_singleton]
    conv => rhs; rw [← List.take_append_drop i l]
    rw [List.mem_append]
    constructor
    · rintro ((h | h) | h)
      · exact .inl (.inl h)
      · exact .inr h
      · exact .inl (.inr h)
    · rintro ((h | h) | h)
      · exact .inl (.inl h)
      · exact .inr h
      · exact .inl (.inr h)
  · have h1 : ∀ y ∈ l.take i, y < x := fun y hy => by
      obtain ⟨k, hk, rfl⟩ := List.mem_iff_getElem.1 hy
      rw [List.length_take] at hk
      have := hlt k (by omega)
      rw [List.getElem_take]
      simpa [List.getD, show k < l.length by omega] using this
    have h2 : ∀ y ∈ l.drop i, x < y := fun y hy => by
      obtain ⟨k, hk, rfl⟩ := List.mem_iff_getElem.1 hy
      rw [List.length_drop] at hk
      rw [List.getElem_drop]
      have hg := hge (by omega)
      have h3 : l.getD i 0 = l[i]'(by omega) := by simp [List.getD, show i < l.length by omega]
      have h4 : l[i]'(by omega) ≤ l[i + k]'(by omega) := by
        rcases Nat.eq_zero_or_pos k with e | e
        · subst e; exact Nat.le_refl _
        · exact Nat.le_of_lt (List.pairwise_iff_getElem.1 hp i (i + k) (by omega) (by omega) (by omega))
      have h5 : x ≠ l[i + k]'(by omega) := fun e => h (by rw [e]; exact List.getElem_mem _)
      omega
    rw [List.append_assoc, List.pairwise_append]
    refine ⟨hp.sublist (List.take_sublist _ _), ?_, fun a ha b hb => ?_⟩
    · rw [List.singleton_append, List.pairwise_cons]
      exact ⟨h2, hp.sublist (List.drop_sublist _ _)⟩
    · rcases List.mem_append.1 hb with hb | hb
      · rw [List.mem_singleton.1 hb]; exact h1 a ha
      · have := h1 a ha; have := h2 b hb; omega
/-- The tail of a list of the call's own. -/
theorem tail_is {w : World} {base : Nat} {a : Option Addr} {n cap : Nat} {l : List Int} (h : OI w base (.slice a n cap) l) (hn : n = l.length) {i : Nat} (hi : i ≤ n) :
    ∃ a' c', (∀ W, (Instr.slice 24 (.slice a n cap) (some (.int .i64 (i : Nat))) none none).run Try.prog W = .ok (.slice a' (n - i) c') W) ∧ (a' = none → c' = 0) ∧
      ∀ W, Below w.heap.size w W → IS W.heap.size W (.slice a' (n - i) c') (l.drop i) := by
  have ht : Try.prog.underlying 24 = some (.slice 3) := Try.underlying24
  have ht' : Try.prog.underlying 24 = some (.slice (Try.prog.elem 24)) := by simp [Program.elem, ht]
  have he : Try.prog.elem 24 = 3 := by simp [Program.elem, ht]
  subst hn
  rcases h.2 with ⟨h1, h2⟩ | ⟨g, cap', cur, h1, hg, hh, hle, hc, hs, hx⟩
  · simp only [Value.slice.injEq] at h1
    obtain ⟨rfl, h3, rfl⟩ := h1
    obtain rfl : l = [] := List.length_eq_zero_iff.1 h2
    obtain rfl : i = 0 := by simpa using hi
    refine ⟨none, 0, fun W => ?_, fun _ => rfl, fun W _ => by rw [List.drop_nil]; exact VS.nil _ _ _⟩
    rw [run_slice_l W 24 _ _ _ ht' .i64 _ (by omega) (by omega), he, Try.sizeOf3]
    simp [Result.andThen, sliced]
  · simp only [Value.slice.injEq] at h1
    obtain ⟨rfl, h3, rfl⟩ := h1
    by_cases hic : cap = i
    · refine ⟨some ⟨g, 0, none⟩, cap - i, fun W => ?_, fun h => (by cases h), fun W _ => ?_⟩
      · rw [run_slice_l W 24 _ _ _ ht' .i64 _ (by omega) (by omega), he, Try.sizeOf3]
        simp [Result.andThen, sliced, hic]
      · have e1 : l.drop i = [] := List.drop_of_length_le (by omega)
        rw [e1, show l.length - i = 0 by omega, show cap - i = 0 by omega]
        exact VS.nil _ _ _
    · refine ⟨some ⟨g, i, none⟩, cap - i, fun W => ?_, fun h => (by cases h), fun W hb => ?_⟩
      · rw [run_slice_l W 24 _ _ _ ht' .i64 _ (by omega) (by omega), he, Try.sizeOf3]
        by_cases h0 : i = 0
        · subst h0
          simp [Result.andThen, sliced, Addr.add]
        · simp [Result.andThen, sliced, Addr.add, hic, h0]
      · refine ⟨_, cap - i, by simp, by simp; omega, by omega, fun j hj => ⟨g, i, rfl, ?_, ?_⟩⟩
        · exact Nat.lt_of_lt_of_le (Array.getElem?_eq_some_iff.1 hh).1 hb.size
        · rw [List.length_map, List.length_drop] at hj
          rw [hb.cell (p := ⟨g, i + j, none⟩) (Array.getElem?_eq_some_iff.1 hh).1, World.ownsRow.cellAt (show w.ownsRow base 3 1 (.slice (some ⟨g, 0, none⟩) l.length cap) l.length _ from h) (i + j) (by omega)]
          simp
set_option maxRecDepth 100000 in
set_option maxHeartbeats 4000000 in
theorem Put_any {v : Value} {l : List Nat} {b : Nat} (w : World) (h : OI w b v (castL l)) (hb : b ≤ w.heap.size) (x : Nat) (hl : l.length ≤ 65536) :
    Calls Try.prog 48 #[v, .int .i64 x] w fun e w' => ∃ v' l', e = .returned v' ∧ PutS l x l' ∧ OI w' b v' (castL l') ∧ Below w.heap.size w w' := by
  have HH := Lib.hid (Has_any w h.is x)
  obtain ⟨a, cap, rfl, _, hcm⟩ := h.len
  rw [castL_len] at h HH ⊢
  obtain ⟨n, hn⟩ : ∃ n, n = l.length := ⟨_, rfl⟩
  have hni : (n : Int) ≤ 65536 := by omega
  have HN := Lib.hid hn
  rw [← hn] at h HH ⊢
  have HO := Lib.hid h
  have HBB := Lib.hid hb
  clear h hn hl hb
  go_enter Try.func48, Try.ntmps48
  go_wp2_with fail
  refine HH.out.mono ?_
  rintro e w1 ⟨rfl, rfl⟩
  by_cases hm : x ∈ l
  · have HP := Lib.hid (PutS.old hm)
    rw [decide_eq_true hm]
    clear hm
    go_wp2_with fail
    go_ret
    exact ⟨_, l, rfl, HP.out, HO.out, Below.refl _ _⟩
  · have HM := Lib.hid hm
    rw [decide_eq_false hm]
    have HE0 := Lib.hid (OI.empty w)
    have HB0 := Lib.hid (show Below w.heap.size w (w.alloc (.cells #[] 3)) from (Below.refl _ _).alloc (Nat.le_refl _) _)
    clear hm
    go_wp2_with fail
    obtain ⟨S, hS⟩ : ∃ S, S = w.heap.size := ⟨_, rfl⟩
    have HS := Lib.hid hS
    rw [← hS] at HE0 HB0 HBB ⊢
    generalize (w.alloc (.cells #[] 3)) = W0 at *
    clear hS
    go_loopw [5, 6] (fun u i wr => ∃ k : Nat, k ≤ n ∧ i = .int .i64 k ∧ Hid (∀ j, j < k → l.getD j 0 < x) ∧ OI wr S u (castL (l.take k)) ∧ Below S w wr) (fun _ i _ => n - (intOf i).toNat)
    case atStart => exact ⟨0, Nat.zero_le _, rfl, Lib.hid fun j hj => absurd hj (Nat.not_lt_zero _), HE0.out, HB0.out⟩
    case round =>
      obtain ⟨k, hk, rfl, HL, hO, hb⟩ := hrel
      clear HE0 HB0
      obtain ⟨au, cu, rfl, _, _⟩ := hO.len
      rw [castL_len, List.length_take, Nat.min_eq_left (by rw [← HN.out]; exact hk)] at hO ⊢
      have hki : (k : Int) ≤ 65536 := by omega
      have hbw : Below w.heap.size w wr := HS.out ▸ hb
      have hsz : S ≤ wr.heap.size := by rw [HS.out]; exact hbw.size
      have HO1 := Lib.hid hO
      have HB1 := Lib.hid hb
      have HW1 := Lib.hid hbw
      by_cases hlt : k < n
      · obtain ⟨g, rfl, hgc⟩ := OI.at (HO.out.below hbw) (i := k) (by rw [castL_len, ← HN.out]; exact hlt)
        rw [castL_at] at hgc
        obtain ⟨y, hy⟩ : ∃ y, y = l.getD k 0 := ⟨_, rfl⟩
        rw [← hy] at hgc
        have HY := Lib.hid hy
        have HLT := Lib.hid hlt
        have HT := Lib.hid (take_snoc l (show k < l.length by rw [← HN.out]; exact hlt))
        by_cases hyx : y < x
        · have HYX := Lib.hid hyx
          have HO2 := Lib.hid (hO.below ((Below.refl _ wr).alloc (Nat.le_refl _) (.cells #[.int .i64 (y : Int)] 3)))
          clear hO hb hbw hy
          go_wp2_with (at_builtin; refine wpList_append_int rfl _ _ rfl rfl HO2.out (by simp; omega) ⟨wr.heap.size, 0, none⟩ 1 (y : Int) rfl (by rw [World.cell?_alloc_new]; rfl) rfl (by rw [castL_len, List.length_take]; omega) ?_; intro v' w3 hO3 hb3; have HO3 := Lib.hid hO3; have HB3 := Lib.hid hb3; obtain ⟨a3, c3, rfl, _, _⟩ := hO3.len; clear hO3 hb3)
          refine ⟨⟨k + 1, HLT.out, by go_num, Lib.hid fun j hj => ?_, ?_, ?_⟩, by have := HLT.out; simp [intOf]; omega⟩
          · by_cases e : j = k
            · subst e; rw [← HY.out]; exact HYX.out
            · exact HL.out j (by omega)
          · rw [HT.out]
            have := HO3.out
            rw [HY.out] at this
            simpa [castL] using this
          · exact (HB1.out.alloc hsz _).trans HB3.out
        · have HPS := Lib.hid (PutS.new HM.out (show k ≤ l.length by rw [← HN.out]; exact hk) HL.out (fun _ => by rw [← HY.out]; exact hyx))
          clear hy
          obtain ⟨a', c', htl, hnil, his⟩ := tail_is HO.out (show n = (castL l).length by rw [castL_len]; exact HN.out) hk
          have HNIL := Lib.hid hnil; have HIS := Lib.hid his
          have HO2 := Lib.hid (hO.below ((Below.refl _ wr).alloc (Nat.le_refl _) (.cells #[.int .i64 (x : Int)] 3)))
          have HAL := Lib.hid (show Below w.heap.size w (wr.alloc (.cells #[.int .i64 (x : Int)] 3)) from hbw.alloc hbw.size _)
          have HTL := Lib.hid (show (castL (l.take k)).length = k by rw [castL_len, List.length_take, Nat.min_eq_left (by rw [← HN.out]; exact hk)])
          have HL3 := Lib.hid (show (castL (l.take k) ++ [(x : Int)]).length = k + 1 by rw [List.length_append, HTL.out]; rfl)
          have HL4 := Lib.hid (show (castL (l.take k) ++ [(x : Int)] ++ (castL l).drop k).length = n + 1 by rw [List.length_append, HL3.out, List.length_drop, castL_len, ← HN.out]; omega)
          clear hO hb hbw hnil his
          go_wp2_with (first | (at_builtin; refine wpList_append_int rfl (.tmp 33) (.tmp 35) rfl rfl HO2.out (by simp; omega) ⟨wr.heap.size, 0, none⟩ 1 (x : Int) rfl (by rw [World.cell?_alloc_new]; rfl) rfl (by rw [HTL.out]; omega) ?_; intro v' w3 hO3 hb3; have HO3 := Lib.hid hO3; have HB3 := Lib.hid (HAL.out.trans (HS.out ▸ hb3)); have hz3 : S ≤ w3.heap.size := HS.out ▸ HB3.out.size; obtain ⟨a3, c3, hv3, _, _⟩ := (HO3.out).len; rw [HL3.out] at hv3; subst hv3; clear hO3 hb3) | (at_builtin; refine wpList_append_ints rfl (.tmp 37) (.tmp 40) rfl rfl HO3.out hz3 rfl (HIS.out _ HB3.out) (fun n c e => by injection e with e1 e2 e3; exact e3 ▸ HNIL.out e1) (by rw [List.length_append, HTL.out]; simp [castL_len]; have := HN.out; omega) ?_; intro v' w4 hO4 hb4; have HO4 := Lib.hid hO4; have HB4 := Lib.hid (HB3.out.trans (HS.out ▸ hb4)); obtain ⟨a4, c4, hv4, _, _⟩ := (HO4.out).len; rw [HL4.out] at hv4; subst hv4; clear hO4 hb4))
          go_ret
          refine ⟨_, _, rfl, HPS.out, ?_, HB4.out⟩
          have := owns_base HO4.out HBB.out
          have e : castL (l.take k ++ [x] ++ l.drop k) = castL (l.take k) ++ [(x : Int)] ++ (castL l).drop k := by simp [castL]
          rw [e]
          exact this
      · have HPS := Lib.hid (PutS.new HM.out (show k ≤ l.length by rw [← HN.out]; exact hk) HL.out (fun h => absurd (show k < n by rw [HN.out]; exact h) hlt))
        obtain ⟨a', c', htl, hnil, his⟩ := tail_is HO.out (show n = (castL l).length by rw [castL_len]; exact HN.out) hk
        have HNIL := Lib.hid hnil; have HIS := Lib.hid his
        have HO2 := Lib.hid (hO.below ((Below.refl _ wr).alloc (Nat.le_refl _) (.cells #[.int .i64 (x : Int)] 3)))
        have HAL := Lib.hid (show Below w.heap.size w (wr.alloc (.cells #[.int .i64 (x : Int)] 3)) from hbw.alloc hbw.size _)
        have HTL := Lib.hid (show (castL (l.take k)).length = k by rw [castL_len, List.length_take, Nat.min_eq_left (by rw [← HN.out]; exact hk)])
        have HL3 := Lib.hid (show (castL (l.take k) ++ [(x : Int)]).length = k + 1 by rw [List.length_append, HTL.out]; rfl)
        have HL4 := Lib.hid (show (castL (l.take k) ++ [(x : Int)] ++ (castL l).drop k).length = n + 1 by rw [List.length_append, HL3.out, List.length_drop, castL_len, ← HN.out]; omega)
        clear hO hb hbw hnil his
        go_wp2_with (first | (at_builtin; refine wpList_append_int rfl (.tmp 33) (.tmp 35) rfl rfl HO2.out (by simp; omega) ⟨wr.heap.size, 0, none⟩ 1 (x : Int) rfl (by rw [World.cell?_alloc_new]; rfl) rfl (by rw [HTL.out]; omega) ?_; intro v' w3 hO3 hb3; have HO3 := Lib.hid hO3; have HB3 := Lib.hid (HAL.out.trans (HS.out ▸ hb3)); have hz3 : S ≤ w3.heap.size := HS.out ▸ HB3.out.size; obtain ⟨a3, c3, hv3, _, _⟩ := (HO3.out).len; rw [HL3.out] at hv3; subst hv3; clear hO3 hb3) | (at_builtin; refine wpList_append_ints rfl (.tmp 37) (.tmp 40) rfl rfl HO3.out hz3 rfl (HIS.out _ HB3.out) (fun n c e => by injection e with e1 e2 e3; exact e3 ▸ HNIL.out e1) (by rw [List.length_append, HTL.out]; simp [castL_len]; have := HN.out; omega) ?_; intro v' w4 hO4 hb4; have HO4 := Lib.hid hO4; have HB4 := Lib.hid (HB3.out.trans (HS.out ▸ hb4)); obtain ⟨a4, c4, hv4, _, _⟩ := (HO4.out).len; rw [HL4.out] at hv4; subst hv4; clear hO4 hb4))
        go_ret
        refine ⟨_, _, rfl, HPS.out, ?_, HB4.out⟩
        have := owns_base HO4.out HBB.out
        have e : castL (l.take k ++ [x] ++ l.drop k) = castL (l.take k) ++ [(x : Int)] ++ (castL l).drop k := by simp [castL]
        rw [e]
        exact this
end Go.Proofs.Ytkghnjgioijgpaa.DfaW
