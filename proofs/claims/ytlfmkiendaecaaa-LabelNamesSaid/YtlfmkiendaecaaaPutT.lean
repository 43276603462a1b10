/- Walks of the document's place and put. -/
import Derived.Test.YtlfmkiendaecaaaTexts
namespace Go.Proofs.Ytlfmkiendaecaaa.DfaW
set_option linter.unusedVariables false
open Go.RowKit Go.Maps Go.Proofs.Ytlfmkiendaecaaa.PartM Go.Proofs.Ytlfmkiendaecaaa.PartW Go.Proofs.Ytlfmkiendaecaaa.TxM

theorem place_any {v : Value} {l : List ByteArray} {B : Nat} (s : ByteArray) (w : World) (h : TS B w v l) :
    Calls Try.prog 35 #[v, .string s] w fun e w' => e = .returned (.int .i64 (placeT l s)) ∧ w = w' := by
  obtain ⟨a, cap, rfl, h1, h2, h3⟩ := h.open
  obtain ⟨n, hn⟩ : ∃ n, n = l.length := ⟨_, rfl⟩
  have hm : (n : Int) ≤ 9223372036854775807 := by unfold maxLen at h2; omega
  have HN := Lib.hid hn
  rw [← hn] at h3 ⊢
  have HC := Lib.hid h3
  clear h h1 h2 h3 hn
  go_enter Try.func35, Try.ntmps35
  go_wp2_with fail
  go_loop [5] (fun i => ∃ j : Nat, j ≤ n ∧ i = .int .i64 j ∧ Hid (∀ i, i < j → l.getD i ByteArray.empty ≠ s)) (fun i => n - (intOf i).toNat)
  case atStart => exact ⟨0, Nat.zero_le _, rfl, Lib.hid fun j hj => absurd hj (Nat.not_lt_zero _)⟩
  case round =>
    obtain ⟨j, hj, rfl, HA⟩ := hrel
    by_cases hlt : j < n
    · obtain ⟨b, o, rfl, hb1, hc1⟩ := HC.out j hlt
      obtain ⟨x, hx⟩ : ∃ x, x = l.getD j ByteArray.empty := ⟨_, rfl⟩
      rw [← hx] at hc1
      have HX := Lib.hid hx
      have HLT := Lib.hid hlt
      clear hx hb1
      by_cases e : x = s
      · have t0 : (x.toList == s.toList) = true := by rw [e]; exact ba_self s
        have HE := Lib.hid (show placeT l s = (j : Int) by
          have h1 := atT_eq (l := l) (s := s) (k := j) (by rw [← HN.out]; exact hj) HA.out (fun _ => by rw [← HX.out]; exact e)
          unfold placeT
          rw [← h1, if_pos (by rw [← HN.out]; exact hlt)])
        clear e
        go_wp2_with fail
        go_ret
        exact ⟨Base.ret_int HE.out.symm, rfl⟩
      · have t0 : (x.toList == s.toList) = false := ba_ne e
        have HE := Lib.hid e
        clear e
        go_wp2_with fail
        refine ⟨⟨j + 1, HLT.out, by go_num, Lib.hid fun i hi => ?_⟩, by have := HLT.out; simp [intOf]; omega⟩
        by_cases e : i = j
        · subst e; rw [← HX.out]; exact HE.out
        · exact HA.out i (by omega)
    · have HE := Lib.hid (show placeT l s = -1 by
        have h1 := atT_eq (l := l) (s := s) (k := j) (by rw [← HN.out]; exact hj) HA.out (fun h => absurd (show j < n by rw [HN.out]; exact h) hlt)
        unfold placeT
        rw [← h1, if_neg (by rw [← HN.out]; exact hlt)])
      go_wp2_with fail
      go_ret
      exact ⟨Base.ret_int HE.out.symm, rfl⟩
theorem OS.at {w : World} {base : Nat} {a : Option Addr} {n c : Nat} {l : List ByteArray} (h : OS w base (.slice a n c) l) {i : Nat} (hi : i < l.length) : ∃ g : Nat, a = some ⟨g, 0, none⟩ ∧ w.cell? ⟨g, i, none⟩ = some (.string (l.getD i ByteArray.empty)) := by
  have h' := h
  rcases h.2 with ⟨h1, h2⟩ | ⟨g, cap, cur, h1, hg, hh, hn, hc, hs, hx⟩
  · omega
  · simp only [Value.slice.injEq] at h1
    obtain ⟨rfl, rfl, rfl⟩ := h1
    refine ⟨g, rfl, ?_⟩
    rw [World.ownsRow.cellAt h' i (by omega)]
    simp [List.getD, hi]
set_option maxRecDepth 100000 in
set_option maxHeartbeats 4000000 in
theorem put_any {v : Value} {l : List ByteArray} {b : Nat} (w : World) (h : OS w b v l) (hb : b ≤ w.heap.size) (x : ByteArray) (hl : l.length ≤ 4194304) (hz : Szs l) :
    Calls Try.prog 26 #[v, .string x] w fun e w' => ∃ v', e = .returned v' ∧ OS w' b v' (putT l x) ∧ Below w.heap.size w w' := by
  have HH := Lib.hid (place_any x w (h.is hz))
  obtain ⟨a, cap, rfl, _, hcm⟩ := h.len
  obtain ⟨n, hn⟩ : ∃ n, n = l.length := ⟨_, rfl⟩
  have hni : (n : Int) ≤ 4194304 := by omega
  have HN := Lib.hid hn
  rw [← hn] at h HH ⊢
  have HO := Lib.hid h
  have HBB := Lib.hid hb
  have HZ := Lib.hid hz
  clear h hn hl hb hz
  go_enter Try.func26, Try.ntmps26
  go_wp2_with fail
  refine HH.out.mono ?_
  rintro e w1 ⟨rfl, rfl⟩
  by_cases hm : x ∈ l
  · have HP := Lib.hid (show putT l x = l from if_pos hm)
    have hk := atT_le l x
    have t0 : decide (0 ≤ ((atT l x : Nat) : Int)) = true := by simp
    rw [placeT_in hm]
    clear hm
    go_wp2_with fail
    go_ret
    exact ⟨_, rfl, by rw [HP.out]; have := HO.out; rw [HN.out] at this ⊢; exact this, Below.refl _ _⟩
  · have HM := Lib.hid hm
    rw [placeT_out hm]
    have HE0 := Lib.hid (OS.empty w)
    have HB0 := Lib.hid (show Below w.heap.size w (w.alloc (.cells #[] 9)) from (Below.refl _ _).alloc (Nat.le_refl _) _)
    clear hm
    go_wp2_with fail
    obtain ⟨S, hS⟩ : ∃ S, S = w.heap.size := ⟨_, rfl⟩
    have HS := Lib.hid hS
    rw [← hS] at HE0 HB0 HBB ⊢
    generalize (w.alloc (.cells #[] 9)) = W0 at *
    clear hS
    go_loopw [5, 6] (fun u i wr => ∃ k : Nat, k ≤ n ∧ i = .int .i64 k ∧ Hid (∀ j, j < k → ltT (l.getD j ByteArray.empty) x = true) ∧ OS wr S u (l.take k) ∧ Below S w wr) (fun _ i _ => n - (intOf i).toNat)
    case atStart => exact ⟨0, Nat.zero_le _, rfl, Lib.hid fun j hj => absurd hj (Nat.not_lt_zero _), HE0.out, HB0.out⟩
    case round =>
      obtain ⟨k, hk, rfl, HL, hO, hb⟩ := hrel
      clear HE0 HB0
      obtain ⟨au, cu, rfl, _, _⟩ := hO.len
      rw [List.length_take, Nat.min_eq_left (by rw [← HN.out]; exact hk)] at hO ⊢
      have hki : (k : Int) ≤ 4194304 := by omega
      have hbw : Below w.heap.size w wr := HS.out ▸ hb
      have hsz : S ≤ wr.heap.size := by rw [HS.out]; exact hbw.size
      have HO1 := Lib.hid hO
      have HB1 := Lib.hid hb
      have HW1 := Lib.hid hbw
      have HTL := Lib.hid (show (l.take k).length = k by rw [List.length_take, Nat.min_eq_left (by rw [← HN.out]; exact hk)])
      by_cases hlt : k < n
      · obtain ⟨g, rfl, hgc⟩ := OS.at (HO.out.below hbw) (i := k) (by rw [← HN.out]; exact hlt)
        obtain ⟨y, hy⟩ : ∃ y, y = l.getD k ByteArray.empty := ⟨_, rfl⟩
        rw [← hy] at hgc
        have HY := Lib.hid hy
        have HLT := Lib.hid hlt
        have HT := Lib.hid (takeT_snoc l (show k < l.length by rw [← HN.out]; exact hlt))
        by_cases hyx : ltT y x = true
        · have HYX := Lib.hid hyx
          have t0 : Op.bytesLess y.toList x.toList = true := hyx
          have HO2 := Lib.hid (hO.below ((Below.refl _ wr).alloc (Nat.le_refl _) (.cells #[.string y] 9)))
          clear hO hb hbw hy hyx
          go_wp2_with (at_builtin; refine wpList_append_text rfl _ _ rfl rfl HO2.out (by simp; omega) ⟨wr.heap.size, 0, none⟩ 1 y rfl (by rw [World.cell?_alloc_new]; rfl) rfl (by rw [HTL.out]; omega) ?_; intro v' w3 hO3 hb3; have HO3 := Lib.hid hO3; have HB3 := Lib.hid hb3; obtain ⟨a3, c3, rfl, _, _⟩ := hO3.len; clear hO3 hb3)
          refine ⟨⟨k + 1, HLT.out, by go_num, Lib.hid fun j hj => ?_, ?_, ?_⟩, by have := HLT.out; simp [intOf]; omega⟩
          · by_cases e : j = k
            · subst e; rw [← HY.out]; exact HYX.out
            · exact HL.out j (by omega)
          · rw [HT.out]
            have := HO3.out
            rw [HY.out] at this
            rw [show min k l.length + 1 = (l.take k ++ [l.getD k ByteArray.empty]).length by simp]
            exact this
          · exact (HB1.out.alloc hsz _).trans HB3.out
        · have t0 : Op.bytesLess y.toList x.toList = false := (Bool.not_eq_true _).mp hyx
          have HK := Lib.hid (aheadN_eq l x k (by rw [← HN.out]; exact hk) HL.out (fun _ => by rw [← HY.out]; simpa using hyx))
          clear hy hyx
          obtain ⟨a', c', htl, hnil, his⟩ := tailT_is HO.out HZ.out HN.out hk
          have HNIL := Lib.hid hnil; have HIS := Lib.hid his
          have HO2 := Lib.hid (hO.below ((Below.refl _ wr).alloc (Nat.le_refl _) (.cells #[.string x] 9)))
          have HAL := Lib.hid (show Below w.heap.size w (wr.alloc (.cells #[.string x] 9)) from hbw.alloc hbw.size _)
          have HL3 := Lib.hid (show (l.take k ++ [x]).length = k + 1 by rw [List.length_append, HTL.out]; rfl)
          have HL4 := Lib.hid (show (l.take k ++ [x] ++ l.drop k).length = n + 1 by rw [List.length_append, HL3.out, List.length_drop, ← HN.out]; omega)
          clear hO hb hbw hnil his
          go_wp2_with (first | (at_builtin; refine wpList_append_text rfl (.tmp 34) (.tmp 36) rfl rfl HO2.out (by simp; omega) ⟨wr.heap.size, 0, none⟩ 1 x rfl (by rw [World.cell?_alloc_new]; rfl) rfl (by rw [HTL.out]; omega) ?_; intro v' w3 hO3 hb3; have HO3 := Lib.hid hO3; have HB3 := Lib.hid (HAL.out.trans (HS.out ▸ hb3)); have hz3 : S ≤ w3.heap.size := HS.out ▸ HB3.out.size; obtain ⟨a3, c3, hv3, _, _⟩ := (HO3.out).len; rw [HL3.out] at hv3; subst hv3; clear hO3 hb3) | (at_builtin; refine wpList_append_texts rfl (.tmp 38) (.tmp 41) rfl rfl HO3.out hz3 rfl (HIS.out _ HB3.out) (fun n c e => by injection e with e1 e2 e3; exact e3 ▸ HNIL.out e1) (by rw [HL3.out, List.length_drop]; have := HN.out; omega) ?_; intro v' w4 hO4 hb4; have HO4 := Lib.hid hO4; have HB4 := Lib.hid (HB3.out.trans (HS.out ▸ hb4)); obtain ⟨a4, c4, hv4, _, _⟩ := (HO4.out).len; rw [HL4.out] at hv4; subst hv4; clear hO4 hb4))
          go_ret
          refine ⟨_, rfl, ?_, HB4.out⟩
          have := owns_base HO4.out HBB.out
          have e : putT l x = l.take k ++ [x] ++ l.drop k := by rw [HK.out]; unfold putT; rw [if_neg HM.out]; simp
          rw [e]
          exact this
      · have HK := Lib.hid (aheadN_eq l x k (by rw [← HN.out]; exact hk) HL.out (fun h => absurd (show k < n by rw [HN.out]; exact h) hlt))
        obtain ⟨a', c', htl, hnil, his⟩ := tailT_is HO.out HZ.out HN.out hk
        have HNIL := Lib.hid hnil; have HIS := Lib.hid his
        have HO2 := Lib.hid (hO.below ((Below.refl _ wr).alloc (Nat.le_refl _) (.cells #[.string x] 9)))
        have HAL := Lib.hid (show Below w.heap.size w (wr.alloc (.cells #[.string x] 9)) from hbw.alloc hbw.size _)
        have HL3 := Lib.hid (show (l.take k ++ [x]).length = k + 1 by rw [List.length_append, HTL.out]; rfl)
        have HL4 := Lib.hid (show (l.take k ++ [x] ++ l.drop k).length = n + 1 by rw [List.length_append, HL3.out, List.length_drop, ← HN.out]; omega)
        clear hO hb hbw hnil his
        go_wp2_with (first | (at_builtin; refine wpList_append_text rfl (.tmp 34) (.tmp 36) rfl rfl HO2.out (by simp; omega) ⟨wr.heap.size, 0, none⟩ 1 x rfl (by rw [World.cell?_alloc_new]; rfl) rfl (by rw [HTL.out]; omega) ?_; intro v' w3 hO3 hb3; have HO3 := Lib.hid hO3; have HB3 := Lib.hid (HAL.out.trans (HS.out ▸ hb3)); have hz3 : S ≤ w3.heap.size := HS.out ▸ HB3.out.size; obtain ⟨a3, c3, hv3, _, _⟩ := (HO3.out).len; rw [HL3.out] at hv3; subst hv3; clear hO3 hb3) | (at_builtin; refine wpList_append_texts rfl (.tmp 38) (.tmp 41) rfl rfl HO3.out hz3 rfl (HIS.out _ HB3.out) (fun n c e => by injection e with e1 e2 e3; exact e3 ▸ HNIL.out e1) (by rw [HL3.out, List.length_drop]; have := HN.out; omega) ?_; intro v' w4 hO4 hb4; have HO4 := Lib.hid hO4; have HB4 := Lib.hid (HB3.out.trans (HS.out ▸ hb4)); obtain ⟨a4, c4, hv4, _, _⟩ := (HO4.out).len; rw [HL4.out] at hv4; subst hv4; clear hO4 hb4))
        go_ret
        refine ⟨_, rfl, ?_, HB4.out⟩
        have := owns_base HO4.out HBB.out
        have e : putT l x = l.take k ++ [x] ++ l.drop k := by rw [HK.out]; unfold putT; rw [if_neg HM.out]; simp
        rw [e]
        exact this
end Go.Proofs.Ytlfmkiendaecaaa.DfaW
