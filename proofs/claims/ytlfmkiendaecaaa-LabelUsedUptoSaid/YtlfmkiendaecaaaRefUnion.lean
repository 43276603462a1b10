/- Walk of the document's Union. -/
import Derived.Test.YtlfmkiendaecaaaRefUsed
namespace Go.Proofs.Ytlfmkiendaecaaa.DfaW
set_option linter.unusedVariables false
open Go.RowKit Go.Maps Go.Proofs.Ytlfmkiendaecaaa.PartM Go.Proofs.Ytlfmkiendaecaaa.PartW Go.Proofs.Ytlfmkiendaecaaa.TxM

/-- A slice of lists of texts. -/
def LS (B : Nat) (w : World) (v : Value) (ll : List (List ByteArray)) : Prop := ∃ vs : List Value, VS B w v vs ∧ vs.length = ll.length ∧ ∀ i, i < ll.length → ∃ vi, vs[i]? = some vi ∧ TS B w vi (ll.getD i [])
theorem LS.below {B : Nat} {w w' : World} {v : Value} {ll : List (List ByteArray)} (h : LS B w v ll) (hb : Below B w w') : LS B w' v ll := by
  obtain ⟨vs, h1, h2, h3⟩ := h
  exact ⟨vs, h1.below hb, h2, fun i hi => by obtain ⟨vi, h4, h5⟩ := h3 i hi; exact ⟨vi, h4, h5.below hb⟩⟩
theorem LS.up {B B' : Nat} {w : World} {v : Value} {ll : List (List ByteArray)} (h : LS B w v ll) (hb : B ≤ B') : LS B' w v ll := by
  obtain ⟨vs, h1, h2, h3⟩ := h
  exact ⟨vs, h1.up hb, h2, fun i hi => by obtain ⟨vi, h4, h5⟩ := h3 i hi; exact ⟨vi, h4, h5.up hb⟩⟩
theorem LS.open {B : Nat} {w : World} {v : Value} {ll : List (List ByteArray)} (h : LS B w v ll) : ∃ a cap, v = .slice a ll.length cap ∧ ll.length ≤ cap ∧ cap ≤ maxLen ∧
    ∀ i, i < ll.length → ∃ (b o : Nat) (vi : Value), a = some ⟨b, o, none⟩ ∧ b < B ∧ w.cell? ⟨b, o + i, none⟩ = some vi ∧ TS B w vi (ll.getD i []) := by
  obtain ⟨vs, ⟨a, cap, h1, h2, h3, h4⟩, h5, h6⟩ := h
  rw [h5] at h1 h2 h4
  exact ⟨a, cap, h1, h2, h3, fun i hi => by obtain ⟨b, o, h7, h8, h9⟩ := h4 i hi; obtain ⟨vi, h10, h11⟩ := h6 i hi; exact ⟨b, o, vi, h7, h8, by rw [h9, h10], h11⟩⟩
/-- All texts of the first lists. -/
def flatTo (ll : List (List ByteArray)) (k : Nat) : List ByteArray := (ll.take k).flatten
theorem flatTo_succ (ll : List (List ByteArray)) {k : Nat} (hk : k < ll.length) : flatTo ll (k + 1) = flatTo ll k ++ ll.getD k [] := by
  unfold flatTo
  rw [List.take_succ_eq_append_getElem hk, List.flatten_append, List.getD_eq_getElem?_getD, List.getElem?_eq_getElem hk]; simp
theorem flatTo_all (ll : List (List ByteArray)) : flatTo ll ll.length = ll.flatten := by unfold flatTo; rw [List.take_length]
theorem flatTo_len (ll : List (List ByteArray)) (k : Nat) : (flatTo ll k).length ≤ ll.flatten.length := by
  unfold flatTo
  have : ll.flatten = (ll.take k).flatten ++ (ll.drop k).flatten := by rw [← List.flatten_append, List.take_append_drop]
  rw [this, List.length_append]; omega
theorem part_len (ll : List (List ByteArray)) {k : Nat} (hk : k < ll.length) (j : Nat) : (flatTo ll k ++ (ll.getD k []).take j).length ≤ ll.flatten.length := by
  have h1 := flatTo_len ll (k + 1)
  rw [flatTo_succ ll hk, List.length_append] at h1
  rw [List.length_append, List.length_take]; omega
theorem part_mem (ll : List (List ByteArray)) {k : Nat} (hk : k < ll.length) {j : Nat} {x : ByteArray} (h : x ∈ flatTo ll k ++ (ll.getD k []).take j) : x ∈ ll.flatten := by
  have h1 : x ∈ flatTo ll (k + 1) := by
    rw [flatTo_succ ll hk]
    exact List.mem_append.2 ((List.mem_append.1 h).imp id List.mem_of_mem_take)
  unfold flatTo at h1
  obtain ⟨l, hl, hx⟩ := List.mem_flatten.1 h1
  exact List.mem_flatten.2 ⟨l, List.mem_of_mem_take hl, hx⟩
theorem LS.szs {B : Nat} {w : World} {v : Value} {ll : List (List ByteArray)} (h : LS B w v ll) : Szs ll.flatten := fun x hx => by
  obtain ⟨l, hl, hx⟩ := List.mem_flatten.1 hx
  obtain ⟨i, hi, rfl⟩ := List.mem_iff_getElem.1 hl
  obtain ⟨vs, _, _, h3⟩ := h
  obtain ⟨vi, _, h5⟩ := h3 i hi
  rw [List.getD_eq_getElem?_getD, List.getElem?_eq_getElem hi] at h5
  exact h5.szs x hx
theorem risen_szs {xs : List ByteArray} (h : Szs xs) : Szs (risen xs) := fun x hx => h x (mem_risen.1 hx)

set_option maxRecDepth 100000 in
set_option maxHeartbeats 4000000 in
theorem refUnion_any {v : Value} {ll : List (List ByteArray)} (w : World) (h : LS w.heap.size w v ll) (hl : ll.flatten.length ≤ 4194303) :
    Calls Try.prog 11 #[v] w fun e w' => ∃ v', e = .returned v' ∧ OS w' w.heap.size v' (risen ll.flatten) ∧ Below w.heap.size w w' := by
  have HSZ := Lib.hid h.szs
  obtain ⟨a, cap, rfl, h1, h2, h3⟩ := h.open
  obtain ⟨n, hn⟩ : ∃ n, n = ll.length := ⟨_, rfl⟩
  have hni : (n : Int) ≤ 9223372036854775807 := by unfold maxLen at h2; omega
  have HN := Lib.hid hn
  rw [← hn] at h3 ⊢
  have HC := Lib.hid h3; have HLL := Lib.hid hl
  have HO0 := Lib.hid (OS.empty w)
  have HB0 := Lib.hid (show Below w.heap.size w (w.alloc (.cells #[] 9)) from (Below.refl _ _).alloc (Nat.le_refl _) _)
  clear h h1 h2 h3 hn hl
  go_enter Try.func11, Try.ntmps11
  go_wp2_with fail
  go_loopw [3, 4] (fun u i wr => ∃ k : Nat, k ≤ n ∧ i = .int .i64 k ∧ OS wr w.heap.size u (risen (flatTo ll k)) ∧ Below w.heap.size w wr) (fun _ i _ => n - (intOf i).toNat)
  case atStart => exact ⟨0, Nat.zero_le _, rfl, HO0.out, HB0.out⟩
  case round =>
    obtain ⟨k, hk, rfl, hO, hb⟩ := hrel
    clear HO0 HB0
    obtain ⟨au, cu, rfl, _, _⟩ := hO.len
    have HO := Lib.hid hO; have HB := Lib.hid hb
    by_cases hlt : k < n
    · obtain ⟨b, o, vi, rfl, hb1, hc1, hi1⟩ := HC.out k hlt
      obtain ⟨ar, cr, rfl, g1, g2, g3⟩ := hi1.open
      obtain ⟨r, hr⟩ : ∃ r, r = ll.getD k [] := ⟨_, rfl⟩
      obtain ⟨R, hR⟩ : ∃ R, R = r.length := ⟨_, rfl⟩
      have hmR : (R : Int) ≤ 9223372036854775807 := by unfold maxLen at g2; rw [← hr, ← hR] at g1; omega
      rw [← hr, ← hR] at g3 hc1
      have HG := Lib.hid g3
      have HRR := Lib.hid (show r = ll.getD k [] ∧ R = r.length from ⟨hr, hR⟩)
      have HLT := Lib.hid hlt
      have HC1 := Lib.hid (show b < w.heap.size ∧ w.cell? ⟨b, o + k, none⟩ = some (.slice ar R cr) from ⟨hb1, hc1⟩)
      clear hO hb hi1 g1 g2 g3 hr hR hc1 hb1
      go_wp2_with fail
      go_loopw [3, 5] (fun u i wr => ∃ j : Nat, j ≤ R ∧ i = .int .i64 j ∧ OS wr w.heap.size u (risen (flatTo ll k ++ r.take j)) ∧ Below w.heap.size w wr) (fun _ i _ => R - (intOf i).toNat)
      case atStart => exact ⟨0, Nat.zero_le _, rfl, by rw [List.take_zero, List.append_nil]; exact HO.out, HB.out⟩
      case round =>
        obtain ⟨j, hj, rfl, hO, hb⟩ := hrel
        clear HO HB
        have c1 := (hb.cell (p := ⟨b, o + k, none⟩) HC1.out.1).trans HC1.out.2
        have hlen : (risen (flatTo ll k ++ r.take j)).length ≤ 4194304 := by
          have h1 := risen_len (flatTo ll k ++ r.take j)
          have h2 := part_len ll (show k < ll.length by rw [← HN.out]; exact HLT.out) j
          rw [← HRR.out.1] at h2
          have := HLL.out
          omega
        have HPU := Lib.hid (fun x => put_any wr hO hb.size x hlen (risen_szs fun y hy => HSZ.out y (part_mem ll (show k < ll.length by rw [← HN.out]; exact HLT.out) (by rw [HRR.out.1] at hy; exact hy))))
        obtain ⟨au, cu, rfl, _, _⟩ := hO.len
        obtain ⟨L, hL⟩ : ∃ L, L = (risen (flatTo ll k ++ r.take j)).length := ⟨_, rfl⟩
        rw [← hL] at hO HPU ⊢
        have HO := Lib.hid hO; have HB := Lib.hid hb
        by_cases hlj : j < R
        · obtain ⟨b4, o4, rfl, hb4, hc4⟩ := HG.out j hlj
          have c2 := (hb.cell (p := ⟨b4, o4 + j, none⟩) hb4).trans hc4
          have HE := Lib.hid (takeT_snoc r (show j < r.length by rw [← HRR.out.2]; exact hlj))
          obtain ⟨x, hx⟩ : ∃ x, x = r.getD j ByteArray.empty := ⟨_, rfl⟩
          rw [← hx] at c2 HE
          have HLJ := Lib.hid hlj
          clear hx hb hc4 hb4 hO hL hlen
          go_wp2_with fail
          refine (HPU.out x).mono ?_
          rintro e w2 ⟨v', rfl, ho, hb2⟩
          have HO2 := Lib.hid ho
          have HB2 := Lib.hid (HB.out.trans (hb2.mono HB.out.size))
          clear ho hb2 c1 c2
          obtain ⟨a', c', rfl, _, _⟩ := HO2.out.len
          go_wp2_with fail
          refine ⟨⟨j + 1, HLJ.out, by go_num, ?_, HB2.out⟩, by have := HLJ.out; simp [intOf]; omega⟩
          rw [HE.out, ← List.append_assoc, risen_snoc]
          exact HO2.out
        · have hjR : j = R := by omega
          have HE := Lib.hid (show flatTo ll k ++ r.take j = flatTo ll (k + 1) by rw [hjR, HRR.out.2, List.take_length, flatTo_succ ll (by rw [← HN.out]; exact HLT.out), HRR.out.1])
          clear hjR hb hO hL hlen
          go_wp2_with fail
          refine ⟨⟨k + 1, HLT.out, by go_num, ?_, HB.out⟩, by have := HLT.out; simp [intOf]; omega⟩
          rw [← HE.out]
          exact HO.out
    · have hkn : k = n := by omega
      have HE := Lib.hid (show flatTo ll k = ll.flatten by rw [hkn, HN.out, flatTo_all])
      clear hkn hO hb
      go_wp2_with fail
      go_ret
      refine ⟨_, rfl, ?_, HB.out⟩
      rw [← HE.out]
      exact HO.out
end Go.Proofs.Ytlfmkiendaecaaa.DfaW
