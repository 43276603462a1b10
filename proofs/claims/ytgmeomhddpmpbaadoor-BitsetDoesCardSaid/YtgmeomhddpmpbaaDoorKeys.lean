/- BitsetKeys. -/
import Derived.Test.YtgmeomhddpmpbaaDoorNil
import Derived.Test.YtgmeomhddpmpbaaDoorKeyMath
namespace Go.Proofs.YtgmeomhddpmpbaaDoor.BitsW
set_option linter.unusedVariables false
open Go.RowKit Go.Shelf Go.Proofs.YtgmeomhddpmpbaaDoor.SetM

/-- A slice of small numbers that came in. -/
def USl (w : World) (v : Value) (l : List Nat) : Prop :=
  ∃ a cap, v = .slice a l.length cap ∧ l.length ≤ maxLen ∧ ∀ j, j < l.length → ∃ b o : Nat, a = some ⟨b, o, none⟩ ∧ w.cell? ⟨b, o + j, none⟩ = some (.int .u16 (l.getD j 0 : Nat)) ∧ l.getD j 0 < 65536
theorem wf16 {x : Int} (h : (Lit.int .u16 x).wf = true) : 0 ≤ x ∧ x < 65536 := by
  have h1 : IntKind.u16.min = 0 := rfl
  have h2 : IntKind.u16.max = 65535 := rfl
  simp only [Lit.wf, Bool.and_eq_true, decide_eq_true_eq] at h
  omega
theorem usl_of {w : World} {v : Value} {l : List Int} (h : Base.ISl .u16 w v l) : USl w v (l.map Int.toNat) := by
  rcases h with ⟨a, rfl, rfl⟩ | ⟨b, o, cap, rfl, h1, h2, h3, h4⟩
  · exact ⟨a, 0, rfl, Nat.zero_le _, fun j hj => by simp at hj⟩
  · refine ⟨_, cap, by rw [List.length_map], by rw [List.length_map]; omega, fun j hj => ?_⟩
    rw [List.length_map] at hj
    have hw := wf16 (h4 l[j] (List.getElem_mem hj))
    have e : (l.map Int.toNat).getD j 0 = l[j].toNat := by simp [List.getD, hj]
    refine ⟨b, o, rfl, ?_, by rw [e]; omega⟩
    rw [h3 j hj, e, Int.toNat_of_nonneg hw.1]
/-- The numbers of a list. -/
def ofN (l : List Nat) : Nat → Bool := fun i => l.contains i
theorem ofN_into {l : List Nat} {n : Nat} (h : ∀ x ∈ l, x < n) : ∀ i, ofN l i = true → i < n := fun i hi => h i (by simpa [ofN] using hi)
theorem putF_ofN {l : List Nat} {n x : Nat} (h : x < n) : putF n (ofN l) (x : Int) = ofN (l ++ [x]) := by
  funext i
  simp only [putF, inR_cast, h, decide_true, if_true, Int.toNat_natCast, withF, ofN, List.contains_append, List.contains_cons, List.contains_nil, Bool.or_false]
theorem putF_front {l : List Nat} {n x : Nat} (h : x < n) : putF n (ofN l) (x : Int) = ofN (x :: l) := by
  funext i
  simp only [putF, inR_cast, h, decide_true, if_true, Int.toNat_natCast, withF, ofN, List.contains_cons]
  exact Bool.or_comm _ _
theorem drop_front (l : List Nat) (j : Nat) (h : j < l.length) : l.drop j = l.getD j 0 :: l.drop (j + 1) := by
  rw [List.getD_eq_getElem?_getD, List.getElem?_eq_getElem h]
  exact List.drop_eq_getElem_cons h
theorem Own1.other {w W W' : World} {p q n q1 : Nat} {f : Nat → Bool} (h : Own1 w W p q n f) (hg : 0 < w.heap.size) (hb : But W.heap.size (some q1) W W') (hq : w.heap.size ≤ q1) (h1 : q1 ≠ p) (h2 : q1 ≠ q) : Own1 w W' p q n f :=
  ⟨h.bt.but hb h.bt.lt.1 h.bt.lt.2 (fun e => h1 (by injection e)) (fun e => h2 (by injection e)), h.env.up hb (Nat.lt_of_lt_of_le hg h.b.size) (fun e => by injection e with e; omega), h.b.trans ((hb.mono h.b.size).below (fun k e => by cases e; exact hq)), h.p, h.q⟩
theorem ba_self (a : ByteArray) : (a.toList == a.toList) = true := by simp
theorem ba_ne {a b : ByteArray} (h : a ≠ b) : (a.toList == b.toList) = false := by
  rw [beq_eq_false_iff_ne]
  intro e
  rw [ByteArray.toList_eq, ByteArray.toList_eq] at e
  exact h (Base.ba_ext e)
set_option maxRecDepth 100000 in
set_option maxHeartbeats 4000000 in
theorem BitsetKeys_any (v : Value) (l : List Nat) (n i : Nat) (hn : n < 256) (hi : i < 65536) (w : World) (he : EnvC w) (hl : USl w v l) :
    Calls Tryd.prog 5 #[v, .int .u8 n, .int .u16 i] w fun e w' => e = .returned (.bool true) ∧ Below w.heap.size w w' := by
  have hg := he.lt
  have HE := Lib.hid he
  obtain ⟨a, cap, rfl, hml, hc⟩ := hl
  have HC := Lib.hid hc
  clear he hc
  have hlx : ∀ x ∈ l, x < 65536 := fun x hx => by
    obtain ⟨j, hj, rfl⟩ := List.mem_iff_getElem.1 hx
    obtain ⟨_, _, _, _, h⟩ := HC.out j hj
    rwa [List.getD_eq_getElem?_getD, List.getElem?_eq_getElem hj] at h
  have HLX := Lib.hid hlx
  clear hlx
  generalize hm : l.length = m at *
  have HM := Lib.hid hm
  clear hm
  have hni : IntKind.i64.wrap (n : Int) = (n : Int) := by rw [IntKind.wrap_i64]; omega
  have hml2 : (m : Int) ≤ 9223372036854775807 := by unfold maxLen at hml; omega
  clear hml
  go_enter Tryd.func5, Tryd.ntmps5
  go_wp2_with fail
  refine (New_yes 65536 _ (by omega)).mono ?_
  rintro e w1 (⟨_, pa, qa, hpa, hqa, rfl, hB, hb⟩ | ⟨h, _⟩)
  · rw [show ((65536 : Nat) : Int).toNat = 65536 from rfl] at hB
    have H1 := Lib.hid (show Own1 w w1 pa qa 65536 emptyF from ⟨hB, HE.out.below hg hb, hb, hpa, hqa⟩)
    have hlt1 := hB.lt
    clear hB hb HE
    go_wp2_with fail
    rw [show (65536 : Int) + (n : Int) = ((65536 + n : Nat) : Int) by omega]
    have hM1 : 65536 ≤ 65536 + n := by omega
    have hM2 : 65536 + n ≤ 65791 := by omega
    generalize 65536 + n = M at *
    refine (New_yes M _ (by omega)).mono ?_
    rintro e w2 (⟨_, pb, qb, hpb, hqb, rfl, hB, hb⟩ | ⟨h, _⟩)
    · rw [Int.toNat_natCast] at hB
      have H2 := Lib.hid (H1.out.next hg hb)
      have G2 := Lib.hid (show Own1 w w2 pb qb M emptyF from ⟨hB, H2.out.env, H2.out.b, Nat.le_trans H1.out.b.size hpb, Nat.le_trans H1.out.b.size hqb⟩)
      have d1 : qa ≠ pb := by omega
      have d2 : qa ≠ qb := by omega
      have d3 : qb ≠ pa := by omega
      have d4 : qb ≠ qa := by omega
      clear hB hb H1 hlt1 hpb hqb hni
      go_wp2_with fail
      go_loopw [11] (fun k wr => ∃ j : Nat, j ≤ m ∧ k = .int .i64 j ∧ Own1 w wr pa qa 65536 (ofN (l.take j)) ∧ Own1 w wr pb qb M (ofN (l.drop (m - j)))) (fun k _ => m - (intOf k).toNat)
      case atStart =>
        refine ⟨0, Nat.zero_le _, rfl, ?_, ?_⟩
        · rw [List.take_zero]; exact H2.out
        · rw [Nat.sub_zero, List.drop_of_length_le (by rw [HM.out]; exact Nat.le_refl _)]; exact G2.out
      case round =>
        obtain ⟨j, hj, rfl, hA, hB⟩ := hrel
        by_cases hlt : j < m
        · obtain ⟨b, o, rfl, hc1, hx1⟩ := HC.out j hlt
          obtain ⟨b', o', hbe, hc2, hx2⟩ := HC.out (m - 1 - j) (by omega)
          simp only [Option.some.injEq, Addr.mk.injEq, and_true] at hbe
          obtain ⟨rfl, rfl⟩ := hbe
          have e1 := (hA.b.cell (p := ⟨b, o + j, none⟩) (World.block_lt_of_cell? _ _ hc1)).trans hc1
          have HC2 := Lib.hid hc2
          have hbw := World.block_lt_of_cell? _ _ hc1
          have hT : ((m : Int) - 1 - (j : Int)).toNat = m - 1 - j := by omega
          have HT := Lib.hid (take_snoc l j (by rw [HM.out]; exact hlt))
          have HD := Lib.hid (show l.drop (m - (j + 1)) = l.getD (m - 1 - j) 0 :: l.drop (m - j) by rw [show m - (j + 1) = m - 1 - j by omega, drop_front l _ (by rw [HM.out]; omega), show m - 1 - j + 1 = m - j by omega])
          generalize l.getD j 0 = x at *
          generalize l.getD (m - 1 - j) 0 = y at *
          have HA := Lib.hid hA; have HB := Lib.hid hB
          clear hA hB hc1 hc2
          go_wp2_with fail
          refine (Put_any pa qa 65536 _ x _ HA.out.bt).mono ?_
          rintro e w3 ⟨rfl, hB3, hb3⟩
          rw [putF_ofN hx1, ← HT.out] at hB3
          have HA3 := Lib.hid (HA.out.write hg hb3 hB3)
          have HB3 := Lib.hid (HB.out.other hg hb3 HA.out.q d1 d2)
          clear hB3 hb3 HA HB e1
          have e2 : w3.cell? ⟨b, o + (m - 1 - j), none⟩ = some (.int .u16 (y : Nat)) := (HA3.out.b.cell (p := ⟨b, _, none⟩) hbw).trans HC2.out
          go_wp2_with fail
          refine (Put_any pb qb M _ y _ HB3.out.bt).mono ?_
          rintro e w4 ⟨rfl, hB4, hb4⟩
          rw [putF_front (by omega), ← HD.out] at hB4
          have HB4 := Lib.hid (HB3.out.write hg hb4 hB4)
          have HA4 := Lib.hid (HA3.out.other hg hb4 HB3.out.q d3 d4)
          clear hB4 hb4 HA3 HB3 e2
          go_wp2_with fail
          exact ⟨⟨j + 1, by omega, by go_num, HA4.out, HB4.out⟩, by simp [intOf]; omega⟩
        · have HA := Lib.hid (show Own1 w wr pa qa 65536 (ofN l) by rw [List.take_of_length_le (by rw [HM.out]; omega)] at hA; exact hA)
          have HB := Lib.hid (show Own1 w wr pb qb M (ofN l) by rw [show m - j = 0 by omega, List.drop_zero] at hB; exact hB)
          have HF1 := Lib.hid (ofN_into HLX.out)
          have HF2 := Lib.hid (fun i h => Nat.lt_of_lt_of_le (ofN_into HLX.out i h) hM1 : ∀ i, ofN l i = true → i < M)
          clear hA hB HC HLX HM hml2
          generalize ofN l = F at *
          have HKS := Lib.hid (key_same (n := M) (m := 65536) HF2.out HF1.out)
          have HUS := Lib.hid (upTo_any (n := M) (m := 65536) HF2.out HF1.out)
          go_wp2_with fail
          refine (Copy_any pb qb M F _ HB.out.bt).mono ?_
          rintro e w5 ⟨pc, qc, hpc, hqc, rfl, hB5, hb5⟩
          have A1 := Lib.hid (HA.out.next hg hb5)
          have B1 := Lib.hid (HB.out.next hg hb5)
          have C1 := Lib.hid (show Own1 w w5 pc qc M F from ⟨hB5, B1.out.env, B1.out.b, Nat.le_trans HB.out.b.size hpc, Nat.le_trans HB.out.b.size hqc⟩)
          have hla := HA.out.bt.lt
          have hlb := HB.out.bt.lt
          have x1 : qc ≠ pa := by omega
          have x2 : qc ≠ qa := by omega
          have x3 : qc ≠ pb := by omega
          have x4 : qc ≠ qb := by omega
          clear hB5 hb5 HA HB hla hlb hpc hqc
          go_wp2_with fail
          refine (Key_any (some ⟨pa, 0, none⟩) qa 65536 F _ (src_of A1.out.bt)).mono ?_
          rintro e w6 ⟨rfl, hb⟩
          have A2 := Lib.hid (A1.out.next hg hb); have B2 := Lib.hid (B1.out.next hg hb); have C2 := Lib.hid (C1.out.next hg hb)
          clear hb A1 B1 C1
          go_wp2_with fail
          refine (Key_any (some ⟨pb, 0, none⟩) qb M F _ (src_of B2.out.bt)).mono ?_
          rw [HKS.out]
          rintro e w7 ⟨rfl, hb⟩
          have A3 := Lib.hid (A2.out.next hg hb); have B3 := Lib.hid (B2.out.next hg hb); have C3 := Lib.hid (C2.out.next hg hb)
          clear hb A2 B2 C2
          have hkn : ((keyOf F 65536).toList != (keyOf F 65536).toList) = false := by rw [bne, ba_self]; rfl
          go_wp2_with fail
          refine (All_any (some ⟨pa, 0, none⟩) qa 65536 F _ (src_of A3.out.bt) A3.out.env).mono ?_
          rintro e w8 ⟨u1, rfl, hown, hb⟩
          have N1 := Lib.hid (nsl_of hown)
          have A4 := Lib.hid (A3.out.next hg hb); have B4 := Lib.hid (B3.out.next hg hb); have C4 := Lib.hid (C3.out.next hg hb)
          clear hb A3 B3 C3 hown hkn
          go_wp2_with fail
          refine (All_any (some ⟨pb, 0, none⟩) qb M F _ (src_of B4.out.bt) B4.out.env).mono ?_
          rintro e w9 ⟨u2, rfl, hown, hb⟩
          have hn2 := nsl_of hown
          rw [HUS.out] at hn2
          have N2 := Lib.hid hn2
          have N3 := Lib.hid (N1.out.below hb)
          have A5 := Lib.hid (A4.out.next hg hb); have B5 := Lib.hid (B4.out.next hg hb); have C5 := Lib.hid (C4.out.next hg hb)
          clear hb A4 B4 C4 hown hn2 N1
          go_wp2_with fail
          refine (refSame_any u1 u2 _ _ _ N3.out N2.out (Nat.le_trans (upTo_length F 65536) (by decide)) (Nat.le_trans (upTo_length F 65536) (by decide))).mono ?_
          rintro e w9b ⟨rfl, hb⟩
          rw [show (upTo F 65536 == upTo F 65536) = true by simp]
          have A6 := Lib.hid (A5.out.next hg hb); have B6 := Lib.hid (B5.out.next hg hb); have C6 := Lib.hid (C5.out.next hg hb)
          clear hb A5 B5 C5 N3 N2
          obtain ⟨N, hN⟩ : ∃ N, (upTo F M).length = N := ⟨_, rfl⟩
          have hNb : N ≤ 65791 := by rw [← hN]; exact Nat.le_trans (upTo_length F M) hM2
          have HN := Lib.hid hN
          clear hN
          cases hfi : F i
          · have HFI := Lib.hid hfi
            have HPB := Lib.hid (show putB M F (i : Int) = true by unfold putB; rw [hasI_cast, hfi, inR_cast]; simp; omega)
            have HPF := Lib.hid (show putF M F (i : Int) = withF F i by unfold putF; rw [inR_cast]; simp only [show i < M by omega, decide_true, if_true, Int.toNat_natCast])
            obtain ⟨N1, hN1⟩ : ∃ N1, N1 = N + 1 := ⟨_, rfl⟩
            have HLN := Lib.hid (show (upTo (withF F i) M).length = N1 by rw [← insL_upTo hfi M (by omega), insL_len, HN.out, hN1])
            have t5 : decide ((N1 : Int) - (N : Int) < 2) = true := by simp; omega
            have t6 : ((N1 : Int) == (N : Int)) = false := by simp; omega
            have t7 : wrap64 ((N1 : Int) - (N : Int)) = (N1 : Int) - (N : Int) := by unfold wrap64; omega
            have hN1b : N1 ≤ 65792 := by omega
            clear hN1
            have HWI := Lib.hid (withF_into HF2.out (show i < M by omega))
            have HNE := Lib.hid (show keyOf F 65536 ≠ keyOf (withF F i) M from fun h => by have h2 := key_diff (by omega) (by omega) HF1.out HWI.out h; have h3 := congrFun h2 i; rw [hfi] at h3; simp [withF] at h3)
            clear hfi
            go_wp2_with fail
            refine (Has_any pc qc M F i _ C6.out.bt).mono ?_
            rw [hasI_cast, HFI.out]
            rintro e w10 ⟨rfl, hb⟩
            have A7 := Lib.hid (A6.out.next hg hb); have B7 := Lib.hid (B6.out.next hg hb); have C7 := Lib.hid (C6.out.next hg hb)
            clear hb A6 B6 C6
            go_wp2_with fail
            refine (Put_any pc qc M F i _ C7.out.bt).mono ?_
            rw [HPB.out, HPF.out]
            rintro e w11 ⟨rfl, hB, hb⟩
            have A8 := Lib.hid (A7.out.other hg hb C7.out.q x1 x2); have B8 := Lib.hid (B7.out.other hg hb C7.out.q x3 x4); have C8 := Lib.hid (C7.out.write hg hb hB)
            clear hb hB A7 B7 C7
            go_wp2_with fail
            refine (Has_any pb qb M F i _ B8.out.bt).mono ?_
            rw [hasI_cast, HFI.out]
            rintro e w12 ⟨rfl, hb⟩
            have A9 := Lib.hid (A8.out.next hg hb); have B9 := Lib.hid (B8.out.next hg hb); have C9 := Lib.hid (C8.out.next hg hb)
            clear hb A8 B8 C8
            go_wp2_with fail
            refine (Key_any (some ⟨pa, 0, none⟩) qa 65536 F _ (src_of A9.out.bt)).mono ?_
            rintro e w13 ⟨rfl, hb⟩
            have B10 := Lib.hid (B9.out.next hg hb); have C10 := Lib.hid (C9.out.next hg hb)
            clear hb A9 B9 C9
            go_wp2_with fail
            refine (Key_any (some ⟨pc, 0, none⟩) qc M (withF F i) _ (src_of C10.out.bt)).mono ?_
            have hkk0 := HNE.out
            generalize keyOf F 65536 = KK at *
            generalize keyOf (withF F i) M = KC at *
            have hkk : (KK.toList == KC.toList) = false := ba_ne hkk0
            clear hkk0
            rintro e w14 ⟨rfl, hb⟩
            have B11 := Lib.hid (B10.out.next hg hb); have C11 := Lib.hid (C10.out.next hg hb)
            clear hb B10 C10
            go_wp2_with fail
            refine (Count_any (some ⟨pc, 0, none⟩) qc M (withF F i) _ (src_of C11.out.bt)).mono ?_
            rw [HLN.out]
            rintro e w15 ⟨rfl, hb⟩
            have B12 := Lib.hid (B11.out.next hg hb); have C12 := Lib.hid (C11.out.next hg hb)
            clear hb B11 C11
            go_wp2_with fail
            refine (Count_any (some ⟨pb, 0, none⟩) qb M F _ (src_of B12.out.bt)).mono ?_
            rw [HN.out]
            rintro e w16 ⟨rfl, hb⟩
            have B13 := Lib.hid (B12.out.next hg hb); have C13 := Lib.hid (C12.out.next hg hb)
            clear hb B12 C12
            go_wp2_with fail
            refine (Count_any (some ⟨pc, 0, none⟩) qc M (withF F i) _ (src_of C13.out.bt)).mono ?_
            rw [HLN.out]
            rintro e w17 ⟨rfl, hb⟩
            have B14 := Lib.hid (B13.out.next hg hb); have C14 := Lib.hid (C13.out.next hg hb)
            clear hb B13 C13
            go_wp2_with fail
            refine (Count_any (some ⟨pb, 0, none⟩) qb M F _ (src_of B14.out.bt)).mono ?_
            rw [HN.out]
            rintro e w18 ⟨rfl, hb⟩
            have B15 := Lib.hid (B14.out.next hg hb); have C15 := Lib.hid (C14.out.next hg hb)
            clear hb B14 C14
            go_wp2_with fail
            refine (knows_any _ B15.out.env).mono ?_
            rintro e w19 ⟨rfl, hb⟩
            have B16 := Lib.hid (B15.out.next hg hb)
            clear hb B15 C15
            go_wp2_with fail
            go_ret
            exact ⟨rfl, B16.out.b⟩
          · have HFI := Lib.hid hfi
            have HPB := Lib.hid (show putB M F (i : Int) = false by unfold putB; rw [hasI_cast, hfi]; simp)
            have HPF := Lib.hid (show putF M F (i : Int) = F by unfold putF; rw [inR_cast]; simp only [show i < M by omega, decide_true, if_true, Int.toNat_natCast]; exact withF_in hfi)
            clear hfi
            go_wp2_with fail
            refine (Has_any pc qc M F i _ C6.out.bt).mono ?_
            rw [hasI_cast, HFI.out]
            rintro e w10 ⟨rfl, hb⟩
            have A7 := Lib.hid (A6.out.next hg hb); have B7 := Lib.hid (B6.out.next hg hb); have C7 := Lib.hid (C6.out.next hg hb)
            clear hb A6 B6 C6
            go_wp2_with fail
            refine (Put_any pc qc M F i _ C7.out.bt).mono ?_
            rw [HPB.out, HPF.out]
            rintro e w11 ⟨rfl, hB, hb⟩
            have A8 := Lib.hid (A7.out.other hg hb C7.out.q x1 x2); have B8 := Lib.hid (B7.out.other hg hb C7.out.q x3 x4); have C8 := Lib.hid (C7.out.write hg hb hB)
            clear hb hB A7 B7 C7
            go_wp2_with fail
            refine (Has_any pb qb M F i _ B8.out.bt).mono ?_
            rw [hasI_cast, HFI.out]
            rintro e w12 ⟨rfl, hb⟩
            have A9 := Lib.hid (A8.out.next hg hb); have B9 := Lib.hid (B8.out.next hg hb); have C9 := Lib.hid (C8.out.next hg hb)
            clear hb A8 B8 C8
            go_wp2_with fail
            refine (Key_any (some ⟨pa, 0, none⟩) qa 65536 F _ (src_of A9.out.bt)).mono ?_
            rintro e w13 ⟨rfl, hb⟩
            have B10 := Lib.hid (B9.out.next hg hb); have C10 := Lib.hid (C9.out.next hg hb)
            clear hb A9 B9 C9
            go_wp2_with fail
            refine (Key_any (some ⟨pc, 0, none⟩) qc M F _ (src_of C10.out.bt)).mono ?_
            rw [HKS.out]
            generalize keyOf F 65536 = KK at *
            have hkk : (KK.toList == KK.toList) = true := ba_self KK
            rintro e w14 ⟨rfl, hb⟩
            have B11 := Lib.hid (B10.out.next hg hb); have C11 := Lib.hid (C10.out.next hg hb)
            clear hb B10 C10
            go_wp2_with fail
            refine (Count_any (some ⟨pc, 0, none⟩) qc M F _ (src_of C11.out.bt)).mono ?_
            rw [HN.out]
            rintro e w15 ⟨rfl, hb⟩
            have B12 := Lib.hid (B11.out.next hg hb); have C12 := Lib.hid (C11.out.next hg hb)
            clear hb B11 C11
            go_wp2_with fail
            refine (Count_any (some ⟨pb, 0, none⟩) qb M F _ (src_of B12.out.bt)).mono ?_
            rw [HN.out]
            rintro e w16 ⟨rfl, hb⟩
            have B13 := Lib.hid (B12.out.next hg hb); have C13 := Lib.hid (C12.out.next hg hb)
            clear hb B12 C12
            go_wp2_with fail
            refine (Count_any (some ⟨pc, 0, none⟩) qc M F _ (src_of C13.out.bt)).mono ?_
            rw [HN.out]
            rintro e w17 ⟨rfl, hb⟩
            have B14 := Lib.hid (B13.out.next hg hb); have C14 := Lib.hid (C13.out.next hg hb)
            clear hb B13 C13
            go_wp2_with fail
            refine (Count_any (some ⟨pb, 0, none⟩) qb M F _ (src_of B14.out.bt)).mono ?_
            rw [HN.out]
            rintro e w18 ⟨rfl, hb⟩
            have B15 := Lib.hid (B14.out.next hg hb); have C15 := Lib.hid (C14.out.next hg hb)
            clear hb B14 C14
            go_wp2_with fail
            refine (knows_any _ B15.out.env).mono ?_
            rintro e w19 ⟨rfl, hb⟩
            have B16 := Lib.hid (B15.out.next hg hb)
            clear hb B15 C15
            go_wp2_with fail
            go_ret
            exact ⟨rfl, B16.out.b⟩
    · exact absurd h (by simp [inR]; omega)
  · exact absurd h (by decide)
end Go.Proofs.YtgmeomhddpmpbaaDoor.BitsW
