/- Walks of layer 1's statements. -/
import Derived.Test.YtgllaecahijlpaaDoorNumWalk7
import Derived.Lib.SlBytesConst
namespace Go.Proofs.YtgllaecahijlpaaDoor.NumW
open Go.RowKit Go.Proofs.YtgllaecahijlpaaDoor.NumM
open Go.Proofs.YtgllaecahijlpaaDoor.Base (ISl wf64 BSl)

theorem bsl_const (W : World) (b : Nat) (s : ByteArray) (n : Nat) (hn : s.size = n) (hm : n ≤ maxLen) (h : ∀ i (h : i < s.size), W.cell? ⟨b, i, none⟩ = some (.int .u8 (s[i].toNat : Int))) : BSl W (.slice (some ⟨b, 0, none⟩) n n) s := by
  subst hn
  exact .inr ⟨b, 0, s.size, rfl, Nat.le_refl _, hm, fun i hi => by rw [Nat.zero_add]; exact h i hi⟩
def abc : ByteArray := ⟨#[97, 123, 49, 50, 44]⟩
theorem show120 : (⟨(showL 120).toArray⟩ : ByteArray) = ⟨#[49, 50, 48]⟩ := by
  have e : showL 120 = [49, 50, 48] := by
    rw [showL_pos (by decide), show (120 : Int).toNat = 120 from rfl, dec_ge (by decide), dec_ge (n := 120 / 10) (by decide), dec_lt (by decide)]; rfl
  rw [e]

theorem knows_any (w : World) (he : Env w) : Calls Tryd.prog 11 #[] w fun e w' => e = .returned (.bool true) ∧ Below w.heap.size w w' := by
  have kc := fun (w : World) (C : Array Value) (n c : Nat) => Lib.run_convert_bytes_const (P := Tryd.prog) w 28 5 C n c Tryd.underlying28 Tryd.underlying5
  have h1 : Calls Tryd.prog 7 #[.string ⟨#[48, 48, 55]⟩, .int .i64 9] w fun e w' => e = .returned (.tuple #[.int .i64 0, .int .i64 3]) ∧ w = w' := Read_any _ _ _ (by decide) (by omega) (by omega)
  obtain ⟨W1, hW1⟩ : ∃ W1, W1 = w.alloc (.cells #[.int .u8 97, .int .u8 123, .int .u8 49, .int .u8 50, .int .u8 44] 5 (5, 6)) := ⟨_, rfl⟩
  have b1 : Below w.heap.size w W1 := by rw [hW1]; exact (Below.refl _ _).alloc (Nat.le_refl _) _
  have e1 := he.below b1
  have h2 : Calls Tryd.prog 12 #[.slice (some ⟨w.heap.size, 0, none⟩) 5 5, .int .i64 2, .int .i64 1000] W1 fun e w' => e = .returned (.tuple #[.int .i64 12, .int .i64 4, .int .i64 0]) ∧ W1 = w' :=
    Take_any _ abc 2 1000 W1 (bsl_const W1 w.heap.size abc 5 rfl (by decide) (fun i hi => by
      rw [hW1, World.cell?_alloc_mark]
      have hi5 : i < 5 := hi
      rcases i with _ | _ | _ | _ | _ | i <;> first | rfl | omega)) (by omega) (by omega) (by omega) (by omega)
  have h3 : Calls Tryd.prog 9 #[.int .i64 120] W1 fun e w' => e = .returned (.string ⟨#[49, 50, 48]⟩) ∧ Below W1.heap.size W1 w' := by
    rw [← show120]; exact Show_any 120 W1 (by omega) (by omega) e1
  have h4 : ∀ W : World, Calls Tryd.prog 14 #[.int .i64 9, .slice (some ⟨W.heap.size, 0, none⟩) 2 2] (W.alloc (.cells #[.int .i64 4, .int .i64 7] 3)) fun e w' => e = .returned (.int .i64 9) ∧ Below (W.alloc (.cells #[.int .i64 4, .int .i64 7] 3)).heap.size (W.alloc (.cells #[.int .i64 4, .int .i64 7] 3)) w' := fun W =>
    Add_any 9 _ [4, 7] _ (.inr ⟨W.heap.size, 0, 2, rfl, by decide, by decide, fun i hi => by
      rw [World.cell?_alloc_new]
      have hi5 : i < 2 := hi
      rcases i with _ | _ | i <;> first | rfl | omega, by decide⟩) (by omega)
  have H1 := Lib.hid h1; have H2 := Lib.hid h2; have H3 := Lib.hid h3; have H4 := Lib.hid h4; have HW := Lib.hid hW1; have HB := Lib.hid b1
  clear h1 h2 h3 h4 b1 e1 he hW1
  go_enter Tryd.func11, Tryd.ntmps11
  go_wp2_with fail
  refine H1.out.mono ?_
  rintro e w1 ⟨rfl, rfl⟩
  go_wp2_with fail
  rw [← HW.out]
  refine H2.out.mono ?_
  rintro e w2 ⟨rfl, rfl⟩
  go_wp2_with fail
  refine H3.out.mono ?_
  rintro e w3 ⟨rfl, hb3⟩
  go_wp2_with fail
  refine (H4.out _).mono ?_
  rintro e w4 ⟨rfl, hb4⟩
  go_wp2_with fail
  go_ret
  exact ⟨rfl, (HB.out.trans (hb3.mono HB.out.size)).trans (((Below.refl _ _).alloc (Nat.le_refl _) _ |>.trans (hb4.mono (by simp))).mono (Nat.le_trans HB.out.size hb3.size))⟩

theorem NumShows_any (n : Int) (s : ByteArray) (most : Int) (w : World) (he : Env w) (hs : s.size ≤ maxLen) (h0 : -9223372036854775808 ≤ n) (h1 : n ≤ 9223372036854775807) (hlo : -9223372036854775808 ≤ most) (hhi : most ≤ 9223372036854775807) :
    Calls Tryd.prog 3 #[.int .i64 n, .string s, .int .i64 most] w fun e w' => e = .returned (.bool true) ∧ Below w.heap.size w w' := by
  have r1 := Read_any s most w hs hlo hhi
  have r2 := refRead_any s most w hs hlo hhi
  have r3 := Show_any n w h0 h1 he
  have r4 := fun w => refShowAll_any n w h1
  have r5 := fun w => knows_any w
  generalize readV s.data.toList most = x at r1 r2
  generalize readE s.data.toList most = y at r1 r2
  generalize (⟨(showL n).toArray⟩ : ByteArray) = z at r3 r4
  have R1 := Lib.hid r1; have R2 := Lib.hid r2; have R3 := Lib.hid r3; have R4 := Lib.hid r4; have R5 := Lib.hid r5
  have HE := Lib.hid he
  clear r1 r2 r3 r4 r5 he
  go_enter Tryd.func3, Tryd.ntmps3
  go_wp2_with fail
  refine R1.out.mono ?_
  rintro e w1 ⟨rfl, rfl⟩
  go_wp2_with fail
  refine R2.out.mono ?_
  rintro e w2 ⟨rfl, rfl⟩
  go_wp2_with fail
  refine R3.out.mono ?_
  rintro e w3 ⟨rfl, hb3⟩
  go_wp2_with fail
  refine (R4.out _).mono ?_
  rintro e w4 ⟨rfl, hb4⟩
  go_wp2_with fail
  refine (R5.out _ ((HE.out.below hb3).below hb4)).mono ?_
  rintro e w5 ⟨rfl, hb5⟩
  go_wp2_with fail
  go_ret
  exact ⟨rfl, (hb3.trans (hb4.mono hb3.size)).trans (hb5.mono (Nat.le_trans hb3.size hb4.size))⟩

theorem NumTakes_any (v : Value) (s : ByteArray) (a most : Int) (w : World) (he : Env w) (hv : BSl w v s) (ha0 : -9223372036854775808 ≤ a) (ha1 : a ≤ 9223372036854775807) (hlo : -9223372036854775808 ≤ most) (hhi : most ≤ 9223372036854775807) :
    Calls Tryd.prog 4 #[v, .int .i64 a, .int .i64 most] w fun e w' => e = .returned (.bool true) ∧ Below w.heap.size w w' := by
  have r1 := Take_any v s a most w hv hlo hhi ha0 ha1
  have r2 := refTake_any v s a most w hv hlo hhi ha0 ha1
  have r5 := knows_any w he
  generalize takeV s.data.toList a most = x at r1 r2
  generalize takeP s.data.toList a most = y at r1 r2
  generalize takeE s.data.toList a most = z at r1 r2
  have R1 := Lib.hid r1; have R2 := Lib.hid r2; have R5 := Lib.hid r5
  clear r1 r2 r5 he hv
  go_enter Tryd.func4, Tryd.ntmps4
  go_wp2_with fail
  refine R1.out.mono ?_
  rintro e w1 ⟨rfl, rfl⟩
  go_wp2_with fail
  refine R2.out.mono ?_
  rintro e w2 ⟨rfl, rfl⟩
  go_wp2_with fail
  refine R5.out.mono ?_
  rintro e w5 ⟨rfl, hb5⟩
  go_wp2_with fail
  go_ret
  exact ⟨rfl, hb5⟩

theorem read_show {n : Int} (h : 0 ≤ n) : readV (showL n) n = n ∧ readE (showL n) n = 0 := by
  have e := val_dec n.toNat
  have h1 := readE_ok (wf_dec n.toNat) (valOk_yes (l := Lib.decDigits n.toNat) (most := n) h (by omega))
  rw [showL_pos h]
  exact ⟨by rw [h1.2, e]; omega, h1.1⟩
theorem show_read {l : List UInt8} {most : Int} (h : readE l most = 0) : showL (readV l most) = l := by
  cases hw : wf l
  · have := (readE_form (most := most) hw).1; rw [this] at h; exact absurd h (by decide)
  · cases hv : valOk l most
    · have := (readE_range hw hv).1; rw [this] at h; exact absurd h (by decide)
    · rw [(readE_ok hw hv).2, showL_pos (by omega)]
      exact dec_val l hw
theorem readV_range (l : List UInt8) (most : Int) (h : most ≤ 9223372036854775807) : -9223372036854775808 ≤ readV l most ∧ readV l most ≤ 9223372036854775807 := by
  unfold readV
  split
  · rename_i hc
    simp only [Bool.and_eq_true, decide_eq_true_eq] at hc
    omega
  · omega

/-- The second half of NumBack, from the second Read on: told at every world. -/
theorem NumBack_any (n : Int) (s : ByteArray) (w : World) (he : Env w) (hs : s.size ≤ maxLen) (h0 : -9223372036854775808 ≤ n) (h1 : n ≤ 9223372036854775807) :
    Calls Tryd.prog 6 #[.int .i64 n, .string s] w fun e w' => e = .returned (.bool true) ∧ Below w.heap.size w w' := by
  have hr := readV_range s.data.toList 4611686018427387904 (by omega)
  have r2 := fun w => Read_any s 4611686018427387904 w hs (by omega) (by omega)
  have r5 := fun w => knows_any w
  have hsr : readE s.data.toList 4611686018427387904 = 0 → (⟨(showL (readV s.data.toList 4611686018427387904)).toArray⟩ : ByteArray) = s := fun h => by rw [show_read h]
  have HE := Lib.hid he; clear he
  generalize readV s.data.toList 4611686018427387904 = x at r2 hsr hr
  generalize readE s.data.toList 4611686018427387904 = y at r2 hsr
  have R2 := Lib.hid r2; have R5 := Lib.hid r5
  have HSR := Lib.hid hsr
  clear r2 r5 hsr
  by_cases hn : 0 ≤ n
  · have r1 := Show_any n w h0 h1 HE.out
    have hlen : (showL n).length ≤ maxLen := by
      rw [showL_pos hn, Lib.decDigits_length]
      have := nDigits_le n.toNat
      have h2 : 10 ≤ n ∨ n < 10 := by omega
      rcases h2 with h2 | h2
      · rw [Lib.nDigits_big (by omega)]
        have := nDigits_le (n.toNat / 10)
        unfold maxLen; omega
      · unfold maxLen; omega
    have r3 := fun w => Read_any ⟨(showL n).toArray⟩ n w hlen h0 h1
    have e3 : (⟨(showL n).toArray⟩ : ByteArray).data.toList = showL n := rfl
    rw [e3, (read_show hn).1, (read_show hn).2] at r3
    generalize (⟨(showL n).toArray⟩ : ByteArray) = z at r1 r3
    have R1 := Lib.hid r1; have R3 := Lib.hid r3
    clear r1 r3 e3 hlen
    by_cases hy : y = 0
    · have hz := HSR.out hy
      have r4 := fun w he => Show_any x w hr.1 hr.2 he
      rw [hz] at r4
      have R4 := Lib.hid r4
      clear r4 hz
      subst hy
      go_enter Tryd.func6, Tryd.ntmps6
      go_wp2_with fail
      refine R1.out.mono ?_
      rintro e w1 ⟨rfl, hb1⟩
      go_wp2_with fail
      refine (R3.out _).mono ?_
      rintro e w2 ⟨rfl, rfl⟩
      go_wp2_with fail
      refine (R2.out _).mono ?_
      rintro e w3 ⟨rfl, rfl⟩
      go_wp2_with fail
      refine (R4.out _ (HE.out.below hb1)).mono ?_
      rintro e w4 ⟨rfl, hb4⟩
      go_wp2_with fail
      refine (R5.out _ ((HE.out.below hb1).below hb4)).mono ?_
      rintro e w5 ⟨rfl, hb5⟩
      go_wp2_with fail
      go_ret
      exact ⟨rfl, (hb1.trans (hb4.mono hb1.size)).trans (hb5.mono (Nat.le_trans hb1.size hb4.size))⟩
    · have hy1 : (y == 0) = false := by simpa using hy
      have hy2 : (y != 0) = true := by simpa using hy
      clear hy
      go_enter Tryd.func6, Tryd.ntmps6
      go_wp2_with fail
      refine R1.out.mono ?_
      rintro e w1 ⟨rfl, hb1⟩
      go_wp2_with fail
      refine (R3.out _).mono ?_
      rintro e w2 ⟨rfl, rfl⟩
      go_wp2_with fail
      refine (R2.out _).mono ?_
      rintro e w3 ⟨rfl, rfl⟩
      go_wp2_with fail
      refine (R5.out _ (HE.out.below hb1)).mono ?_
      rintro e w5 ⟨rfl, hb5⟩
      go_wp2_with fail
      go_ret
      exact ⟨rfl, hb1.trans (hb5.mono hb1.size)⟩
  · by_cases hy : y = 0
    · have hz := HSR.out hy
      have r4 := fun w he => Show_any x w hr.1 hr.2 he
      rw [hz] at r4
      have R4 := Lib.hid r4
      clear r4 hz
      subst hy
      go_enter Tryd.func6, Tryd.ntmps6
      go_wp2_with fail
      refine (R2.out _).mono ?_
      rintro e w3 ⟨rfl, rfl⟩
      go_wp2_with fail
      refine (R4.out _ HE.out).mono ?_
      rintro e w4 ⟨rfl, hb4⟩
      go_wp2_with fail
      refine (R5.out _ (HE.out.below hb4)).mono ?_
      rintro e w5 ⟨rfl, hb5⟩
      go_wp2_with fail
      go_ret
      exact ⟨rfl, hb4.trans (hb5.mono hb4.size)⟩
    · have hy1 : (y == 0) = false := by simpa using hy
      have hy2 : (y != 0) = true := by simpa using hy
      clear hy
      go_enter Tryd.func6, Tryd.ntmps6
      go_wp2_with fail
      refine (R2.out _).mono ?_
      rintro e w3 ⟨rfl, rfl⟩
      go_wp2_with fail
      refine (R5.out _ HE.out).mono ?_
      rintro e w5 ⟨rfl, hb5⟩
      go_wp2_with fail
      go_ret
      exact ⟨rfl, hb5⟩
theorem infoInt : (Tryd.prog.info? 3).map (fun i => (i.zero, i.size, i.bytes)) = some (some (.int .i64 0), 1, 8) := by kernel_rfl
theorem rev_succ {l : List Int} {k : Nat} (h : k < l.length) : (l.reverse.take (k + 1)).map (Value.int .i64) = (l.reverse.take k).map (Value.int .i64) ++ [Value.int .i64 (l[l.length - 1 - k]'(by omega))] := by
  rw [List.take_succ_eq_append_getElem (by simpa using h), List.map_append, List.getElem_reverse]
  rfl

theorem NumSums_any (top : Int) (v : Value) (l : List Int) (w : World) (he : Env w) (hv : ISl .i64 w v l) (hlen : l.length * 8 ≤ 140737488351232) (ht2 : top ≤ 9223372036854775807) :
    Calls Tryd.prog 5 #[.int .i64 top, v] w fun e w' => e = .returned (.bool true) ∧ Below w.heap.size w w' := by
  obtain ⟨i0, hi, hz0, hz1, hz2⟩ := info_parts infoInt
  have r1 := Add_any top v l w hv ht2
  have r2 := fun w h => Mul_any top v l w h ht2
  have r3 := fun w h => refAdd_any top v l w h ht2
  have r4 := fun w h => refMul_any top v l w h ht2
  have r5 : ∀ u W, ISl .i64 W u l.reverse → Calls Tryd.prog 14 #[.int .i64 top, u] W fun e w' => e = .returned (.int .i64 (addS top l)) ∧ Below W.heap.size W w' := fun u W h => by rw [← addS_reverse]; exact Add_any top u l.reverse W h ht2
  have r6 : ∀ u W, ISl .i64 W u l.reverse → Calls Tryd.prog 15 #[.int .i64 top, u] W fun e w' => e = .returned (.int .i64 (mulS top l)) ∧ Below W.heap.size W w' := fun u W h => by rw [← mulS_reverse]; exact Mul_any top u l.reverse W h ht2
  generalize addS top l = x at r1 r3 r5
  generalize mulS top l = y at r2 r4 r6
  have R1 := Lib.hid r1; have R2 := Lib.hid r2; have R3 := Lib.hid r3; have R4 := Lib.hid r4; have R5 := Lib.hid r5; have R6 := Lib.hid r6
  have HE := Lib.hid he; have HV := Lib.hid hv
  clear r1 r2 r3 r4 r5 r6 he hv
  obtain ⟨len, cap, a, hvv, hll⟩ : ∃ len cap a, v = .slice a len cap ∧ l.length = len := by
    rcases HV.out with ⟨_, h1, h2⟩ | ⟨b, o, cap, h1, _⟩
    · exact ⟨_, _, _, h1, by rw [h2]; rfl⟩
    · exact ⟨_, _, _, h1, rfl⟩
  subst hvv
  have HL := Lib.hid hll
  rw [hll] at hlen
  clear hll
  go_enter Tryd.func5, Tryd.ntmps5
  go_wp2_with fail
  refine R1.out.mono ?_
  rintro e w1 ⟨rfl, hb1⟩
  have hv1 := Lib.hid (HV.out.below hb1)
  go_wp2_with fail
  refine (R2.out _ hv1.out).mono ?_
  rintro e w2 ⟨rfl, hb2⟩
  have HB2 := Lib.hid (hb1.trans (hb2.mono hb1.size))
  have hv2 := Lib.hid (hv1.out.below hb2)
  have he2 := Lib.hid ((HE.out.below hb1).below hb2)
  clear hb1 hb2 hv1 HE HV R1 R2
  go_wp2_with fail
  go_loopw [7, 8] (fun u i wr => ∃ (n : Nat) (q : Int), n ≤ len ∧ q = (len : Int) - 1 - n ∧ i = .int .i64 q ∧ wr.ownsRow w2.heap.size 3 1 u n ((l.reverse.take n).map (Value.int .i64)) ∧ Below w2.heap.size w2 wr) (fun _ i _ => (intOf i + 1).toNat)
  case atStart => exact ⟨0, _, Nat.zero_le _, by simp, rfl, by simpa using World.ownsRow_made w2 #[] 0 (base := w2.heap.size) (e := 3) (size := 1) (Nat.le_refl _) (by decide) rfl, (Below.refl _ _).alloc (Nat.le_refl _) _⟩
  case round =>
    obtain ⟨n, q, hn, hq, rfl, hown, hbw⟩ := hrel
    have HOWN := Lib.hid hown
    by_cases hq0 : 0 ≤ q
    · obtain ⟨m, rfl⟩ : ∃ m : Nat, q = m := ⟨q.toNat, by omega⟩
      have hml : m < l.length := by rw [HL.out]; omega
      obtain ⟨b, o, rfl, hc⟩ : ∃ b o, a = some ⟨b, o, none⟩ ∧ wr.cell? ⟨b, o + m, none⟩ = some (.int .i64 (l[m]'hml)) := by
        rcases hv2.out.below hbw with ⟨_, h1, h2⟩ | ⟨b, o, c, h1, _, _, h4, _⟩
        · subst h2; exact absurd hml (by simp)
        · simp only [Value.slice.injEq] at h1
          exact ⟨b, o, h1.1, h4 m hml⟩
      have hnl : n < l.length := by rw [HL.out]; omega
      have hnl' : n < len := by omega
      have HS : Hid ((l.reverse.take (n + 1)).map (Value.int .i64) = (l.reverse.take n).map (Value.int .i64) ++ [Value.int .i64 (l[m]'hml)]) := by
        have h := rev_succ hnl
        have e : l.length - 1 - n = m := by have := HL.out; omega
        simp only [e] at h
        exact h
      generalize hy : (l[m]'hml) = z at *
      have hsz := hbw.size
      have HBW := Lib.hid hbw
      have HQ := Lib.hid hq
      clear hy hbw hq hq0
      have hmb : (m : Int) < len := by have := HQ.out; omega
      go_wp2_with (first | (at_builtin; refine wpList_append_own _ rfl (.tmp 23) (.tmp 28) 32 rfl w2.heap.size 3 i0 (.int .i64 0) 1 8 Tryd.underlying32 hi hz0 hz1 hz2 rfl (by decide) _ _ _ rfl (hown.alloc _) ⟨wr.heap.size, 0, none⟩ 1 1 [.int .i64 z] rfl rfl (cell_one_new _ _ _) (by intro u hu; rw [List.mem_singleton] at hu; subst hu; rfl) (by unfold maxLen; omega) (by omega) (Nat.le_trans hsz (by simp)) ?_; intro v' w4 hown4 hgrow4 _))
      refine ⟨⟨n + 1, (m : Int) - 1, by omega, by have := HQ.out; omega, rfl, ?_, ?_⟩, by simp [intOf]⟩
      · rw [HS.out]; exact hown4
      · exact (HBW.out.alloc hsz _).grown hgrow4 (Nat.le_trans hsz (by simp)) (fun k hk => (World.ownsRow.lt HOWN.out k hk).1)
    · obtain rfl : n = len := by omega
      have HU : Hid (ISl .i64 wr u7 l.reverse) := by
        have h := HOWN.out
        rw [List.take_of_length_le (by rw [List.length_reverse, HL.out]; omega)] at h
        refine Base.isl_of_owns h (fun x hx => ?_)
        rcases hv2.out with ⟨_, _, h2⟩ | ⟨b, o, c, h1, _, _, _, h5⟩
        · subst h2; simp at hx
        · exact h5 x (List.mem_reverse.1 hx)
      have HVR := Lib.hid (hv2.out.below hbw)
      have HER := Lib.hid (he2.out.below hbw)
      have HBW := Lib.hid hbw
      clear hbw hown hq
      go_wp2_with fail
      refine (R3.out _ HVR.out).mono ?_
      rintro e w3 ⟨rfl, rfl⟩
      go_wp2_with fail
      refine (R4.out _ HVR.out).mono ?_
      rintro e w4 ⟨rfl, rfl⟩
      go_wp2_with fail
      refine (R5.out _ _ HU.out).mono ?_
      rintro e w5 ⟨rfl, hb5⟩
      have HU5 := Lib.hid (HU.out.below hb5)
      have HB5 := Lib.hid hb5
      clear hb5
      go_wp2_with fail
      refine (R6.out _ _ HU5.out).mono ?_
      rintro e w6 ⟨rfl, hb6⟩
      have HB6 := Lib.hid hb6
      clear hb6
      go_wp2_with fail
      refine (knows_any _ ((HER.out.below HB5.out).below HB6.out)).mono ?_
      rintro e w7 ⟨rfl, hb7⟩
      go_wp2_with fail
      go_ret
      have a1 := HB2.out
      have a2 := a1.trans (HBW.out.mono a1.size)
      have a3 := a2.trans (HB5.out.mono a2.size)
      have a4 := a3.trans (HB6.out.mono a3.size)
      exact ⟨rfl, a4.trans (hb7.mono a4.size)⟩
end Go.Proofs.YtgllaecahijlpaaDoor.NumW
