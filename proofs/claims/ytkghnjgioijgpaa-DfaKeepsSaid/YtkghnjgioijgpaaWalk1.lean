/- The sequence that goes through states as they are met. -/
import Derived.Test.YtkghnjgioijgpaaWalkMath
import Derived.Laws.EntriesVeiled
import Derived.WalkMore
namespace Go.Proofs.Ytkghnjgioijgpaa.DfaW
set_option linter.unusedVariables false
open Go.RowKit Go.Shelf Go.Maps Go.Proofs.Ytkghnjgioijgpaa.PartW Go.Proofs.Ytkghnjgioijgpaa.DfaM
attribute [local go_sem] Oper.semAt_some

theorem wpIn_scope_wide {n : Nat} {P : Program} {c : Code} {Q : Exit → Act → World → Prop} {a : Act} {w : World} (h : c.wpIn Fence.wide n P (Exit.noGoto Q) a w) : (Code.scope c).wpIn Fence.wide n P Q a w :=
  wpIn_wide.2 (wp_scope_straight (wpIn_wide.1 h))
theorem walk_any (a a' : Option Addr) (m c m' c' : Nat) (w : World) :
    Calls Try.prog 60 #[.slice a m c, .slice a' m' c'] w fun e w' => e = .returned (.func (.func 72) #[] #[.pointer (some ⟨w.heap.size + 1, 0, none⟩), .pointer (some ⟨w.heap.size, 0, none⟩)]) ∧ (w.alloc (.cells #[.slice a m c] 24)).alloc (.cells #[.slice a' m' c'] 23) = w' := by
  have hmf : ∀ (fn : Fn) (first cap : Array Value) (w : World), (Instr.makeFunc fn first cap).run Try.prog w = .ok (.func fn first cap) w := fun _ _ _ _ => rfl
  go_enter Try.func60, Try.ntmps60
  go_wp2_with fail
  go_ret
  exact ⟨rfl, rfl⟩
theorem info4 : (Try.prog.info? 4).map (fun i => (i.zero, i.size, i.bytes)) = some (some (.bool false), 1, 1) := by kernel_rfl
theorem info24 : (Try.prog.info? 24).map (fun i => (i.zero, i.size, i.bytes)) = some (some (.slice none 0 0), 1, 24) := by kernel_rfl
theorem run_tail (g off m c : Nat) (hm : m ≤ c) : ∃ o', (0 < c → o' = off + 1) ∧ ∀ W, (Instr.slice 23 (.slice (some ⟨g, off, none⟩) (m + 1) (c + 1)) (some (.int .i64 1)) none none).run Try.prog W = .ok (.slice (some ⟨g, o', none⟩) m c) W := by
  have ht : Try.prog.underlying 23 = some (.slice 24) := Try.underlying23
  have ht' : Try.prog.underlying 23 = some (.slice (Try.prog.elem 23)) := by simp [Program.elem, ht]
  have he : Try.prog.elem 23 = 24 := by simp [Program.elem, ht]
  by_cases h0 : c = 0
  · subst h0
    obtain rfl : m = 0 := by omega
    refine ⟨off, fun h => by omega, fun W => ?_⟩
    rw [run_slice_l W 23 _ _ _ ht' .i64 1 (by omega) (by omega), he, Try.sizeOf24]
    simp [Result.andThen, sliced]
  · refine ⟨off + 1, fun _ => rfl, fun W => ?_⟩
    rw [run_slice_l W 23 _ _ _ ht' .i64 1 (by omega) (by omega), he, Try.sizeOf24]
    simp [Result.andThen, sliced, Addr.add, h0]
theorem madeB (w : World) (N : Nat) : Ar (w.alloc (.cells (madeCells #[.bool false] N) 4)) w.heap.size (madeCells #[.bool false] N) 4 ∧ (madeCells #[Value.bool false] N).size = N ∧ ∀ i, i < N → (madeCells #[Value.bool false] N)[i]? = some (.bool (decide (i ∈ ([] : List Nat)))) := by
  refine ⟨Ar.new _ _ _, by rw [size_madeCells], fun i hi => ?_⟩
  rw [← Array.getElem?_toList, toList_madeCells_one]
  simp [hi]

set_option maxRecDepth 100000 in
set_option maxHeartbeats 4000000 in
theorem walk1_in (n : Nat) (hn : 1 ≤ n) (l Bl Bq Bs B0 n0 N : Nat) {leads : List (List Nat)} {ql : List Nat} {vL vQ : Value} (J : List Nat → World → Prop) (W : World) (hB0 : W.heap.size = B0)
    (hJ : AbidesIt B0 J) (hY : ∀ pre x W1, J pre W1 → pre.length < N → YieldAt Fence.wide (n - 1) Try.prog l #[.int .i64 (x : Nat)] W1 fun e W' => e = .returned (.bool true) ∧ J (pre ++ [x]) W' ∧ Kb B0 Bs W1 W')
    (hin : In (fun s => leads.getD s []) ql N) (hN0 : 0 < N) (hN : N ≤ 65536) (hBl : Bl < B0 ∧ Bl ≠ Bs) (hBq : Bq < B0 ∧ Bq ≠ Bs) (hBs : Bs < B0) (hn0 : n0 ≤ Bs)
    (hL : W.cell? ⟨Bl, 0, none⟩ = some vL) (hQ : W.cell? ⟨Bq, 0, none⟩ = some vQ) (hRL : RS n0 W vL (castLL leads)) (hIQ : IS n0 W vQ (castL ql)) (hlen : leads.length = N) (h0 : J [] W) :
    CallsIn Fence.wide n Try.prog 72 #[.func (.yield l) #[] #[], .pointer (some ⟨Bl, 0, none⟩), .pointer (some ⟨Bq, 0, none⟩)] W fun e W' => (∃ v, e = .returned v) ∧ ∃ xs, xs = fin (fun s => leads.getD s []) ql N ∧ J xs W' := by
  obtain ⟨i24, hi, hz0, hz1, hz2⟩ := info_parts info24
  obtain ⟨nb, hnb⟩ : ∃ nb, nb = fun s => leads.getD s [] := ⟨_, rfl⟩
  rw [← hnb] at hin ⊢
  have HNB := Lib.hid hnb; have HIN := Lib.hid hin
  have HL := Lib.hid hL; have HQ := Lib.hid hQ; have HIQ := Lib.hid hIQ; have HY := Lib.hid hY; have HJ := Lib.hid hJ; have H0 := Lib.hid h0
  obtain ⟨aL, cL, rfl, p1, p2, p3⟩ := hRL.open
  rw [castLL_len, hlen] at p3 hL
  obtain ⟨aQ, cQ, rfl, q1, q2, q3⟩ := hIQ.open
  have HR := Lib.hid p3
  have HB := Lib.hid (show (Bl < B0 ∧ Bl ≠ Bs) ∧ (Bq < B0 ∧ Bq ≠ Bs) ∧ Bs < B0 ∧ n0 ≤ Bs from ⟨hBl, hBq, hBs, hn0⟩)
  have hmk : ∀ w, (Instr.makeSlice 85 (.int .i64 (N : Nat)) (.int .i64 (N : Nat))).run Try.prog w = .ok (.slice (some ⟨w.heap.size, 0, none⟩) N N) (w.alloc (.cells (madeCells #[.bool false] N) 4)) := fun w =>
    run_make_row' 85 4 (.bool false) 1 Try.underlying85 info4 rfl .i64 .i64 N (by omega) (by omega) w
  have hQ1 : (W.alloc (.cells (madeCells #[.bool false] N) 4)).cell? ⟨Bq, 0, none⟩ = some (.slice aQ (castL ql).length cQ) := by
    rw [((Below.refl W.heap.size W).alloc (Nat.le_refl _) _).cell (p := ⟨Bq, 0, none⟩) (by rw [hB0]; exact hBq.1)]; exact hQ
  have hNi : (N : Int) ≤ 65536 := by omega
  have HNN := Lib.hid (show 0 < N ∧ N ≤ 65536 from ⟨hN0, hN⟩)
  clear hnb hin hIQ hY hJ h0 p1 p2 p3 q1 q2 q3 hRL hBl hBq hBs hn0 hN hN0 hQ
  refine callsIn_of_wp Try.func72 rfl trivial ?_ rfl
  simp only [Try.ntmps72, List.size_toArray, List.length_cons, List.length_nil, Nat.reduceAdd, Nat.reduceSub, Array.replicate_succ, Array.replicate_zero, List.push_toArray, List.append_toArray, List.nil_append, List.cons_append]
  gi_wp2
  have hB1 : Below B0 W (W.alloc (.cells (madeCells #[.bool false] N) 4)) := (Below.refl _ _).alloc (by rw [hB0]; exact Nat.le_refl _) _
  have hW0 : Wk B0 Bs B0 N n0 W ((W.alloc (.cells (madeCells #[.bool false] N) 4)).alloc (.cells #[.slice aQ (castL ql).length cQ] 24)) [] (.slice (some ⟨B0 + 1, 0, none⟩) 1 1) [ql] := by
    obtain ⟨m1, m2, m3⟩ := madeB W N
    rw [hB0] at m1
    refine ⟨⟨by simp; omega, fun k k1 k2 k3 => ((hB1.alloc (by simp; omega) _).block k k1)⟩, ⟨_, m1.alloc _, m2, m3⟩, ⟨[.slice aQ (castL ql).length cQ], ⟨_, 1, rfl, Nat.le_refl _, by decide, fun h => (by cases h), fun _ => ⟨B0 + 1, 0, #[.slice aQ (castL ql).length cQ], rfl, by omega, ?_, by simp, fun i hi => ?_⟩⟩, rfl, fun i hi => ?_⟩⟩
    · have := Ar.new (W.alloc (.cells (madeCells #[.bool false] N) 4)) #[.slice aQ (castL ql).length cQ] 24
      rw [World.size_alloc, hB0] at this; exact this
    · obtain rfl : i = 0 := by simpa using hi
      rfl
    · obtain rfl : i = 0 := by simpa using hi
      exact ⟨_, rfl, HIQ.out⟩
  have hJ0 : J [] ((W.alloc (.cells (madeCells #[.bool false] N) 4)).alloc (.cells #[.slice aQ (castL ql).length cQ] 24)) := HJ.out _ _ _ H0.out (ItStep.of_below (((Below.refl _ _).alloc (Nat.le_refl _) _).alloc (by simp) _))
  have HW0 := Lib.hid hW0; have HJ0 := Lib.hid hJ0
  have hSZ : B0 ≤ ((W.alloc (.cells (madeCells #[.bool false] N) 4)).alloc (.cells #[.slice aQ (castL ql).length cQ] 24)).heap.size := by simp; omega
  have HSZ := Lib.hid hSZ
  clear hW0 hJ0 hB1 hSZ H0 hQ1 hmk
  generalize ((W.alloc (.cells (madeCells #[.bool false] N) 4)).alloc (.cells #[.slice aQ (castL ql).length cQ] 24)) = W2 at *
  gi_loopw [5] (fun v wr => ∃ (o : List Nat) (rows : List (List Nat)), Hid (St nb ql N o rows) ∧ J o wr ∧ B0 ≤ wr.heap.size ∧ Wk B0 Bs B0 N n0 W wr o v rows) (fun v wr => N - metN wr B0 N + lenV v)
  case atStart => exact ⟨[], [ql], Lib.hid (.inl ⟨rfl, rfl⟩), HJ0.out, HSZ.out, HW0.out⟩
  case round =>
    obtain ⟨o, rows, HS, hJo, hsz, hW⟩ := hrel
    clear HJ0 HSZ HW0
    have hM := hW.metN HS.out.nodup (HS.out.lt HIN.out)
    have hV := hW.lenV
    have hoN := nodup_le HS.out.nodup (HS.out.lt HIN.out)
    cases rows with
    | nil =>
      have HE := Lib.hid (HS.out.done HIN.out)
      have HJo := Lib.hid hJo
      obtain ⟨vs, hw1, hw2, _⟩ := hW.win
      obtain rfl : vs = [] := List.length_eq_zero_iff.1 hw2
      obtain ⟨a, cap, rfl⟩ := hw1.len
      clear hJo hW hw1 hw2 hM hV
      gi_wp2
      go_end0
      exact ⟨⟨_, rfl⟩, o, HE.out, HJo.out⟩
    | cons r rest =>
      obtain ⟨vs, hw1, hw2, hw3⟩ := hW.win
      cases vs with
      | nil => cases hw2
      | cons v0 vs =>
        obtain ⟨g, off, cap, rfl, hc, hle, hcm, hnx⟩ := hw1.first
        obtain ⟨o', ho', htl⟩ := run_tail g off vs.length cap hle
        have hwin := hnx o' ho'
        obtain ⟨u, hu, hr⟩ := hw3 0 (by simp)
        simp only [List.getElem?_cons_zero, Option.some.injEq] at hu
        subst hu
        obtain ⟨ar, cr, rfl, s1, s2, s3⟩ := hr.open
        rw [castL_len] at hc s3 s1
        rw [show (r :: rest).getD 0 [] = r from rfl] at hc s3 s1
        have HS3 := Lib.hid s3
        obtain ⟨R, hR⟩ : ∃ R, R = r.length := ⟨_, rfl⟩
        have hRi : (R : Int) ≤ 9223372036854775807 := by unfold maxLen at s2; omega
        rw [← hR] at hc
        obtain ⟨m, hm⟩ : ∃ m, m = vs.length := ⟨_, rfl⟩
        have hmi : (m : Int) ≤ 9223372036854775807 := by unfold maxLen at hcm; omega
        rw [← hm] at htl ⊢
        have hm0 : (0 : Int) < (m : Int) + 1 := by omega
        have hm1 : (1 : Int) ≤ (m : Int) + 1 := by omega
        have hm2 : 0 < m + 1 := by omega
        have HM := Lib.hid hm; have HRR := Lib.hid hR
        have HST := Lib.hid (HS.out.next HIN.out)
        have HRN := Lib.hid (HS.out.row HIN.out)
        have HND := Lib.hid HS.out.nodup; have HLT := Lib.hid (HS.out.lt HIN.out)
        have HW3 := Lib.hid (show vs.length = rest.length ∧ ∀ i, i < rest.length → ∃ vi, vs[i]? = some vi ∧ IS n0 W vi (castL (rest.getD i [])) from ⟨by simpa using hw2, fun i hi => by
          obtain ⟨x, x1, x2⟩ := hw3 (i + 1) (by simp; omega)
          exact ⟨x, by simpa using x1, by simpa using x2⟩⟩)
        have HMV := Lib.hid (show metN wr B0 N = o.length ∧ o.length ≤ N from ⟨hM, hoN⟩)
        have HW0 := Lib.hid (show Wk B0 Bs B0 N n0 W wr (puts o (r.take 0)) (.slice (some ⟨g, o', none⟩) m cap) (rest ++ ((puts o (r.take 0)).drop o.length).map nb) from by
          have e1 : puts o (r.take 0) = o := by simp [puts]
          rw [e1, List.drop_length, List.map_nil, List.append_nil]
          exact ⟨hW.kc, hW.met, ⟨vs, by rw [hm]; exact hwin, HW3.out.1, HW3.out.2⟩⟩)
        have HJo := Lib.hid (show J (puts o (r.take 0)) wr by simpa [puts] using hJo)
        clear hm hR hW hw1 hw2 hw3 hM hoN hwin hnx hr s1 s2 s3 hle hcm hJo
        gi_wp2
        refine wpIn_scope_wide ?_
        gi_wp2
        refine wpIn_label ?_
        gi_wp2
        gi_loopw [5, 24] (fun v i wr => ∃ j : Nat, j ≤ R ∧ i = .int .i64 j ∧ J (puts o (r.take j)) wr ∧ B0 ≤ wr.heap.size ∧ Wk B0 Bs B0 N n0 W wr (puts o (r.take j)) v (rest ++ ((puts o (r.take j)).drop o.length).map nb)) (fun _ i _ => R - (intOf i).toNat)
        case atStart => exact ⟨0, Nat.zero_le _, rfl, HJo.out, hsz, HW0.out⟩
        case round =>
          rename_i wr1 _ _
          obtain ⟨j, hj, rfl, hJ, hsz2, hW⟩ := hrel
          clear HJo HW0
          by_cases hlj : j < R
          · have hjr : j < r.length := by rw [← HRR.out]; exact hlj
            obtain ⟨x, hx⟩ : ∃ x, x = r.getD j 0 := ⟨_, rfl⟩
            have hxN : x < N := by
              rw [hx, List.getD_eq_getElem?_getD, List.getElem?_eq_getElem hjr]
              exact HRN.out _ (List.getElem_mem hjr)
            obtain ⟨br, obr, rfl, hbr, hcr⟩ := HS3.out j hjr
            rw [castL_at, ← hx] at hcr
            have hcr1 := hW.kc.cell (k := br) (by have := HB.out; omega) (by have := HB.out; omega) hcr
            obtain ⟨hmet, hfz⟩ := hW.cell hxN
            have hPT := puts_take o r hjr
            rw [← hx] at hPT
            have HPO := Lib.hid (puts_ok (ts := r.take j) HND.out HLT.out (fun y hy => HRN.out y (List.mem_of_mem_take hy)))
            have HJ1 := Lib.hid hJ; have HW1 := Lib.hid hW; have HLJ := Lib.hid hlj
            have hxi : (x : Int) < N := by omega
            clear hJ hW hcr hbr hjr hx
            by_cases hmem : x ∈ puts o (r.take j)
            · have HE := Lib.hid (show puts o (r.take (j + 1)) = puts o (r.take j) by rw [hPT, put_old hmem])
              rw [decide_eq_true hmem] at hmet
              clear hmem hPT
              gi_wp2
              exact ⟨⟨j + 1, HLJ.out, by go_num, by rw [HE.out]; exact HJ1.out, hsz2, by rw [HE.out]; exact HW1.out⟩, by have := HLJ.out; simp [intOf]; omega⟩
            · have HE := Lib.hid (show puts o (r.take (j + 1)) = puts o (r.take j) ++ [x] by rw [hPT, put_new hmem])
              have HDR := Lib.hid (drop_put (o := o) hmem)
              obtain ⟨o1, ho1⟩ : ∃ o1, o1 = puts o (r.take j) := ⟨_, rfl⟩
              rw [← ho1] at HJ1 HW1 HPO HE HDR hmem hmet
              have hol : o1.length < N := by
                have := nodup_le (l := o1 ++ [x]) (by rw [← put_new hmem]; exact put_nodup HPO.out.1) (fun y hy => by
                  rcases List.mem_append.1 hy with h | h
                  · exact HPO.out.2.1 y h
                  · rw [List.mem_singleton.1 h]; exact hxN)
                simp at this
                omega
              obtain ⟨C, hAr, _, _⟩ := HW1.out.met
              have hJ2 := HJ.out _ _ _ HJ1.out (ItStep.of_met hAr (Nat.le_refl _) x (.bool true))
              obtain ⟨fn, tmps, assign, body, hyy, hRd⟩ := HY.out o1 x _ hJ2 hol
              have HZR := Lib.hid hRd
              rw [decide_eq_false hmem] at hmet
              have HMEM := Lib.hid hmem
              have HOL := Lib.hid hol
              clear hmem hPT hRd hJ2 hAr ho1 hol
              gi_wp2
              refine HZR.out.mono ?_
              rintro e W3 ⟨rfl, hJ3, hk3⟩
              have hW3 := (HW1.out.meet (Nat.le_refl _) x hxN).kb (Nat.le_refl _) HB.out.2.2.1 hk3
              have hs3 : B0 ≤ W3.heap.size := Nat.le_trans (by simpa [World.setCell] using hsz2) hk3.size
              have hLc := hW3.kc.cell HB.out.1.1 HB.out.1.2 HL.out
              rw [castLL_len, hlen] at hLc
              obtain ⟨bx, ox, vx, rfl, hbx, hcx, hvx⟩ := HR.out x hxN
              have hcx3 := hW3.kc.cell (k := bx) (by have := HB.out; omega) (by have := HB.out; omega) hcx
              rw [castLL_at] at hvx
              obtain ⟨ax, cx, rfl, _, _, _⟩ := hvx.open
              obtain ⟨q, hq⟩ : ∃ q, q = (castL (leads.getD x [])).length := ⟨_, rfl⟩
              rw [← hq] at hcx3 hvx
              obtain ⟨vs3, hw3, hl3, hi3⟩ := hW3.win
              obtain ⟨av, cv, rfl⟩ := hw3.len
              have hJ4 := HJ.out _ _ _ hJ3 (ItStep.of_below (B0 := B0) ((Below.refl _ _).alloc (Nat.le_refl _) (.cells #[.slice ax q cx] 24)))
              have hW4 := hW3.up hs3 ((Below.refl _ _).alloc (Nat.le_refl _) (.cells #[.slice ax q cx] 24))
              have hw4 := hw3.same (w' := W3.alloc (.cells #[.slice ax q cx] 24)) fun k cs _ hc => ((Below.refl _ _).alloc (Nat.le_refl _) _).block k (Array.getElem?_eq_some_iff.1 hc).1
              have hvl : vs3.length ≤ 200000 := by
                rw [hl3]
                simp only [List.length_append, List.length_map, List.length_drop]
                have h1 := HPO.out.2.2
                have h2 := HW3.out.1
                have h3 := (HS.out.len HIN.out)
                have h4 := HNN.out.2
                simp only [List.length_cons] at h3
                omega
              have HJ4 := Lib.hid hJ4; have HW4 := Lib.hid hW4; have Hw4 := Lib.hid hw4; have HVX := Lib.hid hvx; have HI3 := Lib.hid (show vs3.length = (rest ++ List.map nb (List.drop o.length o1)).length ∧ _ from ⟨hl3, hi3⟩)
              have hs4 : B0 ≤ (W3.alloc (.cells #[.slice ax q cx] 24)).heap.size := by simp; omega
              clear hJ3 hk3 hW3 hJ4 hW4 hw3 hw4 hvx hl3 hi3 hcx hbx hmet hfz hyy hcr1 hq
              gi_wp2_with (gi_at_builtin; refine wpListIn_append_win _ rfl _ _ 23 rfl B0 24 i24 (.slice none 0 0) 24 Try.underlying23 hi hz0 hz1 hz2 rfl rfl Hw4.out hs4 ⟨W3.heap.size, 0, none⟩ 1 (.slice ax q cx) rfl (by rw [World.cell?_alloc_new]; rfl) rfl rfl (by unfold maxLen; omega) (by omega) ?_; intro v' W5 hwin5 hst5)
              have hrow : IS n0 W (.slice ax q cx) (castL (nb x)) := by rw [HNB.out]; exact HVX.out
              have hW5 := HW4.out.append hs4 (Nat.le_refl _) HI3.out hwin5 hst5 hrow
              refine ⟨⟨j + 1, HLJ.out, rfl, ?_, Nat.le_trans hs4 hst5.size, ?_⟩, by have := HLJ.out; simp [intOf]; omega⟩
              · rw [HE.out]; exact HJ.out _ _ _ HJ4.out (ItStep.of_win hst5)
              · rw [HE.out, HDR.out, List.map_append, ← List.append_assoc]; exact hW5
          · have hjR : j = R := by omega
            have ht : r.take j = r := List.take_of_length_le (by rw [← HRR.out]; omega)
            rw [ht] at hJ hW
            have HJ1 := Lib.hid hJ; have HW1 := Lib.hid hW
            have HPO := Lib.hid (puts_ok (ts := r) HND.out HLT.out HRN.out)
            clear hJ hW ht hjR
            gi_wp2
            rw [Exit.noGoto_normal]
            gi_wp2
            refine ⟨⟨_, _, HST, HJ1.out, hsz2, HW1.out⟩, ?_⟩
            rw [HW1.out.metN HPO.out.1 HPO.out.2.1, HW1.out.lenV, HMV.out.1]
            have h1 := HMV.out.2
            have h2 := HPO.out.2.2
            have h3 := puts_len (o := o) (ts := r)
            have h4 := HM.out
            have h5 := HW3.out.1
            simp only [lenV, List.length_append, List.length_map, List.length_drop]
            omega
end Go.Proofs.Ytkghnjgioijgpaa.DfaW
