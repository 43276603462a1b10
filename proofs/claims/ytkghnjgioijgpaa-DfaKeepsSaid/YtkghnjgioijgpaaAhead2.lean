/- Walk of ahead. -/
import Derived.Test.YtkghnjgioijgpaaAhead
namespace Go.Proofs.Ytkghnjgioijgpaa.DfaW
set_option linter.unusedVariables false
open Go.RowKit Go.Maps Go.Proofs.Ytkghnjgioijgpaa.PartM Go.Proofs.Ytkghnjgioijgpaa.PartW Go.Proofs.Ytkghnjgioijgpaa.DfaM

theorem info24' : (Try.prog.info? 24).map (fun i => (i.zero, i.size, i.bytes)) = some (some (.slice none 0 0), 1, 24) := by kernel_rfl
theorem ah_made (w : World) (n : Nat) : Ah w.heap.size w.heap.size n (w.alloc (.cells (madeCells #[.slice none 0 0] n) 24)) (fun _ => []) := by
  refine ⟨Nat.le_refl _, _, fun _ => .slice none 0 0, Ar.new _ _ _, by rw [size_madeCells], fun i hi => ⟨?_, OI.nil _ _⟩, fun i j _ _ _ g hg => by simp [Value.ownBlock] at hg⟩
  rw [← Array.getElem?_toList, toList_madeCells_one]
  simp [hi]
theorem oi_snoc {w : World} {base : Nat} {v : Value} {l : List Nat} {f : Nat} (h : w.ownsRow base 3 1 v ((castL l).length + 1) ((castL l).map (Value.int .i64) ++ [.int .i64 (f : Int)])) : OI w base v (castL (l ++ [f])) := by
  have e1 : (castL (l ++ [f])).length = (castL l).length + 1 := by simp [castL]
  have e2 : (castL (l ++ [f])).map (Value.int .i64) = (castL l).map (Value.int .i64) ++ [.int .i64 (f : Int)] := by simp [castL]
  show w.ownsRow base 3 1 v _ _
  rw [e1, e2]; exact h
set_option maxRecDepth 100000 in
set_option maxHeartbeats 4000000 in
theorem ahead_any {v : Value} {ld : List (List Nat)} (w : World) (h : RS w.heap.size w v (castLL ld)) (n : Nat) (hn : ld.length = n) (hN : n ≤ 65536) (hlt : ∀ f, f < n → ∀ t ∈ ld.getD f [], t < n) :
    Calls Try.prog 45 #[v] w fun e w' => ∃ v', e = .returned v' ∧ RS w'.heap.size w' v' (castLL ((List.range n).map (preL (fun f => ld.getD f []) n))) ∧ Below w.heap.size w w' := by
  obtain ⟨a, cap, rfl, h1, h2, h3⟩ := h.open
  rw [castLL_len, hn] at h3
  rw [castLL_len, hn] at h1
  rw [show Value.slice a (castLL ld).length cap = .slice a n cap by rw [castLL_len, hn]]
  have HC := Lib.hid h3
  obtain ⟨nb, hnb⟩ : ∃ nb : Nat → List Nat, nb = fun f => ld.getD f [] := ⟨_, rfl⟩
  have HNB := Lib.hid (fun f => congrFun hnb f)
  have HLT := Lib.hid (show ∀ f, f < n → ∀ t ∈ nb f, t < n by rw [hnb]; exact hlt)
  rw [← hnb]
  have hni : (n : Int) ≤ 65536 := by omega
  have hmk : ∀ w, (Instr.makeSlice 23 (.int .i64 (n : Nat)) (.int .i64 (n : Nat))).run Try.prog w = .ok (.slice (some ⟨w.heap.size, 0, none⟩) n n) (w.alloc (.cells (madeCells #[.slice none 0 0] n) 24)) := fun w =>
    run_make_row' 23 24 (.slice none 0 0) 24 Try.underlying23 info24' rfl .i64 .i64 n (by omega) (by omega) w
  have HA0 := Lib.hid (ah_made w n)
  have HB0 := Lib.hid (show Below w.heap.size w (w.alloc (.cells (madeCells #[.slice none 0 0] n) 24)) from (Below.refl _ _).alloc (Nat.le_refl _) _)
  obtain ⟨i0, hi, hz0, hz1, hz2⟩ := info_parts info3
  clear h h1 h2 h3 hn hnb hlt
  go_enter Try.func45, Try.ntmps45
  go_wp2_with fail
  obtain ⟨S, hS⟩ : ∃ S, S = w.heap.size := ⟨_, rfl⟩
  have HS := Lib.hid hS
  rw [← hS] at HA0 HB0 HC ⊢
  generalize (w.alloc (.cells (madeCells #[.slice none 0 0] n) 24)) = W0 at *
  clear hmk hS
  go_loopw [14] (fun i wr => ∃ f : Nat, f ≤ n ∧ i = .int .i64 f ∧ Ah S S n wr (preL nb f) ∧ Below S w wr) (fun i _ => n - (intOf i).toNat)
  case atStart => exact ⟨0, Nat.zero_le _, rfl, HA0.out, HB0.out⟩
  case round =>
    obtain ⟨f, hf, rfl, hA, hb⟩ := hrel
    clear HA0 HB0
    by_cases hfn : f < n
    · obtain ⟨b, o, vi, rfl, hb1, hc1, hr1⟩ := HC.out f hfn
      have c1 := (hb.cell (p := ⟨b, o + f, none⟩) hb1).trans hc1
      rw [castLL_at, ← HNB.out f] at hr1
      obtain ⟨ar, cr, rfl, q1, q2, q3⟩ := hr1.open
      rw [castL_len] at q1 q3 c1
      obtain ⟨R, hR⟩ : ∃ R, R = (nb f).length := ⟨_, rfl⟩
      have hRi : (R : Int) ≤ 9223372036854775807 := by unfold maxLen at q2; omega
      rw [← hR] at q3 c1
      have HRR := Lib.hid hR; have HQ := Lib.hid q3; have HFN := Lib.hid hfn
      have HA := Lib.hid hA; have HB := Lib.hid hb
      clear hb1 hc1 hr1 q1 q2 q3 hR hA hb
      go_wp2_with fail
      go_loopw [21] (fun i wr => ∃ j : Nat, j ≤ R ∧ i = .int .i64 j ∧ Ah S S n wr (preJ nb f j) ∧ Below S w wr) (fun i _ => R - (intOf i).toNat)
      case atStart => exact ⟨0, Nat.zero_le _, rfl, HA.out.congr fun t _ => (preJ_zero nb f t).symm, HB.out⟩
      case round =>
        obtain ⟨j, hj, rfl, hA, hb⟩ := hrel
        clear HA HB c1
        by_cases hlj : j < R
        · obtain ⟨br, obr, rfl, hbr, hcr⟩ := HQ.out j hlj
          have hjl : j < (nb f).length := by rw [← HRR.out]; exact hlj
          obtain ⟨t, ht⟩ : ∃ t, t = (nb f).getD j 0 := ⟨_, rfl⟩
          rw [castL_at, ← ht] at hcr
          have htn : t < n := HLT.out f hfn t (by rw [ht, List.getD_eq_getElem?_getD, List.getElem?_eq_getElem hjl]; exact List.getElem_mem _)
          have c2 := (hb.cell (p := ⟨br, obr + j, none⟩) hbr).trans hcr
          obtain ⟨u, hu, hfz, hO⟩ := hA.at htn
          have HPN := Lib.hid (fun x => preJ_next nb hjl x)
          obtain ⟨au, cu, rfl, _, _⟩ := hO.len
          rw [castL_len] at hO hu
          have hsz : S ≤ wr.heap.size := by rw [HS.out]; rw [HS.out] at hb; exact hb.size
          have HA := Lib.hid hA; have HB := Lib.hid hb; have HLJ := Lib.hid hlj; have HT := Lib.hid ht
          have HPL := Lib.hid (preJ_len nb f j t)
          by_cases hin : t ∈ (nb f).take j
          · have hpj : preJ nb f j t = preL nb f t ++ [f] := by unfold preJ; rw [if_pos hin]
            have HE := Lib.hid (show ∀ x, preJ nb f (j + 1) x = preJ nb f j x from fun x => by
              rw [HPN.out x, if_neg]
              rintro ⟨h1, h2⟩
              rw [← HT.out] at h1
              exact h2 (by rw [h1]; exact hin))
            rw [hpj] at hO hu
            obtain ⟨g, rfl, hgc⟩ := OI.at hO (i := (preL nb f t).length) (by rw [castL_len]; simp)
            rw [castL_at] at hgc
            rw [show (preL nb f t ++ [f]).getD (preL nb f t).length 0 = f by simp [List.getD]] at hgc
            obtain ⟨q, hq⟩ : ∃ q, q = (preL nb f t).length := ⟨_, rfl⟩
            rw [List.length_append, List.length_singleton, ← hq] at hO hu
            rw [← hq] at hgc
            have hqi : (q : Int) ≤ 65536 := by have := preL_len nb f t; omega
            have hcast : ((q + 1 : Nat) : Int) = (q : Int) + 1 := by omega
            have t0 : (((q : Int) + 1) == 0) = false := by simp <;> omega
            have t1 : ((f : Int) != (f : Int)) = false := by simp
            have hw1 : wrap64 ((q : Int) + 1 - 1) = q := by unfold wrap64; omega
            clear hin hpj hA hb hO hfz hbr hcr hjl ht hq
            go_wp2_with fail
            exact ⟨⟨j + 1, HLJ.out, by go_num, HA.out.congr fun x _ => (HE.out x).symm, HB.out⟩, by have := HLJ.out; simp [intOf]; omega⟩
          · have hpj : preJ nb f j t = preL nb f t := by unfold preJ; rw [if_neg hin, List.append_nil]
            have HE := Lib.hid (show ∀ x, (if x = t then preL nb f t ++ [f] else preJ nb f j x) = preJ nb f (j + 1) x from fun x => by
              rw [HPN.out x]
              by_cases e : x = t
              · rw [if_pos e, if_pos ⟨by rw [e, HT.out], by rw [e]; exact hin⟩, e, hpj]
              · rw [if_neg e, if_neg fun h => e (by rw [h.1, HT.out])])
            rw [hpj] at hO hu
            obtain ⟨q, hq⟩ : ∃ q, q = (preL nb f t).length := ⟨_, rfl⟩
            have hqi : (q : Int) ≤ 65536 := by have := preL_len nb f t; omega
            rw [← hq] at hO hu
            have HU := Lib.hid hu
            have HLTF := Lib.hid (fun x (h : x ∈ preL nb f t) => preL_lt h)
            cases q with
            | zero =>
              have hqi0 : (0 : Int) ≤ 65536 := by decide
              clear hqi
              have HQL := Lib.hid (preL_len nb f t)
              have HAL := Lib.hid (show Below wr.heap.size wr (wr.alloc (.cells #[.int .i64 (f : Int)] 3)) from (Below.refl _ _).alloc (Nat.le_refl _) _)
              have HO2 := Lib.hid (hO.below HAL.out)
              clear hq hpj hA hb hO hbr hcr hjl ht hin
              go_wp2_with (at_builtin; refine wpList_append_own_at _ rfl _ _ 24 rfl S 3 i0 (.int .i64 0) 1 8 Try.underlying24 hi hz0 hz1 hz2 rfl (by decide) _ _ _ rfl HO2.out ⟨wr.heap.size, 0, none⟩ 1 1 [.int .i64 (f : Int)] rfl rfl (cell_one_new _ _ _) (by intro u hu; rw [List.mem_singleton] at hu; subst hu; rfl) (by rw [castL_len]; unfold maxLen; have := HQL.out; omega) (by rw [castL_len]; have := HQL.out; omega) (by simp; omega) ?_; intro v' w3 hown hgrow hnil hat; have hoi := oi_snoc hown; obtain ⟨hA3, hB3, hc3, hf3⟩ := HA.out.put htn HU.out HAL.out hsz hoi hgrow hat; obtain ⟨a3, c3, rfl, _, _⟩ := hoi.len; have HA3 := Lib.hid hA3; have HB3 := Lib.hid hB3; clear hown hgrow hnil hat hoi hA3 hB3)
              exact ⟨⟨j + 1, HLJ.out, by go_num, HA3.out.congr fun x _ => HE.out x, HB.out.trans HB3.out⟩, by have := HLJ.out; simp [intOf]; omega⟩
            | succ q =>
              have HQL := Lib.hid (preL_len nb f t)
              have HAL := Lib.hid (show Below wr.heap.size wr (wr.alloc (.cells #[.int .i64 (f : Int)] 3)) from (Below.refl _ _).alloc (Nat.le_refl _) _)
              have HO2 := Lib.hid (hO.below HAL.out)
              obtain ⟨g, rfl, hgc⟩ := OI.at hO (i := q) (by rw [castL_len]; omega)
              rw [castL_at] at hgc
              obtain ⟨y, hy⟩ : ∃ y, y = (preL nb f t).getD q 0 := ⟨_, rfl⟩
              have hyf : y < f := HLTF.out y (by rw [hy, List.getD_eq_getElem?_getD, List.getElem?_eq_getElem (by omega)]; exact List.getElem_mem _)
              rw [← hy] at hgc
              have hcast : ((q + 1 : Nat) : Int) = (q : Int) + 1 := by omega
              have t0 : (((q : Int) + 1) == 0) = false := by simp <;> omega
              have t1 : ((y : Int) != (f : Int)) = true := by simp; omega
              have hw1 : wrap64 ((q : Int) + 1 - 1) = q := by unfold wrap64; omega
              clear hq hpj hA hb hO hbr hcr hjl ht hin hy
              go_wp2_with (at_builtin; refine wpList_append_own_at _ rfl _ _ 24 rfl S 3 i0 (.int .i64 0) 1 8 Try.underlying24 hi hz0 hz1 hz2 rfl (by decide) _ _ _ rfl HO2.out ⟨wr.heap.size, 0, none⟩ 1 1 [.int .i64 (f : Int)] rfl rfl (cell_one_new _ _ _) (by intro u hu; rw [List.mem_singleton] at hu; subst hu; rfl) (by rw [castL_len]; unfold maxLen; have := HQL.out; omega) (by rw [castL_len]; have := HQL.out; omega) (by simp; omega) ?_; intro v' w3 hown hgrow hnil hat; have hoi := oi_snoc hown; obtain ⟨hA3, hB3, hc3, hf3⟩ := HA.out.put htn HU.out HAL.out hsz hoi hgrow hat; obtain ⟨a3, c3, rfl, _, _⟩ := hoi.len; have HA3 := Lib.hid hA3; have HB3 := Lib.hid hB3; clear hown hgrow hnil hat hoi hA3 hB3)
              exact ⟨⟨j + 1, HLJ.out, by go_num, HA3.out.congr fun x _ => HE.out x, HB.out.trans HB3.out⟩, by have := HLJ.out; simp [intOf]; omega⟩
        · have hjR : j = R := by omega
          have hA' := Lib.hid (show Ah S S n wr (preL nb (f + 1)) from hA.congr fun t _ => by rw [preL_succ, hjR, HRR.out])
          have HB := Lib.hid hb
          clear hA hb hjR
          go_wp2_with fail
          exact ⟨⟨f + 1, HFN.out, by go_num, hA'.out, HB.out⟩, by have := HFN.out; simp [intOf]; omega⟩
    · have hfn' : f = n := by omega
      subst hfn'
      have HR := Lib.hid (hA.rows (by unfold maxLen; omega))
      have HB := Lib.hid hb
      clear hA hb
      go_wp2_with fail
      go_ret
      exact ⟨_, rfl, HR.out, HS.out ▸ HB.out⟩
end Go.Proofs.Ytkghnjgioijgpaa.DfaW
