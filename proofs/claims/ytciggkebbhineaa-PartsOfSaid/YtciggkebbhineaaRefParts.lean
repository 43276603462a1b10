/- Walk of layer 13's document: Parts. -/
import Derived.Test.YtciggkebbhineaaRefLeast
namespace Go.Proofs.Ytciggkebbhineaa.PartW
set_option linter.unusedVariables false
open Go.RowKit Go.Maps Go.Proofs.Ytciggkebbhineaa.PartM Go.Proofs.Ytciggkebbhineaa.SetM Go.Proofs.Ytciggkebbhineaa.SetW

theorem clsL_mem {E : Nat → Nat → Bool} {c n i : Nat} (h : i < n) : ∃ hi : i < (clsL E c n).length, (clsL E c n)[i] = cls E c i := ⟨by rw [clsL_length]; exact h, clsL_at _⟩
theorem owns_at {w : World} {base : Nat} {e : TypeId} {b n cap : Nat} {fs : List (Nat → Bool)} (h : w.ownsRow base e 4 (.slice (some ⟨b, 0, none⟩) n cap) n (setCells fs)) {k : Nat} (hk : k < fs.length) : At4 w b (k * 4) fs[k] := by
  have hl := owns_len h
  have c : ∀ j, j < 4 → w.cell? ⟨b, k * 4 + j, none⟩ = some (.int .u64 (wd fs[k] j)) := fun j hj => by
    rw [h.cellAt (k * 4 + j) (by omega), setCells_at fs k j hk hj]
  exact ⟨c 0 (by omega), c 1 (by omega), c 2 (by omega), c 3 (by omega)⟩

theorem owns_succ {w : World} {base : Nat} {e : TypeId} {s : Nat} {v : Value} {n : Nat} {xs : List Value} (h : w.ownsRow base e s v (n + 1) xs) : ∃ g cap : Nat, v = .slice (some ⟨g, 0, none⟩) (n + 1) cap := by
  rcases h.2 with ⟨_, h⟩ | ⟨g, cap, _, h, _⟩
  · omega
  · exact ⟨g, cap, h⟩
set_option maxRecDepth 100000 in
set_option maxHeartbeats 2000000 in
theorem Parts_any {w : World} {v : Value} {fs : List (Nat → Bool)} (h : SSl w v fs) :
    Calls Try.prog 18 #[v] w fun e w' => ∃ v', e = .returned v' ∧ w'.ownsRow w.heap.size 33 4 v' (rk (alike fs) 256) (setCells (clsL (alike fs) 256 (rk (alike fs) 256))) ∧ Below w.heap.size w w' := by
  have HV := Lib.hid h
  obtain ⟨ad, cap0, rfl, h1, h2, hs⟩ := h.shape
  obtain ⟨E, hE⟩ : ∃ E, E = alike fs := ⟨_, rfl⟩
  have HEV := Lib.hid (show Eqv E by rw [hE]; exact alike_eqv fs)
  have HAL := Lib.hid (fun W (hW : Below w.heap.size w W) a b ha hb => (show Calls Try.prog 27 #[.slice ad fs.length cap0, .int .i64 (a : Nat), .int .i64 (b : Nat)] W fun e w' => e = .returned (.bool (E a b)) ∧ Below W.heap.size W w' by
    rw [hE]; exact alike_any (h.below hW) ha hb))
  rw [← hE]
  obtain ⟨L, hL⟩ : ∃ L, L = fs.length := ⟨_, rfl⟩
  rw [← hL] at HAL ⊢
  obtain ⟨i0, hi, hz0, hz1, hz2⟩ := info_parts infoSet
  clear h h1 h2 hs hL HV hE
  go_enter Try.func18, Try.ntmps18
  go_wp2_with fail
  have hB0 : Below w.heap.size w (w.alloc (.cells #[] 33)) := (Below.refl _ w).alloc (Nat.le_refl _) _
  have hO0 := World.ownsRow_made (e := 33) (size := 4) (base := w.heap.size) w #[] 0 (Nat.le_refl _) (by decide) rfl
  have HB0 := Lib.hid hB0; have HO0 := Lib.hid hO0
  clear hB0 hO0
  go_loopw [3, 4] (fun s i wr => ∃ c : Nat, c ≤ 256 ∧ i = .int .i64 c ∧ ∃ a cap, s = .slice a (rk E c) cap ∧ wr.ownsRow w.heap.size 33 4 (.slice a (rk E c) cap) (rk E c) (setCells (clsL E c (rk E c))) ∧ Below w.heap.size w wr) (fun _ i _ => 256 - (intOf i).toNat)
  case atStart => exact ⟨0, by omega, rfl, _, _, rfl, HO0.out, HB0.out⟩
  case round =>
    obtain ⟨c, hc, rfl, a, cap, rfl, hO, hB⟩ := hrel
    clear HB0 HO0
    by_cases hlt : c < 256
    · obtain ⟨n, hn⟩ : ∃ n, n = rk E c := ⟨_, rfl⟩
      have HN := Lib.hid (show n = rk E c ∧ n ≤ c from ⟨hn, by rw [hn]; exact rk_le c⟩)
      have t0 : decide ((c : Int) < 256) = true := by simp; omega
      have HLT := Lib.hid hlt
      have hwc := wrap_succ (k := c) (by omega)
      rw [← hn] at hO ⊢
      have HO := Lib.hid hO; have HB := Lib.hid hB
      clear hlt hc hn hO hB
      go_wp2_with fail
      go_loopw [5, 6] (fun p i wr => ∃ j : Nat, j ≤ n ∧ i = .int .i64 j ∧ Below w.heap.size w wr ∧
        ((p = .bool false ∧ Hid (∀ j', j' < j → nm E c ≠ j') ∧ wr.ownsRow w.heap.size 33 4 (.slice a n cap) n (setCells (clsL E c n))) ∨ (p = .bool true ∧ Hid (fst E c ≠ c) ∧ wr.ownsRow w.heap.size 33 4 (.slice a n cap) n (setCells (clsL E (c + 1) n))))) (fun _ i _ => n + 1 - (intOf i).toNat)
      case atStart => exact ⟨0, Nat.zero_le _, rfl, HB.out, .inl ⟨rfl, Lib.hid (fun j' h => absurd h (Nat.not_lt_zero _)), HO.out⟩⟩
      case round =>
        obtain ⟨j, hj, rfl, hB, hrel⟩ := hrel
        clear HO HB
        rcases hrel with ⟨rfl, HJ, hO⟩ | ⟨rfl, HF, hO⟩
        · by_cases hlt : j < n
          · have t1 : decide ((j : Int) < (n : Int)) = true := by simp; omega
            have t2 : (0 : Int) ≤ (j : Int) := by omega
            have t3 : (j : Int) < (n : Int) := by omega
            have hwj := wrap_succ (k := j) (by have := HN.out; have := HLT.out; omega)
            obtain ⟨hjl, hjc⟩ := clsL_mem (E := E) (c := c) hlt
            obtain ⟨d, hd1, hd2, hd3, hd4⟩ := least_cls HEV.out (E := E) (c := c) (i := j) (by rw [← HN.out.1]; exact hlt)
            obtain ⟨b, cap', hv, hbl, hcl, hcm⟩ := owns_shape hO (by omega)
            obtain ⟨rfl, rfl⟩ : a = some ⟨b, 0, none⟩ ∧ cap = cap' := by injection hv with h1 h2 h3; exact ⟨h1, h3⟩
            have h4 := owns_at hO hjl
            rw [hjc] at h4
            obtain ⟨c0, c1, c2, c3⟩ := h4
            have HO := Lib.hid hO; have HB := Lib.hid hB
            have HLE := Lib.hid (fun W => refLeast_at (cls E c j) d (by have := HLT.out; omega) hd2 hd3 W)
            have HD := Lib.hid (show d < 256 by have := HLT.out; omega)
            have HQ := Lib.hid (hd4 c)
            have HJL := Lib.hid (show j < n ∧ w.heap.size ≤ b from ⟨hlt, hbl⟩)
            clear hlt hj hjl hjc hd1 hd2 hd3 hd4 hv hbl hcl hcm hO hB
            go_wp2_with fail
            refine (HLE.out _).mono ?_
            rintro e w1 ⟨rfl, hb1⟩
            have HB1 := Lib.hid (HB.out.trans (hb1.mono HB.out.size))
            have HO1 := Lib.hid (owns_below HO.out hb1)
            clear hb1 c0 c1 c2 c3
            go_wp2_with fail
            refine (HAL.out w1 HB1.out d c HD.out HLT.out).mono ?_
            rintro e w2 ⟨rfl, hb2⟩
            have HB2 := Lib.hid (HB1.out.trans (hb2.mono HB1.out.size))
            have HO2 := Lib.hid (owns_below HO1.out hb2)
            rw [HQ.out]
            clear hb2
            by_cases hq : nm E c = j
            · have t4 : (nm E c == j) = true := by simpa using hq
              have HNQ := Lib.hid hq
              have HFC := Lib.hid (show fst E c ≠ c from fun e => by have := nm_first e; have := HJL.out.1; have := HN.out.1; omega)
              rw [t4]
              obtain ⟨hjl, hjc⟩ := clsL_mem (E := E) (c := c) HJL.out.1
              have h4 := owns_at HO2.out hjl
              rw [hjc] at h4
              obtain ⟨c0, c1, c2, c3⟩ := h4
              have HWI := Lib.hid (fun W => With_any (cls E c j) c HLT.out W)
              have HJLN := Lib.hid hjl
              clear hq t4 hjl hjc
              go_wp2_with fail
              refine (HWI.out _).mono ?_
              rintro e w3 ⟨rfl, hb3⟩
              have HB3 := Lib.hid (HB2.out.trans (hb3.mono HB2.out.size))
              have hO3 := owns_below HO2.out hb3
              have z0 := hO3.frozenAt (j * 4)
              have z1 := hO3.frozenAt (j * 4 + 1)
              have z2 := hO3.frozenAt (j * 4 + 2)
              have z3 := hO3.frozenAt (j * 4 + 3)
              obtain ⟨e0, e1, e2, e3⟩ := owns_at hO3 HJLN.out
              have HO3 := Lib.hid hO3
              clear hb3 c0 c1 c2 c3 hO3
              go_wp2_with fail
              rw [hwj]
              have hset := owns_put4 HO3.out HJLN.out (withF (cls E c j) c)
              have hnew := clsL_old HFC.out
              rw [HNQ.out, ← HN.out.1] at hnew
              rw [← hnew, rk_old HFC.out, ← HN.out.1] at hset
              exact ⟨⟨j + 1, HJL.out.1, rfl, below_put4At HB3.out HJL.out.2 _, .inr ⟨rfl, HFC, hset⟩⟩, by have := HJL.out.1; simp [intOf]; omega⟩
            · have t4 : (nm E c == j) = false := by simpa using hq
              have HNQ := Lib.hid (show ∀ j', j' < j + 1 → nm E c ≠ j' from fun j' h => by
                by_cases e : j' = j
                · rw [e]; exact hq
                · exact HJ.out j' (by omega))
              rw [t4]
              clear hq t4
              go_wp2_with fail
              rw [hwj]
              exact ⟨⟨j + 1, HJL.out.1, rfl, HB2.out, .inl ⟨rfl, HNQ, HO2.out⟩⟩, by have := HJL.out.1; simp [intOf]; omega⟩
          · have hjn : j = n := by omega
            subst hjn
            have t1 : decide ((j : Int) < (j : Int)) = false := by simp
            have HFC := Lib.hid (nm_none HEV.out (E := E) (c := c) (fun j' h => HJ.out j' (by rw [HN.out.1]; exact h)))
            have HSP := Lib.hid (fun W => refSpan_any c c HLT.out HLT.out W)
            have HO := Lib.hid hO; have HB := Lib.hid hB
            clear hlt hj hO hB
            go_wp2_with fail
            refine (HSP.out _).mono ?_
            rintro e w1 ⟨rfl, hb1⟩
            have HB1 := Lib.hid (HB.out.trans (hb1.mono HB.out.size))
            have HO1 := Lib.hid (owns_below HO.out hb1)
            have HSZ := Lib.hid (show j + 1 ≤ maxLen ∧ (j + 1) * 32 ≤ 140737488355328 from ⟨by unfold maxLen; have := HN.out.2; have := HLT.out; omega, by have := HN.out.2; have := HLT.out; omega⟩)
            clear hb1
            go_wp2_with (at_builtin; refine wpList_append_own_at _ rfl (.tmp 41) (.tmp 45) 22 rfl w.heap.size 33 i0 _ 4 32 Try.underlying22 hi hz0 hz1 hz2 rfl (by decide) (.slice a j cap) j _ rfl (HO1.out.alloc _) ⟨w1.heap.size, 0, none⟩ 1 1 [.int .u64 (wd (spanF c (c + 1)) 0), .int .u64 (wd (spanF c (c + 1)) 1), .int .u64 (wd (spanF c (c + 1)) 2), .int .u64 (wd (spanF c (c + 1)) 3)] rfl rfl (set_one _ _ _) (by simp [Value.oneCell']) HSZ.out.1 HSZ.out.2 (by have := HB1.out.size; simp; omega) ?_; intro v' w4 hown' hgrow _ _; have HOW := Lib.hid hown'; have HGR := Lib.hid hgrow; clear hown' hgrow)
            have hrk : rk E (c + 1) = j + 1 := by rw [rk_new HFC.out, ← HN.out.1]
            have hcells : setCells (clsL E c j) ++ [.int .u64 (wd (spanF c (c + 1)) 0), .int .u64 (wd (spanF c (c + 1)) 1), .int .u64 (wd (spanF c (c + 1)) 2), .int .u64 (wd (spanF c (c + 1)) 3)] = setCells (clsL E (c + 1) (j + 1)) := by
              rw [← setCells_snoc, ← hrk, clsL_new HEV.out HFC.out, ← HN.out.1]
            have hown := HOW.out
            rw [hcells] at hown
            obtain ⟨b', cap', hv'⟩ := owns_succ hown
            rw [hv'] at hown ⊢
            have hal := HB1.out.alloc HB1.out.size (.cells #[.int .u64 (wd (spanF c (c + 1)) 0), .int .u64 (wd (spanF c (c + 1)) 1), .int .u64 (wd (spanF c (c + 1)) 2), .int .u64 (wd (spanF c (c + 1)) 3)] 33)
            have hb4 : Below w.heap.size w w4 := hal.grown HGR.out hal.size (fun k e => (World.ownsRow.lt HO1.out k e).1)
            rw [hwc]
            exact ⟨⟨c + 1, HLT.out, rfl, _, cap', by rw [hrk], by rw [hrk]; exact hown, hb4⟩, by have := HLT.out; simp [intOf]; omega⟩
        · have HO := Lib.hid hO; have HB := Lib.hid hB
          have hrk : rk E (c + 1) = n := by rw [rk_old HF.out, ← HN.out.1]
          have HRK := Lib.hid hrk
          have HJ := Lib.hid hj
          clear hO hB hrk hj
          by_cases hlt : j < n
          · have t1 : decide ((j : Int) < (n : Int)) = true := by simp; omega
            clear hlt
            go_wp2_with fail
            all_goals
              rw [hwc]
              exact ⟨⟨c + 1, HLT.out, rfl, a, cap, by rw [HRK.out], by rw [HRK.out]; exact HO.out, HB.out⟩, by have := HLT.out; simp [intOf]; omega⟩
          · have t1 : decide ((j : Int) < (n : Int)) = false := by simp; omega
            have t2 : decide (j < n) = false := by simp; omega
            clear hlt
            go_wp2_with fail
            all_goals
              rw [hwc]
              exact ⟨⟨c + 1, HLT.out, rfl, a, cap, by rw [HRK.out], by rw [HRK.out]; exact HO.out, HB.out⟩, by have := HLT.out; simp [intOf]; omega⟩
    · obtain rfl : c = 256 := by omega
      have HO := Lib.hid hO; have HB := Lib.hid hB
      clear hlt hc hO hB
      go_wp2_with fail
      go_ret
      exact ⟨_, rfl, HO.out, HB.out⟩
end Go.Proofs.Ytciggkebbhineaa.PartW
