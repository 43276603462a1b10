/- Walk of the program's Leasts. -/
import Derived.Test.YthefhkgjadfhgaaDoorPSets
import Derived.Test.YthefhkgjadfhgaaDoorLeasts
namespace Go.Proofs.YthefhkgjadfhgaaDoor.PartW
set_option linter.unusedVariables false
set_option linter.unusedSimpArgs false
open Go.RowKit Go.Maps Go.Proofs.YthefhkgjadfhgaaDoor.PartM Go.Proofs.YthefhkgjadfhgaaDoor.SetM Go.Proofs.YthefhkgjadfhgaaDoor.SetW

set_option maxRecDepth 100000 in
set_option maxHeartbeats 2000000 in
theorem PLeasts_any {C : Array Value} {f : Nat → Nat} (hC : IsA C f) (hf : ∀ b, b < 256 → f b < 256) (w : World) (he : Env w) :
    Calls Tryd.prog 24 #[.agg C] w fun e w' => ∃ v', e = .returned v' ∧ w'.ownsRow w.heap.size 5 1 v' (rk (byKey f) 256) (lowL (byKey f) (rk (byKey f) 256)) ∧ Below w.heap.size w w' := by
  obtain ⟨i0, hi, hz0, hz1, hz2⟩ := info_parts infoByte
  have HC := Lib.hid hC; have HENV := Lib.hid he
  have HR0 := Lib.hid (Ar.new w C 22)
  have HS := Lib.hid (PSets_any hC hf (w.alloc (.cells C 22)))
  have hb0 : Below w.heap.size w (w.alloc (.cells C 22)) := (Below.refl _ w).alloc (Nat.le_refl _) _
  have HB0 := Lib.hid hb0
  obtain ⟨E, hE⟩ : ∃ E, E = byKey f := ⟨_, rfl⟩
  have HEV := Lib.hid (byKey_eqv f)
  rw [← hE] at HS HEV ⊢
  obtain ⟨n, hn⟩ : ∃ n, n = rk E 256 := ⟨_, rfl⟩
  have HLO := Lib.hid (fun i (hi : i < n) => low_spec HEV.out (i := i) (by rw [← hn]; exact hi))
  have HN := Lib.hid (show n ≤ 256 ∧ 0 < n by rw [hn]; exact ⟨rk_le 256, rk_pos HEV.out⟩)
  rw [← hn] at HS ⊢
  clear hC hf hb0 hE hn he
  go_enter Tryd.func24, Tryd.ntmps24
  go_wp2_with (refine wpList_load_arr rfl 22 (.tmp 1) rfl rfl HR0.out HC.out.size Tryd.underlying22 infoA ?_)
  refine HS.out.mono ?_
  rintro e w1 ⟨v', rfl, hown, hb1⟩
  obtain ⟨G, cap, rfl, hG, hc1, hc2⟩ := owns_shape hown HN.out.2
  have hG' : w.heap.size ≤ G := Nat.le_trans HB0.out.size hG
  have hown' : w1.ownsRow w.heap.size 69 4 (.slice (some ⟨G, 0, none⟩) n cap) n (setCells (clsL E 256 n)) := by
    obtain ⟨h1, h2⟩ := hown
    refine ⟨h1, ?_⟩
    rcases h2 with h2 | ⟨g, cap, cur, h3, hg, hgh, hr⟩
    · exact .inl h2
    · exact .inr ⟨g, cap, cur, h3, by cases h3; exact hG', hgh, hr⟩
  have HOS := Lib.hid hown'
  have HO1 := Lib.hid (show w1.ownsRow w.heap.size 5 1 (.slice none 0 0) 0 [] from ⟨by simp, .inl ⟨rfl, rfl⟩⟩)
  have HB1 := Lib.hid (HB0.out.trans (hb1.mono HB0.out.size))
  have HCP := Lib.hid (show n ≤ cap ∧ cap ≤ maxLen from ⟨hc1, hc2⟩)
  clear hown hown' hG hG' hc1 hc2 hb1
  go_wp2_with fail
  go_loopw [3, 9] (fun s i wr => ∃ k : Nat, k ≤ n ∧ i = .int .i64 k ∧ wr.ownsRow w.heap.size 5 1 s k (lowL E k) ∧ wr.ownsRow w.heap.size 69 4 (.slice (some ⟨G, 0, none⟩) n cap) n (setCells (clsL E 256 n)) ∧ Below w.heap.size w wr) (fun _ i _ => n - (intOf i).toNat)
  case atStart => exact ⟨0, by omega, rfl, HO1.out, HOS.out, HB1.out⟩
  case round =>
    obtain ⟨k, hk, rfl, hO, hS, hb⟩ := hrel
    clear HO1 HOS HB1 HB0 HR0 HS
    by_cases hlt : k < n
    · have t0 : decide ((k : Int) < n) = true := by simp; omega
      have t1 : ¬ (n : Int) ≤ (k : Int) := by omega
      have hws := wrap_succ (k := k) (by have := HN.out; omega)
      obtain ⟨l2, l3, l4⟩ := HLO.out k hlt
      have l1 := leastI_at l2 l3 l4
      obtain ⟨c0, c1, c2, c3⟩ := owns_at hS (k := k) (by rw [clsL_length]; exact hlt)
      rw [clsL_at] at c0 c1 c2 c3
      have HLS := Lib.hid (lowL_succ E k)
      obtain ⟨d, hd⟩ : ∃ d, d = lowN E k := ⟨_, rfl⟩
      rw [← hd] at l1 l2 l3 l4 HLS
      obtain ⟨g, hg⟩ : ∃ g, g = cls E 256 k := ⟨_, rfl⟩
      rw [← hg] at l1 l3 l4 c0 c1 c2 c3
      have hwr : IntKind.u8.wrap (d : Int) = (d : Int) := wrap_u8 l2
      have HL := Lib.hid (fun W he => Least_any g W he)
      rw [l1] at HL
      have HO := Lib.hid hO; have HSS := Lib.hid hS; have HB := Lib.hid hb; have HLT := Lib.hid hlt
      clear hO hS hb hlt hk hd hg l1 l2 l3 l4
      have hal0 : Below wr.heap.size wr (wr.alloc (.cells #[.int .u64 (wd g 0), .int .u64 (wd g 1), .int .u64 (wd g 2), .int .u64 (wd g 3)] 69)) := (Below.refl _ _).alloc (Nat.le_refl _) _
      have HA0 := Lib.hid hal0; clear hal0
      go_wp2_with fail
      refine (HL.out _ ((HENV.out.below HB.out).below HA0.out)).mono ?_
      rintro e w2 ⟨rfl, hb2⟩
      have hb2' := HA0.out.trans (hb2.mono (by simp))
      have HO2 := Lib.hid (owns_below HO.out hb2'); have HS2 := Lib.hid (owns_below HSS.out hb2')
      have HB2 := Lib.hid (HB.out.trans (hb2'.mono HB.out.size))
      have HMX := Lib.hid (show k + 1 ≤ maxLen ∧ (k + 1) * 1 ≤ 140737488355328 from ⟨by unfold maxLen; have := HN.out; have := HLT.out; omega, by have := HN.out; have := HLT.out; omega⟩)
      clear c0 c1 c2 c3 hb2 hb2'
      go_wp2_with (at_builtin; refine wpList_append_own _ rfl (.tmp 13) (.tmp 17) 36 rfl w.heap.size 5 i0 (.int .u8 0) 1 1 Tryd.underlying36 hi hz0 hz1 hz2 rfl (by decide) _ _ _ rfl (HO2.out.alloc _) ⟨w2.heap.size, 0, none⟩ 1 1 [.int .u8 d] rfl rfl (cell_byte _ _ _) (by intro u hu; rw [List.mem_singleton] at hu; subst hu; rfl) HMX.out.1 HMX.out.2 (Nat.le_trans HB2.out.size (by simp)) ?_; intro v' w4 hown4 hgrow4 _; have HW4 := Lib.hid hown4; have HG4 := Lib.hid hgrow4; clear hown4 hgrow4)
      try rw [hws]
      have hal := HB2.out.alloc HB2.out.size (.cells #[.int .u8 d] 5)
      refine ⟨⟨k + 1, HLT.out, rfl, by rw [HLS.out]; exact HW4.out, ?_, hal.grown HG4.out hal.size (fun k e => (World.ownsRow.lt HO2.out k e).1)⟩, by have := HLT.out; simp [intOf]; omega⟩
      refine owns_heap (HS2.out.alloc (.cells #[.int .u8 d] 5)) fun j hj => HG4.out.block j (World.ownsRow.lt (HS2.out.alloc (.cells #[.int .u8 d] 5)) j hj).2 (fun e => owns_apart HS2.out HO2.out (by decide) hj (Eq.symm e))
    · obtain rfl : k = n := by omega
      have HO := Lib.hid hO; have HB := Lib.hid hb
      clear hlt hk hO hS hb
      go_wp2_with fail
      go_ret
      exact ⟨_, rfl, HO.out, HB.out⟩
end Go.Proofs.YthefhkgjadfhgaaDoor.PartW
