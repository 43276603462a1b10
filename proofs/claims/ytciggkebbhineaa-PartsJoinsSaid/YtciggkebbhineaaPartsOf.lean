/- Walk of PartsOf. -/
import Derived.Test.YtciggkebbhineaaPKnows
import Derived.Test.YtciggkebbhineaaRefNum
namespace Go.Proofs.Ytciggkebbhineaa.PartW
set_option linter.unusedVariables false
open Go.RowKit Go.Maps Go.Proofs.Ytciggkebbhineaa.PartM Go.Proofs.Ytciggkebbhineaa.SetM Go.Proofs.Ytciggkebbhineaa.SetW

set_option maxRecDepth 100000 in
set_option maxHeartbeats 1000000 in
theorem PartsOf_any {w : World} {v : Value} {fs : List (Nat → Bool)} (h : SSl w v fs) : Calls Try.prog 3 #[v] w fun e w' => e = .returned (.bool true) ∧ Below w.heap.size w w' := by
  have HKN := Lib.hid (fun W => knows_any W)
  obtain ⟨a, cap, rfl, h1, h2, hs⟩ := h.shape
  obtain ⟨L, hL⟩ : ∃ L, L = fs.length := ⟨_, rfl⟩
  by_cases hbig : 300 < L
  · rw [← hL]
    have t0 : decide ((300 : Int) < (L : Int)) = true := by simp; omega
    have t1 : (300 : Int) < (L : Int) := by omega
    clear h h1 h2 hs hL hbig
    go_enter Try.func3, Try.ntmps3
    go_wp2_with fail
    refine (HKN.out _).mono ?_
    rintro e w1 ⟨rfl, hb⟩
    have HB := Lib.hid hb
    clear hb
    go_wp2_with fail
    go_ret
    exact ⟨rfl, HB.out⟩
  · have t0 : decide ((300 : Int) < (L : Int)) = false := by simp; omega
    have t1 : (L : Int) ≤ 300 := by omega
    have t2 : ¬ (300 : Int) < (L : Int) := by omega
    obtain ⟨Z, hZ, hz⟩ := zeroA
    have HZ := Lib.hid hZ
    have HO := Lib.hid (Of_any h (by omega))
    have HH := Lib.hid h
    have HRO := Lib.hid (fun W (hW : Below w.heap.size w W) => refOf_any (h.below hW))
    obtain ⟨k, hk⟩ : ∃ k, k = rk (alike fs) 256 := ⟨_, rfl⟩
    rw [← hk] at HO HRO
    rw [← hL] at HO HRO ⊢
    clear h h1 h2 hs hL hbig hZ hk
    go_enter Try.func3, Try.ntmps3
    go_wp2_with fail
    refine HO.out.mono ?_
    rintro e w1 ⟨Y, rfl, hY, hb1⟩
    have HY := Lib.hid hY
    have HB1 := Lib.hid (hb1.alloc hb1.size (.cells Y 24))
    have HA1 := Lib.hid (Ar.new w1 Y 24)
    clear hY hb1
    go_wp2_with (refine wpList_store_arr rfl 24 (.tmp 3) (.tmp 14) rfl rfl rfl (Ar.new w1 Z 24) HZ.out.size HY.out infoA ?_; rw [World.setRow_alloc_new])
    refine (HRO.out _ HB1.out).mono ?_
    rintro e w2 ⟨Y2, rfl, hY2, hb2⟩
    obtain rfl : Y = Y2 := HY.out.ext hY2 (fun _ _ => rfl)
    have HA2 := Lib.hid ((HA1.out.below hb2).alloc (.cells Y 24))
    have HAY := Lib.hid (Ar.new w2 Y 24)
    have hb3 := HB1.out.trans (hb2.mono HB1.out.size)
    have HB3 := Lib.hid (hb3.alloc hb3.size (.cells Y 24))
    have heq := eqArr HY.out HY.out
    rw [sameA_refl] at heq
    clear hY2 hb2 hb3
    go_wp2_with (first | (refine wpList_store_arr rfl 24 (.tmp 5) (.tmp 19) rfl rfl rfl (Ar.new w2 Z 24) HZ.out.size HY.out infoA ?_; rw [World.setRow_alloc_new]) | (refine wpList_load_arr rfl 24 (.tmp 3) rfl rfl HA2.out HY.out.size Try.underlying24 infoA ?_) | (refine wpList_load_arr rfl 24 (.tmp 5) rfl rfl HAY.out HY.out.size Try.underlying24 infoA ?_))
    refine (HKN.out _).mono ?_
    rintro e w3 ⟨rfl, hb⟩
    have HB4 := Lib.hid (HB3.out.trans (hb.mono HB3.out.size))
    clear hb
    go_wp2_with fail
    go_ret
    exact ⟨rfl, HB4.out⟩
end Go.Proofs.Ytciggkebbhineaa.PartW
