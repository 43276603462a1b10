/- Walk of PartsJoins. -/
import Derived.Test.YtciggkebbhineaaPartsOf
import Derived.Test.YtciggkebbhineaaRefJoin
import Derived.Test.YtciggkebbhineaaNumP
namespace Go.Proofs.Ytciggkebbhineaa.PartW
set_option linter.unusedVariables false
open Go.RowKit Go.Maps Go.Proofs.Ytciggkebbhineaa.PartM Go.Proofs.Ytciggkebbhineaa.SetM Go.Proofs.Ytciggkebbhineaa.SetW

theorem byKey_swap (f g : Nat → Nat) : byKey (fun b => (g b, f b)) = byKey fun b => (f b, g b) := by
  funext a b
  unfold byKey
  rw [Bool.eq_iff_iff]; simp; exact And.comm
theorem byKey_twice (f : Nat → Nat) : byKey (fun b => (f b, f b)) = byKey f := by
  funext a b
  unfold byKey
  rw [Bool.eq_iff_iff]; simp

set_option maxRecDepth 100000 in
set_option maxHeartbeats 2000000 in
theorem PartsJoins_any {C D : Array Value} {f g : Nat → Nat} (hC : IsA C f) (hD : IsA D g) (hf : ∀ b, b < 256 → f b < 256) (hg : ∀ b, b < 256 → g b < 256) (w : World) :
    Calls Try.prog 4 #[.agg C, .agg D] w fun e w' => e = .returned (.bool true) ∧ Below w.heap.size w w' := by
  obtain ⟨Z, hZ, hz⟩ := zeroA
  have HZ := Lib.hid hZ; have HC := Lib.hid hC; have HD := Lib.hid hD
  have HKN := Lib.hid (fun W => knows_any W)
  have hj1 := fun W => Join_any hC hD hf hg W
  have hj2 := fun W => refJoin_any hC hD hf hg W
  have hj3 := fun W => Join_any hD hC hg hf W
  have hj4 := fun W => Join_any hC hC hf hf W
  have hj5 := fun W => Norm_any hC hf W
  rw [byKey_swap f g] at hj3
  rw [byKey_twice f] at hj4
  obtain ⟨n, hn⟩ : ∃ n, n = rk (byKey fun b => (f b, g b)) 256 := ⟨_, rfl⟩
  obtain ⟨p, hp⟩ : ∃ p, p = rk (byKey f) 256 := ⟨_, rfl⟩
  rw [← hn] at hj1 hj2 hj3
  rw [← hp] at hj4 hj5
  obtain ⟨F, hF⟩ : ∃ F, F = nm (byKey fun b => (f b, g b)) := ⟨_, rfl⟩
  obtain ⟨G, hG⟩ : ∃ G, G = nm (byKey f) := ⟨_, rfl⟩
  rw [← hF] at hj1 hj2 hj3
  rw [← hG] at hj4 hj5
  have HJ1 := Lib.hid hj1; have HJ2 := Lib.hid hj2; have HJ3 := Lib.hid hj3; have HJ4 := Lib.hid hj4; have HJ5 := Lib.hid hj5
  have hb0 : Below w.heap.size w ((w.alloc (.cells C 24)).alloc (.cells D 24)) := ((Below.refl _ w).alloc (Nat.le_refl _) _).alloc (by simp) _
  have ha0 := (Ar.new w C 24).alloc (.cells D 24)
  have hd0 := Ar.new (w.alloc (.cells C 24)) D 24
  rw [World.size_alloc] at hd0
  have HB0 := Lib.hid hb0; have HA0 := Lib.hid ha0; have HD0 := Lib.hid hd0
  clear hZ hC hD hf hg hj1 hj2 hj3 hj4 hj5 hn hp hF hG hb0 ha0 hd0
  go_enter Try.func4, Try.ntmps4
  go_wp2_with (first | (refine wpList_load_arr rfl 24 (.tmp 2) rfl rfl HA0.out HC.out.size Try.underlying24 infoA ?_) | (refine wpList_load_arr rfl 24 (.tmp 3) rfl rfl HD0.out HD.out.size Try.underlying24 infoA ?_))
  refine (HJ1.out _).mono ?_
  rintro e w1 ⟨X, rfl, hX, hb1⟩
  have HX := Lib.hid hX
  have hc1 := HB0.out.trans (hb1.mono HB0.out.size)
  have HA1 := Lib.hid ((HA0.out.below hb1).alloc (.cells X 24))
  have HD1 := Lib.hid ((HD0.out.below hb1).alloc (.cells X 24))
  have P5_1 := Lib.hid (Ar.new w1 X 24)
  have HB1 := Lib.hid (hc1.alloc hc1.size (.cells X 24))
  clear hX hb1 hc1
  go_wp2_with (first | (refine wpList_store_arr rfl 24 (.tmp 5) (.tmp 19) rfl rfl rfl (Ar.new w1 Z 24) HZ.out.size HX.out infoA ?_; rw [World.setRow_alloc_new]) | (refine wpList_load_arr rfl 24 (.tmp 2) rfl rfl HA1.out HC.out.size Try.underlying24 infoA ?_) | (refine wpList_load_arr rfl 24 (.tmp 3) rfl rfl HD1.out HD.out.size Try.underlying24 infoA ?_))
  refine (HJ2.out _).mono ?_
  rintro e w2 ⟨Y, rfl, hY, hb2⟩
  obtain rfl : X = Y := HX.out.ext hY (fun _ _ => rfl)
  have HY := HX
  have hc2 := HB1.out.trans (hb2.mono HB1.out.size)
  have HA2 := Lib.hid ((HA1.out.below hb2).alloc (.cells X 24))
  have HD2 := Lib.hid ((HD1.out.below hb2).alloc (.cells X 24))
  have P5_2 := Lib.hid ((P5_1.out.below hb2).alloc (.cells X 24))
  have P7_2 := Lib.hid (Ar.new w2 X 24)
  have HB2 := Lib.hid (hc2.alloc hc2.size (.cells X 24))
  clear hY hb2 hc2
  go_wp2_with (first | (refine wpList_store_arr rfl 24 (.tmp 7) (.tmp 25) rfl rfl rfl (Ar.new w2 Z 24) HZ.out.size HY.out infoA ?_; rw [World.setRow_alloc_new]) | (refine wpList_load_arr rfl 24 (.tmp 2) rfl rfl HA2.out HC.out.size Try.underlying24 infoA ?_) | (refine wpList_load_arr rfl 24 (.tmp 3) rfl rfl HD2.out HD.out.size Try.underlying24 infoA ?_))
  refine (HJ3.out _).mono ?_
  rintro e w3 ⟨V, rfl, hV, hb3⟩
  obtain rfl : X = V := HX.out.ext hV (fun _ _ => rfl)
  have HV := HX
  have hc3 := HB2.out.trans (hb3.mono HB2.out.size)
  have HA3 := Lib.hid ((HA2.out.below hb3).alloc (.cells X 24))
  have HD3 := Lib.hid ((HD2.out.below hb3).alloc (.cells X 24))
  have P5_3 := Lib.hid ((P5_2.out.below hb3).alloc (.cells X 24))
  have P7_3 := Lib.hid ((P7_2.out.below hb3).alloc (.cells X 24))
  have P9_3 := Lib.hid (Ar.new w3 X 24)
  have HB3 := Lib.hid (hc3.alloc hc3.size (.cells X 24))
  clear hV hb3 hc3
  go_wp2_with (first | (refine wpList_store_arr rfl 24 (.tmp 9) (.tmp 31) rfl rfl rfl (Ar.new w3 Z 24) HZ.out.size HV.out infoA ?_; rw [World.setRow_alloc_new]) | (refine wpList_load_arr rfl 24 (.tmp 2) rfl rfl HA3.out HC.out.size Try.underlying24 infoA ?_) | (refine wpList_load_arr rfl 24 (.tmp 3) rfl rfl HD3.out HD.out.size Try.underlying24 infoA ?_))
  refine (HJ4.out _).mono ?_
  rintro e w4 ⟨U, rfl, hU, hb4⟩
  have HU := Lib.hid hU
  have hc4 := HB3.out.trans (hb4.mono HB3.out.size)
  have HA4 := Lib.hid ((HA3.out.below hb4).alloc (.cells U 24))
  have HD4 := Lib.hid ((HD3.out.below hb4).alloc (.cells U 24))
  have P5_4 := Lib.hid ((P5_3.out.below hb4).alloc (.cells U 24))
  have P7_4 := Lib.hid ((P7_3.out.below hb4).alloc (.cells U 24))
  have P9_4 := Lib.hid ((P9_3.out.below hb4).alloc (.cells U 24))
  have P11_4 := Lib.hid (Ar.new w4 U 24)
  have HB4 := Lib.hid (hc4.alloc hc4.size (.cells U 24))
  clear hU hb4 hc4
  go_wp2_with (first | (refine wpList_store_arr rfl 24 (.tmp 11) (.tmp 37) rfl rfl rfl (Ar.new w4 Z 24) HZ.out.size HU.out infoA ?_; rw [World.setRow_alloc_new]) | (refine wpList_load_arr rfl 24 (.tmp 2) rfl rfl HA4.out HC.out.size Try.underlying24 infoA ?_) | (refine wpList_load_arr rfl 24 (.tmp 3) rfl rfl HD4.out HD.out.size Try.underlying24 infoA ?_))
  refine (HJ5.out _).mono ?_
  rintro e w5 ⟨N, rfl, hN, hb5⟩
  obtain rfl : U = N := HU.out.ext hN (fun _ _ => rfl)
  have HN := HU
  have hc5 := HB4.out.trans (hb5.mono HB4.out.size)
  have HA5 := Lib.hid ((HA4.out.below hb5).alloc (.cells U 24))
  have HD5 := Lib.hid ((HD4.out.below hb5).alloc (.cells U 24))
  have P5_5 := Lib.hid ((P5_4.out.below hb5).alloc (.cells U 24))
  have P7_5 := Lib.hid ((P7_4.out.below hb5).alloc (.cells U 24))
  have P9_5 := Lib.hid ((P9_4.out.below hb5).alloc (.cells U 24))
  have P11_5 := Lib.hid ((P11_4.out.below hb5).alloc (.cells U 24))
  have P13_5 := Lib.hid (Ar.new w5 U 24)
  have HB5 := Lib.hid (hc5.alloc hc5.size (.cells U 24))
  clear hN hb5 hc5
  have heq := eqArr HX.out HX.out
  rw [sameA_refl] at heq
  have heq2 := eqArr HU.out HU.out
  rw [sameA_refl] at heq2
  go_wp2_with (first | (refine wpList_store_arr rfl 24 (.tmp 13) (.tmp 42) rfl rfl rfl (Ar.new w5 Z 24) HZ.out.size HU.out infoA ?_; rw [World.setRow_alloc_new]) | (refine wpList_load_arr rfl 24 (.tmp 5) rfl rfl P5_5.out HX.out.size Try.underlying24 infoA ?_) | (refine wpList_load_arr_g rfl 24 (.tmp 5) rfl rfl P5_5.out HX.out.size Try.underlying24 infoA ?_) | (refine wpList_load_arr rfl 24 (.tmp 7) rfl rfl P7_5.out HX.out.size Try.underlying24 infoA ?_) | (refine wpList_load_arr_g rfl 24 (.tmp 7) rfl rfl P7_5.out HX.out.size Try.underlying24 infoA ?_) | (refine wpList_load_arr rfl 24 (.tmp 9) rfl rfl P9_5.out HX.out.size Try.underlying24 infoA ?_) | (refine wpList_load_arr_g rfl 24 (.tmp 9) rfl rfl P9_5.out HX.out.size Try.underlying24 infoA ?_) | (refine wpList_load_arr rfl 24 (.tmp 11) rfl rfl P11_5.out HU.out.size Try.underlying24 infoA ?_) | (refine wpList_load_arr_g rfl 24 (.tmp 11) rfl rfl P11_5.out HU.out.size Try.underlying24 infoA ?_) | (refine wpList_load_arr rfl 24 (.tmp 13) rfl rfl P13_5.out HU.out.size Try.underlying24 infoA ?_) | (refine wpList_load_arr_g rfl 24 (.tmp 13) rfl rfl P13_5.out HU.out.size Try.underlying24 infoA ?_))
  refine (HKN.out _).mono ?_
  rintro e w6 ⟨rfl, hb⟩
  have HB6 := Lib.hid (HB5.out.trans (hb.mono HB5.out.size))
  clear hb
  go_wp2_with fail
  go_ret
  exact ⟨rfl, HB6.out⟩
end Go.Proofs.Ytciggkebbhineaa.PartW
