/- Walks of layer 2: Count, Least, in both texts. -/
import Derived.Test.YtgmoaglanjfdmaaDoorListMath
import Derived.Test.YtgmoaglanjfdmaaDoorBitWalk
import Derived.Test.YtgmoaglanjfdmaaDoorSetWalk2
namespace Go.Proofs.YtgmoaglanjfdmaaDoor.SetW
set_option linter.unusedVariables false
open Go.RowKit Go.Proofs.YtgmoaglanjfdmaaDoor.SetM

/-- '==' of two sets. -/
theorem eqSet (a b c d a' b' c' d' : Int) (w : World) : (Op.equalIn 10000 25 (.agg #[.int .u64 a, .int .u64 b, .int .u64 c, .int .u64 d]) (.agg #[.int .u64 a', .int .u64 b', .int .u64 c', .int .u64 d'])).run Tryd.prog w = .ok (a == a' && (b == b' && (c == c' && d == d'))) w := by
  have u3 := Tryd.underlying23
  have a3 := Tryd.isAgg23
  have z3 := Tryd.sizeOf23
  rw [show (10000 : Nat) = 9999 + 1 from rfl, Op.equalIn]
  simp only [Sem.run_bind, run_underlying Tryd.underlying25, Result.andThen_ok]
  simp only [Std.Legacy.Range.forIn_eq_forIn_range', Std.Legacy.Range.size, Nat.sub_zero, Nat.add_sub_cancel, Nat.div_one, List.range'_succ, List.range'_zero, List.forIn_cons, List.forIn_nil]
  go_simp
  by_cases h1 : a = a' <;> by_cases h2 : b = b' <;> by_cases h3 : c = c' <;> by_cases h4 : d = d' <;> simp [h1, h2, h3, h4]
/-- '==' of two pieces. -/
theorem eqPair (a b a' b' : Int) (w : World) : (Op.equalIn 10000 44 (.agg #[.int .u8 a, .int .u8 b]) (.agg #[.int .u8 a', .int .u8 b'])).run Tryd.prog w = .ok (a == a' && b == b') w := by
  have u3 := Tryd.underlying5
  have a3 := Tryd.isAgg5
  have z3 := Tryd.sizeOf5
  rw [show (10000 : Nat) = 9999 + 1 from rfl, Op.equalIn]
  simp only [Sem.run_bind, run_underlying Tryd.underlying44, Result.andThen_ok]
  simp only [Std.Legacy.Range.forIn_eq_forIn_range', Std.Legacy.Range.size, Nat.sub_zero, Nat.add_sub_cancel, Nat.div_one, List.range'_succ, List.range'_zero, List.forIn_cons, List.forIn_nil]
  go_simp
  by_cases h1 : a = a' <;> by_cases h2 : b = b' <;> simp [h1, h2]

theorem Count_any (f : Nat → Bool) (w : World) :
    Calls Tryd.prog 25 #[SV f] w fun e w' => e = .returned (.int .i64 (elems f).length) ∧ Below w.heap.size w w' := by
  have i0 := index0; have i1 := index1; have i2 := index2; have i3 := index3
  have HE := Lib.hid (elems_count f)
  have l0 := bits_length (wd f 0); have l1 := bits_length (wd f 1); have l2 := bits_length (wd f 2); have l3 := bits_length (wd f 3)
  have h0 := ones_any (wd f 0) (wd_lt f 0); have h1 := ones_any (wd f 1) (wd_lt f 1); have h2 := ones_any (wd f 2) (wd_lt f 2); have h3 := ones_any (wd f 3) (wd_lt f 3)
  generalize (bitsOf (wd f 0)).length = n0 at *
  generalize (bitsOf (wd f 1)).length = n1 at *
  generalize (bitsOf (wd f 2)).length = n2 at *
  generalize (bitsOf (wd f 3)).length = n3 at *
  have H0 := Lib.hid h0; have H1 := Lib.hid h1; have H2 := Lib.hid h2; have H3 := Lib.hid h3
  clear h0 h1 h2 h3
  go_enter Tryd.func25, Tryd.ntmps25
  go_wp2_with fail
  refine wp_loop_rounds 5 ?_
  rw [rounds_succ]
  go_wp2_with fail
  refine (H0.out _).mono ?_
  rintro e w' ⟨rfl, rfl⟩
  go_wp2_with fail
  rw [rounds_succ]
  go_wp2_with fail
  refine (H1.out _).mono ?_
  rintro e w' ⟨rfl, rfl⟩
  go_wp2_with fail
  rw [rounds_succ]
  go_wp2_with fail
  refine (H2.out _).mono ?_
  rintro e w' ⟨rfl, rfl⟩
  go_wp2_with fail
  rw [rounds_succ]
  go_wp2_with fail
  refine (H3.out _).mono ?_
  rintro e w' ⟨rfl, rfl⟩
  go_wp2_with fail
  rw [rounds_succ]
  go_wp2_with fail
  go_ret
  exact ⟨Base.ret_int (by rw [HE.out]; omega), (Below.refl _ _).alloc (Nat.le_refl _) _⟩

set_option maxRecDepth 100000 in
theorem refLeast_any (f : Nat → Bool) (w : World) :
    Calls Tryd.prog 27 #[SV f] w fun e w' => e = .returned (.int .i64 (leastI f)) ∧ Below w.heap.size w w' := by
  obtain ⟨B, hB⟩ : ∃ B, B = w.heap.size := ⟨_, rfl⟩
  have HB := Lib.hid hB; clear hB
  go_enter Tryd.func27, Tryd.ntmps27
  go_wp2_with fail
  rw [← HB.out]
  go_loopw [3] (fun i wr => ∃ k : Nat, k ≤ 256 ∧ i = .int .i64 k ∧ HoldsS wr B f ∧ Hid (∀ i, i < k → f i = false) ∧ Below w.heap.size w wr) (fun i _ => 256 - (intOf i).toNat)
  case atStart =>
    refine ⟨0, Nat.zero_le _, rfl, ?_, Lib.hid (fun i h => absurd h (Nat.not_lt_zero _)), (Below.refl _ _).alloc (Nat.le_refl _) _⟩
    rw [HB.out]; exact HoldsS.new _ _ _
  case round =>
    obtain ⟨k, hk, rfl, hF, HZ, hb⟩ := hrel
    by_cases hlt : k < 256
    · have c0 := hF.c0; have c1 := hF.c1; have c2 := hF.c2; have c3 := hF.c3
      go_wp2_with fail
      refine (refHas_any _ _ hlt _).mono ?_
      rintro e w1 ⟨rfl, hb1⟩
      have hF1 := hF.below hb1
      have hb2 := hb.trans (hb1.mono hb.size)
      cases hf : f k
      · have HF := Lib.hid hf; clear hf
        go_wp2_with fail
        refine ⟨⟨k + 1, by omega, by go_num, hF1, Lib.hid (fun i hi => ?_), hb2⟩, by simp [intOf]; omega⟩
        by_cases e : i = k
        · rw [e]; exact HF.out
        · exact HZ.out i (by omega)
      · have HL := Lib.hid (leastI_at hlt HZ.out hf); clear hf
        go_wp2_with fail
        go_ret
        exact ⟨Base.ret_int HL.out.symm, hb2⟩
    · obtain rfl : k = 256 := by omega
      have HL := Lib.hid (leastI_none HZ.out)
      go_wp2_with fail
      go_ret
      exact ⟨Base.ret_int HL.out.symm, hb⟩

theorem Least_zero (f : Nat → Bool) (w : World) (h0 : wd f 0 = 0) (h1 : wd f 1 = 0) (h2 : wd f 2 = 0) (h3 : wd f 3 = 0) :
    Calls Tryd.prog 26 #[SV f] w fun e w' => e = .returned (.int .i64 (leastI f)) ∧ Below w.heap.size w w' := by
  have HL := Lib.hid (leastI_zero h0 h1 h2 h3)
  have hq := eqSet 0 0 0 0 0 0 0 0
  show Calls _ _ #[.agg #[.int .u64 (wd f 0 : Nat), .int .u64 (wd f 1 : Nat), .int .u64 (wd f 2 : Nat), .int .u64 (wd f 3 : Nat)]] _ _
  rw [h0, h1, h2, h3]
  clear h0 h1 h2 h3
  go_enter Tryd.func26, Tryd.ntmps26
  go_wp2_with fail
  go_ret
  exact ⟨Base.ret_int HL.out.symm, (Below.refl _ _).alloc (Nat.le_refl _) _⟩
theorem Least_word0 (f : Nat → Bool) (w : World) (he : Env w) (h : wd f 0 ≠ 0) :
    Calls Tryd.prog 26 #[SV f] w fun e w' => e = .returned (.int .i64 (leastI f)) ∧ Below w.heap.size w w' := by
  have hq := eqSet (wd f 0) (wd f 1) (wd f 2) (wd f 3) 0 0 0 0
  have hE : ∀ o, Env (w.alloc o) := fun o => he.below ((Below.refl _ _).alloc (Nat.le_refl _) _)
  have b0 : (((wd f 0 : Nat) : Int) == 0) = false := by simpa using h
  have HC := Lib.hid (fun W h' => tz_any (wd f 0) (wd_lt f 0) h W h')
  have HL := Lib.hid (leastI_word (k := 0) (by decide) (fun j hj => absurd hj (Nat.not_lt_zero _)) h)
  have hlt := (wd_ctz h).1
  generalize Lib.ctz 64 (wd f 0) = c at *
  have HE := Lib.hid hE
  clear h hE
  go_enter Tryd.func26, Tryd.ntmps26
  go_wp2_with fail
  refine wp_loop_rounds 1 ?_
  rw [rounds_succ]
  go_wp2_with fail
  refine (HC.out _ (HE.out _)).mono ?_
  rintro e w' ⟨rfl, rfl⟩
  go_wp2_with fail
  go_ret
  exact ⟨Base.ret_int (by rw [HL.out]; omega), (Below.refl _ _).alloc (Nat.le_refl _) _⟩
theorem Least_word1 (f : Nat → Bool) (w : World) (he : Env w) (h0 : wd f 0 = 0) (h : wd f 1 ≠ 0) :
    Calls Tryd.prog 26 #[SV f] w fun e w' => e = .returned (.int .i64 (leastI f)) ∧ Below w.heap.size w w' := by
  have hq := eqSet (wd f 0) (wd f 1) (wd f 2) (wd f 3) 0 0 0 0
  have hE : ∀ o, Env (w.alloc o) := fun o => he.below ((Below.refl _ _).alloc (Nat.le_refl _) _)
  have b0 : (((wd f 0 : Nat) : Int) == 0) = true := by simp [h0]
  have b1 : (((wd f 1 : Nat) : Int) == 0) = false := by simpa using h
  have HC := Lib.hid (fun W h' => tz_any (wd f 1) (wd_lt f 1) h W h')
  have HL := Lib.hid (leastI_word (k := 1) (by decide) (fun j hj => by
      rcases j with _ | j
      all_goals first | assumption | omega) h)
  have hlt := (wd_ctz h).1
  generalize Lib.ctz 64 (wd f 1) = c at *
  have HE := Lib.hid hE
  clear h hE h0
  go_enter Tryd.func26, Tryd.ntmps26
  go_wp2_with fail
  refine wp_loop_rounds 2 ?_
  rw [rounds_succ]
  go_wp2_with fail
  rw [rounds_succ]
  go_wp2_with fail
  refine (HC.out _ (HE.out _)).mono ?_
  rintro e w' ⟨rfl, rfl⟩
  go_wp2_with fail
  go_ret
  exact ⟨Base.ret_int (by rw [HL.out]; omega), (Below.refl _ _).alloc (Nat.le_refl _) _⟩
theorem Least_word2 (f : Nat → Bool) (w : World) (he : Env w) (h0 : wd f 0 = 0) (h1 : wd f 1 = 0) (h : wd f 2 ≠ 0) :
    Calls Tryd.prog 26 #[SV f] w fun e w' => e = .returned (.int .i64 (leastI f)) ∧ Below w.heap.size w w' := by
  have hq := eqSet (wd f 0) (wd f 1) (wd f 2) (wd f 3) 0 0 0 0
  have hE : ∀ o, Env (w.alloc o) := fun o => he.below ((Below.refl _ _).alloc (Nat.le_refl _) _)
  have b0 : (((wd f 0 : Nat) : Int) == 0) = true := by simp [h0]
  have b1 : (((wd f 1 : Nat) : Int) == 0) = true := by simp [h1]
  have b2 : (((wd f 2 : Nat) : Int) == 0) = false := by simpa using h
  have HC := Lib.hid (fun W h' => tz_any (wd f 2) (wd_lt f 2) h W h')
  have HL := Lib.hid (leastI_word (k := 2) (by decide) (fun j hj => by
      rcases j with _ | _ | j
      all_goals first | assumption | omega) h)
  have hlt := (wd_ctz h).1
  generalize Lib.ctz 64 (wd f 2) = c at *
  have HE := Lib.hid hE
  clear h hE h0 h1
  go_enter Tryd.func26, Tryd.ntmps26
  go_wp2_with fail
  refine wp_loop_rounds 3 ?_
  rw [rounds_succ]
  go_wp2_with fail
  rw [rounds_succ]
  go_wp2_with fail
  rw [rounds_succ]
  go_wp2_with fail
  refine (HC.out _ (HE.out _)).mono ?_
  rintro e w' ⟨rfl, rfl⟩
  go_wp2_with fail
  go_ret
  exact ⟨Base.ret_int (by rw [HL.out]; omega), (Below.refl _ _).alloc (Nat.le_refl _) _⟩
theorem Least_word3 (f : Nat → Bool) (w : World) (he : Env w) (h0 : wd f 0 = 0) (h1 : wd f 1 = 0) (h2 : wd f 2 = 0) (h : wd f 3 ≠ 0) :
    Calls Tryd.prog 26 #[SV f] w fun e w' => e = .returned (.int .i64 (leastI f)) ∧ Below w.heap.size w w' := by
  have hq := eqSet (wd f 0) (wd f 1) (wd f 2) (wd f 3) 0 0 0 0
  have hE : ∀ o, Env (w.alloc o) := fun o => he.below ((Below.refl _ _).alloc (Nat.le_refl _) _)
  have b0 : (((wd f 0 : Nat) : Int) == 0) = true := by simp [h0]
  have b1 : (((wd f 1 : Nat) : Int) == 0) = true := by simp [h1]
  have b2 : (((wd f 2 : Nat) : Int) == 0) = true := by simp [h2]
  have b3 : (((wd f 3 : Nat) : Int) == 0) = false := by simpa using h
  have HC := Lib.hid (fun W h' => tz_any (wd f 3) (wd_lt f 3) h W h')
  have HL := Lib.hid (leastI_word (k := 3) (by decide) (fun j hj => by
      rcases j with _ | _ | _ | j
      all_goals first | assumption | omega) h)
  have hlt := (wd_ctz h).1
  generalize Lib.ctz 64 (wd f 3) = c at *
  have HE := Lib.hid hE
  clear h hE h0 h1 h2
  go_enter Tryd.func26, Tryd.ntmps26
  go_wp2_with fail
  refine wp_loop_rounds 4 ?_
  rw [rounds_succ]
  go_wp2_with fail
  rw [rounds_succ]
  go_wp2_with fail
  rw [rounds_succ]
  go_wp2_with fail
  rw [rounds_succ]
  go_wp2_with fail
  refine (HC.out _ (HE.out _)).mono ?_
  rintro e w' ⟨rfl, rfl⟩
  go_wp2_with fail
  go_ret
  exact ⟨Base.ret_int (by rw [HL.out]; omega), (Below.refl _ _).alloc (Nat.le_refl _) _⟩
theorem Least_any (f : Nat → Bool) (w : World) (he : Env w) :
    Calls Tryd.prog 26 #[SV f] w fun e w' => e = .returned (.int .i64 (leastI f)) ∧ Below w.heap.size w w' := by
  by_cases h0 : wd f 0 = 0
  · by_cases h1 : wd f 1 = 0
    · by_cases h2 : wd f 2 = 0
      · by_cases h3 : wd f 3 = 0
        · exact Least_zero f w h0 h1 h2 h3
        · exact Least_word3 f w he h0 h1 h2 h3
      · exact Least_word2 f w he h0 h1 h2
    · exact Least_word1 f w he h0 h1
  · exact Least_word0 f w he h0
end Go.Proofs.YtgmoaglanjfdmaaDoor.SetW
