/- Walk of slices.Repeat of one number. -/
import Derived.Test.YtfhddbjojpmbcaaNumMath
import Derived.Laws.CopyOwn
namespace Go.Proofs.Ytfhddbjojpmbcaa.DfaW
set_option linter.unusedVariables false
open Go.RowKit Go.Maps Go.Proofs.Ytfhddbjojpmbcaa.PartM Go.Proofs.Ytfhddbjojpmbcaa.PartW

/-- So many times -1, then so many times 0. -/
def fillL (j n : Nat) : List Value := List.replicate j (.int .i64 (-1)) ++ List.replicate (n - j) (.int .i64 0)
theorem fillL_len {j n : Nat} (h : j ≤ n) : (fillL j n).length = n := by simp [fillL]; omega
theorem fillL_at {j n i : Nat} (h : j ≤ n) (hi : i < j) : (fillL j n)[i]? = some (.int .i64 (-1)) := by
  unfold fillL
  rw [List.getElem?_append_left (by simpa using hi)]
  simp [hi]
theorem fillL_splice {j c n : Nat} (h : j + c ≤ n) : splice (fillL j n) j (List.replicate c (.int .i64 (-1))) = fillL (j + c) n := by
  unfold splice fillL
  rw [List.length_replicate]
  have e1 : (List.replicate j (Value.int .i64 (-1)) ++ List.replicate (n - j) (Value.int .i64 0)).take j = List.replicate j (.int .i64 (-1)) := by
    rw [List.take_append_of_le_length (by simp)]
    exact List.take_of_length_le (by simp)
  have e2 : (List.replicate j (Value.int .i64 (-1)) ++ List.replicate (n - j) (Value.int .i64 0)).drop (j + c) = List.replicate (n - (j + c)) (.int .i64 0) := by
    rw [List.drop_append]
    simp [show n - j - c = n - (j + c) by omega]
  rw [e1, e2, ← List.append_assoc, List.replicate_append_replicate]
theorem made_fill (n : Nat) : madeCells #[.int .i64 0] n = (fillL 0 n).toArray := by
  apply Array.toList_inj.1
  rw [toList_madeCells_one]
  simp [fillL]

set_option maxRecDepth 100000 in
set_option maxHeartbeats 2000000 in
theorem Repeat_any (w : World) {b o c n : Nat} (hc : w.cell? ⟨b, o, none⟩ = some (.int .i64 (-1))) (h0 : 0 < n) (hn : n ≤ 1048576) :
    Calls Try.prog 62 #[.slice (some ⟨b, o, none⟩) 1 c, .int .i64 n] w fun e w' => e = .returned (.slice (some ⟨w.heap.size, 0, none⟩) n n) ∧ Ar w' w.heap.size (fillL n n).toArray 3 ∧ Below w.heap.size w w' := by
  obtain ⟨i0, hi, hz0, hz1, hz2⟩ := info_parts info3
  have hmk : ∀ w, (Instr.makeSlice 24 (.int .i64 (n : Nat)) (.int .i64 (n : Nat))).run Try.prog w = .ok (.slice (some ⟨w.heap.size, 0, none⟩) n n) (w.alloc (.cells (madeCells #[.int .i64 0] n) 3)) := fun w =>
    run_make_row' 24 3 (.int .i64 0) 8 Try.underlying24 info3 rfl .i64 .i64 n (by omega) (by omega) w
  have hb : b < w.heap.size := World.block_lt_of_cell? _ _ hc
  have hni : (n : Int) ≤ 1048576 := by omega
  go_enter Try.func62, Try.ntmps62
  go_wp2_with fail
  refine (Try.bits_Mul 1 n (by omega) (by omega) _).mono ?_
  rintro e w1 ⟨rfl, rfl⟩
  have hG := Lib.hid (show (w1.alloc (.cells (madeCells #[.int .i64 0] n) 3)).heap[w1.heap.size]? = some (.cells (fillL 0 n).toArray 3 (0, 0)) by
    rw [← made_fill]; exact Ar.new _ _ _)
  have hsrc := Lib.hid (show (w1.alloc (.cells (madeCells #[.int .i64 0] n) 3)).cell? ⟨b, o, none⟩ = some (.int .i64 (-1)) from (((Below.refl _ w1).alloc (Nat.le_refl _) _).cell (p := ⟨b, o, none⟩) hb).trans hc)
  have hB0 := Lib.hid (show Below w1.heap.size w1 (w1.alloc (.cells (madeCells #[.int .i64 0] n) 3)) from (Below.refl _ _).alloc (Nat.le_refl _) _)
  have hu1 : ¬ (9223372036854775807 : Int) < (n : Int) := by omega
  have d1 : (n : Int) / 18446744073709551616 = 0 := by omega
  have d2 : (n : Int) % 18446744073709551616 = n := by omega
  have hm1 : ([Value.int .i64 (-1)] : List Value).length = Nat.min 1 n := by show 1 = min 1 n; omega
  have hf1 : 0 + ([Value.int .i64 (-1)] : List Value).length ≤ (fillL 0 n).length := by rw [fillL_len (Nat.zero_le _)]; show 0 + 1 ≤ n; omega
  have ho1 : ∀ v ∈ ([Value.int .i64 (-1)] : List Value), v.oneCell' = true := fun v hv => by rw [List.mem_singleton.1 hv]; rfl
  have hs1 : ∀ (j : Nat) v, ([Value.int .i64 (-1)] : List Value)[j]? = some v → (w1.alloc (.cells (madeCells #[.int .i64 0] n) 3)).cell? ((⟨b, o, none⟩ : Addr).add j) = some v := fun j v hj => by
    obtain rfl : j = 0 := by have := (List.getElem?_eq_some_iff.1 hj).1; simpa using this
    rw [show v = .int .i64 (-1) by simpa using hj.symm]
    exact hsrc.out
  have HS1 := Lib.hid hs1; have HF1 := Lib.hid hf1; have HM1 := Lib.hid hm1; have HO1 := Lib.hid ho1
  clear hs1 hf1 hm1 ho1
  have isz : (Try.prog.info? 3).map (·.size) = some 1 := by kernel_rfl
  go_wp2_with (with_reducible (refine wpList_copy_splice rfl (.tmp 31) (.tmp 32) 24 24 rfl 3 Try.underlying24 isz _ _ n n 1 c rfl rfl w1.heap.size 0 (fillL 0 n) 3 hG.out [.int .i64 (-1)] HM1.out (fun _ => ⟨rfl, _, rfl, HS1.out⟩) HF1.out HO1.out w1.heap.size w1 hB0.out (Nat.le_refl _) ?_; intro w2 hg2 hb2))
  have HG2 := Lib.hid (show Ar w2 w1.heap.size (fillL 1 n).toArray 3 by
    have := hg2.out
    rw [show [Value.int .i64 (-1)] = List.replicate 1 (.int .i64 (-1)) from rfl, fillL_splice (by omega)] at this
    exact this)
  have HB2 := Lib.hid hb2
  obtain ⟨g, hg⟩ : ∃ g, g = w1.heap.size := ⟨_, rfl⟩
  have HGS := Lib.hid hg
  rw [← hg] at HG2 ⊢
  clear hg2 hb2 hG hsrc hB0 HS1 HF1 HM1 HO1 hmk hg hu1 d1 d2
  go_loopw [8] (fun i wr => ∃ j : Nat, 0 < j ∧ j ≤ n ∧ i = .int .i64 j ∧ Ar wr g (fillL j n).toArray 3 ∧ Below w1.heap.size w1 wr) (fun i _ => n - (intOf i).toNat)
  case atStart => exact ⟨1, by decide, h0, rfl, HG2.out, HB2.out⟩
  case round =>
    obtain ⟨j, hj0, hj, rfl, hA, hB⟩ := hrel
    clear HG2 HB2
    by_cases hlt : j < n
    · have HA := Lib.hid hA; have HB := Lib.hid hB
      clear hA hB
      have hji : (j : Int) < (n : Int) := by omega
      go_wp2_with fail
      obtain ⟨k, hk⟩ : ∃ k, k = min j (n - j) := ⟨_, rfl⟩
      have hk2 : j + k ≤ n ∧ 0 < k ∧ k ≤ j := by omega
      obtain ⟨X, hX⟩ : ∃ X, X = List.replicate k (Value.int .i64 (-1)) := ⟨_, rfl⟩
      have hXl : X.length = k := by rw [hX]; simp
      have HM := Lib.hid (show X.length = Nat.min j (n - j) by rw [hXl]; exact hk)
      have HF := Lib.hid (show j + X.length ≤ (fillL j n).length by rw [fillL_len hj, hXl]; exact hk2.1)
      have HO := Lib.hid (show ∀ v ∈ X, v.oneCell' = true from fun v hv => by rw [hX] at hv; rw [(List.mem_replicate.1 hv).2]; rfl)
      have HS := Lib.hid (show ∀ (i : Nat) v, X[i]? = some v → wr.drew.cell? ((⟨g, 0, none⟩ : Addr).add i) = some v from fun i v hv => by
        have hi : i < k := by have := (List.getElem?_eq_some_iff.1 hv).1; omega
        rw [hX] at hv
        have hv2 : v = .int .i64 (-1) := by simpa [hi] using hv.symm
        have hp : (⟨g, 0, none⟩ : Addr).add i = ⟨g, i, none⟩ := by unfold Addr.add; split <;> simp_all
        rw [hp, hv2]
        show wr.cell? _ = _
        rw [Ar.at' HA.out i]
        have := fillL_at (j := j) (n := n) (i := i) hj (by omega)
        simpa using this)
      have HP := Lib.hid (show splice (fillL j n) j X = fillL (j + k) n by rw [hX]; exact fillL_splice hk2.1)
      have HK := Lib.hid hk2; have HXL := Lib.hid hXl; have HLT := Lib.hid hlt
      have hwr : IntKind.i64.wrap ((j : Int) + (X.length : Int)) = ((j + k : Nat) : Int) := by rw [hXl, IntKind.wrap_i64]; omega
      have hle1 : (j : Int) ≤ (n : Int) := by omega
      have hne : ¬ n = j := by omega
      have HGB := Lib.hid (show w1.heap.size ≤ g by rw [HGS.out]; exact Nat.le_refl _)
      clear hk hk2 hX hXl hlt hj
      go_region_law (refine step_copy_splice rfl (.tmp 41) (.tmp 44) 24 24 rfl 3 Try.underlying24 isz (some ⟨g, j, none⟩) (some ⟨g, 0, none⟩) (n - j) (n - j) j n (by simp only [List.getElem_toArray, List.getElem_cons_succ, List.getElem_cons_zero, Act.put, List.setIfInBounds_toArray, List.set_cons_succ, List.set_cons_zero, Act.eval]; rfl) (by simp only [List.getElem_toArray, List.getElem_cons_succ, List.getElem_cons_zero, Act.put, List.setIfInBounds_toArray, List.set_cons_succ, List.set_cons_zero, Act.eval]; rfl) g j (fillL j n) 3 HA.out X HM.out (fun _ => ⟨rfl, _, rfl, HS.out⟩) HF.out HO.out w1.heap.size w1 (below_drewN HB.out 1) HGB.out ?_; intro w3 hg3 hb3)
      simp only [List.getElem_toArray, List.getElem_cons_succ, List.getElem_cons_zero, Act.put, List.setIfInBounds_toArray, List.set_cons_succ, List.set_cons_zero]
      go_wp2_with fail
      have hA3 : Ar w3 g (fillL (j + k) n).toArray 3 := by have := hg3.out; rw [HP.out] at this; exact this
      exact ⟨⟨j + k, by omega, HK.out.1, by go_num, hA3, hb3⟩, by have := HK.out; have := HLT.out; simp [intOf]; omega⟩
    · obtain rfl : j = n := by omega
      have HA := Lib.hid hA; have HB := Lib.hid hB
      clear hA hB
      go_wp2_with fail
      go_ret
      rw [HGS.out] at HA ⊢
      exact ⟨rfl, HA.out, HB.out⟩
end Go.Proofs.Ytfhddbjojpmbcaa.DfaW
