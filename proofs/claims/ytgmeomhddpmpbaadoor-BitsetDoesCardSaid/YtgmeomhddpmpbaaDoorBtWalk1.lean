/- Walks of layer 14: rooms, New, Room, Has, Put, Take. -/
import Derived.Test.YtgmeomhddpmpbaaDoorBtMath
import Derived.Test.YtgmeomhddpmpbaaDoorBitWalk
import Derived.StillTailTactics
import Derived.Deep.RegionHeld3
namespace Go.Proofs.YtgmeomhddpmpbaaDoor.BitsW
set_option linter.unusedVariables false
open Go.RowKit Go.Proofs.YtgmeomhddpmpbaaDoor.SetM

theorem length_any (n : Nat) (hn : n ≤ 1048576) (w : World) :
    Calls Tryd.prog 24 #[.agg #[.int .i64 n]] w fun e w' => e = .returned (.int .i64 (lenW n)) ∧ Below w.heap.size w w' := by
  have H := Lib.hid (show wrap64 ((n : Int) + 63) / 64 = ((lenW n : Nat) : Int) by unfold wrap64 lenW; omega)
  go_enter Tryd.func24, Tryd.ntmps24
  go_wp2_with fail
  go_ret
  refine ⟨Base.ret_int ?_, (Below.refl _ _).alloc (Nat.le_refl _) _⟩
  unfold lenW; omega
theorem holds_any (n : Nat) (i : Int) (w : World) :
    Calls Tryd.prog 25 #[.agg #[.int .i64 n], .int .i64 i] w fun e w' => e = .returned (.bool (inR n i)) ∧ Below w.heap.size w w' := by
  cases h1 : decide (0 ≤ i) <;> cases h2 : decide (i < n) <;>
  · go_enter Tryd.func25, Tryd.ntmps25
    go_wp2_with fail
    go_ret
    exact ⟨Base.ret_bool (by simp only [inR, h1, h2]; rfl), (Below.refl _ _).alloc (Nat.le_refl _) _⟩
theorem Base.ret_u64 {a b : Int} (h : a = b) : Ending.returned (.int .u64 a) = .returned (.int .u64 b) := by rw [h]
theorem pow_less (r : Nat) (h : r < 64) : IntKind.u64.wrap (IntKind.u64.wrap (2 ^ r) - 1) = ((2 ^ r - 1 : Nat) : Int) := by
  obtain ⟨e, hp⟩ := mask_nat r
  rw [Nat.mod_eq_of_lt h] at e hp
  have h0 : 0 < 2 ^ r := Nat.pow_pos (by decide)
  rw [e, IntKind.wrap_u64]
  generalize 2 ^ r = p at *
  omega
theorem part_any (n j : Nat) (hn : n ≤ 1048576) (hj : j < lenW n) (w : World) :
    Calls Tryd.prog 27 #[.agg #[.int .i64 n], .int .i64 j] w fun e w' => e = .returned (.int .u64 (wd (partF n) j)) ∧ Below w.heap.size w w' := by
  have hl := lenW_le hn
  have hj64 : 64 * j ≤ n := by unfold lenW at hj; omega
  by_cases h : n - 64 * j < 64
  · have t0 : decide ((n : Int) - 64 * (j : Int) < 64) = true := by simp; omega
    have H := Lib.hid (part_some h hj64)
    have H2 := Lib.hid (show ((n : Int) - 64 * (j : Int)).toNat = n - 64 * j by omega)
    go_enter Tryd.func27, Tryd.ntmps27
    go_wp2_with fail
    go_ret
    refine ⟨?_, (Below.refl _ _).alloc (Nat.le_refl _) _⟩
    exact Base.ret_u64 (by rw [pow_less _ h, H.out])
  · have t0 : decide ((n : Int) - 64 * (j : Int) < 64) = false := by simp; omega
    have H := Lib.hid (part_full (n := n) (j := j) (by omega))
    go_enter Tryd.func27, Tryd.ntmps27
    go_wp2_with fail
    go_ret
    exact ⟨by rw [← H.out]; rfl, (Below.refl _ _).alloc (Nat.le_refl _) _⟩

theorem Room_any (p q n : Nat) (f : Nat → Bool) (w : World) (h : Bt w p q n f) :
    Calls Tryd.prog 15 #[.pointer (some ⟨p, 0, none⟩)] w fun e w' => e = .returned (.int .i64 n) ∧ w = w' := by
  have c0 := h.c0
  go_enter Tryd.func15, Tryd.ntmps15
  go_wp2_with fail
  go_ret
  exact ⟨rfl, rfl⟩
theorem Has_any (p q n : Nat) (f : Nat → Bool) (i : Int) (w : World) (h : Bt w p q n f) :
    Calls Tryd.prog 19 #[.pointer (some ⟨p, 0, none⟩), .int .i64 i] w fun e w' => e = .returned (.bool (hasI f i)) ∧ Below w.heap.size w w' := by
  obtain ⟨cap, hS⟩ := h.sw
  have hlt := h.lt
  have c0 := hS.c0
  have hin := h.into
  cases hR : inR n i
  · have HF := Lib.hid (show hasI f i = false by
      cases hh : hasI f i
      · rfl
      · rw [hasI_room hin hh] at hR; cases hR)
    have HR := Lib.hid hR
    clear hR
    go_enter Tryd.func19, Tryd.ntmps19
    go_wp2_with fail
    refine (holds_any n i _).mono ?_
    rintro e w1 ⟨rfl, hb1⟩
    rw [HR.out]
    go_wp2_with fail
    go_ret
    exact ⟨Base.ret_bool HF.out.symm, hb1⟩
  · obtain ⟨k, rfl, hk⟩ := inR_nat hR
    have hj := lenW_pos hk
    have HF := Lib.hid (bt_test f k)
    have HR := Lib.hid hR
    have HC := Lib.hid (hasI_cast (f := f) (k := k))
    have hle := lenW_le h.room
    have HS := Lib.hid hS
    clear hR
    go_enter Tryd.func19, Tryd.ntmps19
    go_wp2_with fail
    refine (holds_any n _ _).mono ?_
    rintro e w1 ⟨rfl, hb1⟩
    rw [HR.out]
    have d1 : w1.cell? ⟨p, 1, none⟩ = some (.slice (some ⟨q, 0, none⟩) (lenW n) cap) := (hb1.cell (p := ⟨p, 1, none⟩) hlt.1).trans HS.out.c1
    have d2 : w1.cell? ⟨q, k / 64, none⟩ = some (.int .u64 (wd f (k / 64))) := (hb1.cell (p := ⟨q, _, none⟩) hlt.2).trans (HS.out.word hj)
    clear c0
    go_wp2_with fail
    go_ret
    exact ⟨Base.ret_bool (by rw [HF.out, HC.out]), hb1⟩

theorem Put_any (p q n : Nat) (f : Nat → Bool) (i : Int) (w : World) (h : Bt w p q n f) :
    Calls Tryd.prog 8 #[.pointer (some ⟨p, 0, none⟩), .int .i64 i] w fun e w' => e = .returned (.bool (putB n f i)) ∧ Bt w' p q n (putF n f i) ∧ But w.heap.size (some q) w w' := by
  obtain ⟨cap, hS⟩ := h.sw
  have hlt := h.lt
  have c0 := hS.c0
  cases hR : inR n i
  · have HB := Lib.hid (show putB n f i = false by simp [putB, hR])
    have HF := Lib.hid (show putF n f i = f by simp [putF, hR])
    have HR := Lib.hid hR
    clear hR
    go_enter Tryd.func8, Tryd.ntmps8
    go_wp2_with fail
    refine (holds_any n i _).mono ?_
    rintro e w1 ⟨rfl, hb1⟩
    rw [HR.out]
    go_wp2_with fail
    go_ret
    rw [HB.out, HF.out]
    exact ⟨rfl, h.below hb1, But.of _ hb1⟩
  · obtain ⟨k, rfl, hk⟩ := inR_nat hR
    have hj := lenW_pos hk
    have HR := Lib.hid hR
    have hle := lenW_le h.room
    have HC := Lib.hid (hasI_cast (f := f) (k := k))
    have HBT := Lib.hid h
    clear h
    cases hf : f k
    · have HF := Lib.hid hf
      have HB := Lib.hid (show putB n f k = true by simp [putB, hR, hasI_cast, hf])
      have HP := Lib.hid (show putF n f k = withF f k by simp [putF, hR])
      clear hf hR
      have HO := Lib.hid (bt_or f k)
      go_enter Tryd.func8, Tryd.ntmps8
      go_wp2_with fail
      refine (holds_any n _ _).mono ?_
      rintro e w1 ⟨rfl, hb1⟩
      rw [HR.out]
      have hB1 := HBT.out.below hb1
      have HB1 := Lib.hid hB1; clear hB1
      go_wp2_with fail
      refine (Has_any p q n f _ _ HB1.out).mono ?_
      rintro e w2 ⟨rfl, hb2⟩
      rw [HC.out, HF.out]
      have hb3 := hb1.trans (hb2.mono hb1.size)
      have hS3 : Sw w2.drew p q n cap f := ⟨(hb3.drew.block p hlt.1).trans hS.blk, owns_but hS.own (But.of none hb3.drew) (fun k' e => by simp only [Value.ownBlock, Option.some.injEq] at e; subst e; exact ⟨hlt.2, by simp⟩)⟩
      have hb4 := hb3.drew
      clear c0
      have e1 := hS3.c1
      have e2 := hS3.word hj
      have e3 := hS3.frozen (k / 64)
      have HS3 := Lib.hid hS3; clear hS3
      go_wp2_with fail
      have m1 : IntKind.i64.wrap ((k : Int) / 64) = (k : Int) / 64 := by rw [IntKind.wrap_i64]; omega
      have m2 : IntKind.i64.wrap ((k : Int) % 64) = (k : Int) % 64 := by rw [IntKind.wrap_i64]; omega
      have m3 : ((k : Int) / 64).toNat = k / 64 := by omega
      have m5 : 0 ≤ (k : Int) / 64 := by omega
      have m6 : (k : Int) / 64 < (lenW n : Int) := by omega
      have m4 : (k : Int).tmod 64 = (k : Int) % 64 := by rw [Int.tmod_eq_emod_of_nonneg (by omega)]
      have m7 : ((k : Int) % 64).toNat = k % 64 := by omega
      have m8 : 0 ≤ (k : Int) % 64 := by omega
      go_still_tail 13, (by kernel_rfl)
      change wpList _ _ _ _ _ w2.drew
      generalize w2.drew = w3 at *
      go_wp2_with fail
      go_ret
      rw [HO.out, HB.out, HP.out]
      have hne := HBT.out.ne
      refine ⟨rfl, (HS3.out.store hne hj (fun k' h1 h2 => wd_other f k' k (fun e => h1 e.symm))).bt HBT.out.room (withF_into HBT.out.into hk), (But.of (some q) hb4).set (p := ⟨q, k / 64, none⟩) (.inr rfl) _⟩
    · have HF := Lib.hid hf
      have HB := Lib.hid (show putB n f k = false by simp [putB, hR, hasI_cast, hf])
      have HP := Lib.hid (show putF n f k = f by simp only [putF, hR, if_true, Int.toNat_natCast]; exact withF_in hf)
      clear hf hR
      go_enter Tryd.func8, Tryd.ntmps8
      go_wp2_with fail
      refine (holds_any n _ _).mono ?_
      rintro e w1 ⟨rfl, hb1⟩
      rw [HR.out]
      have hB1 := HBT.out.below hb1
      have HB1 := Lib.hid hB1; clear hB1
      go_wp2_with fail
      refine (Has_any p q n f _ _ HB1.out).mono ?_
      rintro e w2 ⟨rfl, hb2⟩
      rw [HC.out, HF.out]
      have hb3 := hb1.trans (hb2.mono hb1.size)
      go_wp2_with fail
      go_ret
      rw [HB.out, HP.out]
      exact ⟨rfl, HBT.out.below hb3, But.of _ hb3⟩
theorem Take_any (p q n : Nat) (f : Nat → Bool) (i : Int) (w : World) (h : Bt w p q n f) :
    Calls Tryd.prog 10 #[.pointer (some ⟨p, 0, none⟩), .int .i64 i] w fun e w' => e = .returned (.bool (hasI f i)) ∧ Bt w' p q n (takeF f i) ∧ But w.heap.size (some q) w w' := by
  obtain ⟨cap, hS⟩ := h.sw
  have hlt := h.lt
  have HBT := Lib.hid h
  cases hf : hasI f i
  · have HF := Lib.hid hf
    have HP := Lib.hid (show takeF f i = f by simp [takeF, hf])
    clear hf h
    go_enter Tryd.func10, Tryd.ntmps10
    go_wp2_with fail
    refine (Has_any p q n f _ _ HBT.out).mono ?_
    rintro e w2 ⟨rfl, hb2⟩
    rw [HF.out]
    go_wp2_with fail
    go_ret
    rw [HP.out]
    exact ⟨rfl, HBT.out.below hb2, But.of _ hb2⟩
  · have hR := hasI_room h.into hf
    obtain ⟨k, rfl, hk⟩ := inR_nat hR
    have hj := lenW_pos hk
    have hle := lenW_le h.room
    have HF := Lib.hid hf
    have HP := Lib.hid (show takeF f k = lessOne f k by simp [takeF, hf])
    have HO := Lib.hid (bt_less f k)
    clear hf h hR
    go_enter Tryd.func10, Tryd.ntmps10
    go_wp2_with fail
    refine (Has_any p q n f _ _ HBT.out).mono ?_
    rintro e w2 ⟨rfl, hb2⟩
    rw [HF.out]
    have hS3 : Sw w2.drew p q n cap f := ⟨(hb2.drew.block p hlt.1).trans hS.blk, owns_but hS.own (But.of none hb2.drew) (fun k' e => by simp only [Value.ownBlock, Option.some.injEq] at e; subst e; exact ⟨hlt.2, by simp⟩)⟩
    have hb4 := hb2.drew
    have e1 := hS3.c1
    have e2 := hS3.word hj
    have e3 := hS3.frozen (k / 64)
    have HS3 := Lib.hid hS3; clear hS3
    go_wp2_with fail
    have m1 : IntKind.i64.wrap ((k : Int) / 64) = (k : Int) / 64 := by rw [IntKind.wrap_i64]; omega
    have m2 : IntKind.i64.wrap ((k : Int) % 64) = (k : Int) % 64 := by rw [IntKind.wrap_i64]; omega
    have m3 : ((k : Int) / 64).toNat = k / 64 := by omega
    have m5 : 0 ≤ (k : Int) / 64 := by omega
    have m6 : (k : Int) / 64 < (lenW n : Int) := by omega
    have m4 : (k : Int).tmod 64 = (k : Int) % 64 := by rw [Int.tmod_eq_emod_of_nonneg (by omega)]
    have m7 : ((k : Int) % 64).toNat = k % 64 := by omega
    have m8 : 0 ≤ (k : Int) % 64 := by omega
    go_still_tail 13, (by kernel_rfl)
    change wpList _ _ _ _ _ w2.drew
    generalize w2.drew = w3 at *
    go_wp2_with fail
    go_ret
    rw [HO.out, HP.out]
    have hne := HBT.out.ne
    refine ⟨rfl, (HS3.out.store hne hj (fun k' h1 h2 => wd_lessOne f k' k (fun e => h1 e.symm))).bt HBT.out.room (lessOne_into HBT.out.into), (But.of (some q) hb4).set (p := ⟨q, k / 64, none⟩) (.inr rfl) _⟩
end Go.Proofs.YtgmeomhddpmpbaaDoor.BitsW
