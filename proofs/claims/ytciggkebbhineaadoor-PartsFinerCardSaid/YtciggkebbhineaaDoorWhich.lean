/- Walk of layer 19: which. -/
import Derived.Test.YtciggkebbhineaaDoorSets
import Derived.LoopN
namespace Go.Proofs.YtciggkebbhineaaDoor.PartW
set_option linter.unusedVariables false
open Go.RowKit Go.Maps Go.Proofs.YtciggkebbhineaaDoor.PartM Go.Proofs.YtciggkebbhineaaDoor.SetM Go.Proofs.YtciggkebbhineaaDoor.SetW

theorem toF_yes {f : Nat → Bool} {k : Nat} (h : f k = true) : withF (toF f k) k = toF f (k + 1) := by
  funext i
  unfold withF toF
  rw [Bool.eq_iff_iff]; simp
  constructor
  · rintro (⟨h1, h2⟩ | rfl)
    · exact ⟨by omega, h2⟩
    · exact ⟨by omega, h⟩
  · rintro ⟨h1, h2⟩
    by_cases e : i = k
    · exact .inr e
    · exact .inl ⟨by omega, h2⟩
theorem toF_no {f : Nat → Bool} {k : Nat} (h : f k = false) : toF f k = toF f (k + 1) := by
  funext i
  unfold toF
  rw [Bool.eq_iff_iff]; simp
  intro h2
  have : i ≠ k := fun e => by subst e; rw [h] at h2; cases h2
  omega
theorem toF_zero (f : Nat → Bool) : toF f 0 = emptyF := by funext i; simp [toF, emptyF]
theorem or_place (f : Nat → Bool) (k : Nat) (hk : k < 64) : bits BinOp.or IntKind.u64 (wd f 0) (IntKind.u64.wrap (2 ^ k)) = (wd (withF f k) 0 : Int) := by
  have := or_bit f k 0 (by omega)
  rw [Nat.mod_eq_of_lt hk] at this; exact this
theorem which_any {w : World} {v : Value} {fs : List (Nat → Bool)} (h : SSl w v fs) (hl : fs.length ≤ 64) {b : Nat} (hb : b < 256) :
    Calls Tryd.prog 30 #[v, .int .u8 b] w fun e w' => e = .returned (.int .u64 (wd (memF fs b) 0)) ∧ Below w.heap.size w w' := by
  obtain ⟨a, cap, rfl, h1, h2, hs⟩ := h.shape
  obtain ⟨L, hL⟩ : ∃ L, L = fs.length := ⟨_, rfl⟩
  rw [← hL]
  have HL := Lib.hid hL; have HB := Lib.hid hb; have HS := Lib.hid hs; have HH := Lib.hid h
  have HM := Lib.hid (show L ≤ 64 by omega)
  clear hL hb hs h h1 h2 hl
  go_enter Tryd.func30, Tryd.ntmps30
  go_wp2_with fail
  go_loopw [5, 10] (fun s i wr => ∃ k : Nat, k ≤ L ∧ i = .int .i64 k ∧ s = .int .u64 (wd (toF (memF fs b) k) 0) ∧ Below w.heap.size w wr) (fun _ i _ => L - (intOf i).toNat)
  case atStart =>
    exact ⟨0, by omega, rfl, by rw [toF_zero, wd_empty]; rfl, Below.refl _ _⟩
  case round =>
    obtain ⟨k, hk, rfl, rfl, hb⟩ := hrel
    by_cases hlt : k < L
    · have hkl : k < fs.length := by rw [← HL.out]; exact hlt
      obtain ⟨B, o, rfl, hso⟩ : ∃ B o, a = some ⟨B, o, none⟩ ∧ SetsO wr B o fs := by
        rcases HS.out with rfl | ⟨B, o, e, hso⟩
        · simp at hkl
        · exact ⟨B, o, e, fun k hk j hj => by have hc := hso k hk j hj; rw [hb.cell (World.block_lt_of_cell? _ _ hc)]; exact hc⟩
      obtain ⟨c0, c1, c2, c3⟩ := hso.at hkl
      have HF := Lib.hid (memF_at hkl b)
      obtain ⟨g, hg⟩ : ∃ g, g = fs[k] := ⟨_, rfl⟩
      rw [← hg] at c0 c1 c2 c3 HF
      have t0 : decide ((k : Int) < (L : Int)) = true := by simp; omega
      have t1 : ¬ ((L : Int) ≤ (k : Int)) := by omega
      have hk64 : k < 64 := by have := HM.out; omega
      have HO := Lib.hid (or_place (toF (memF fs b) k) k hk64)
      have HLT := Lib.hid hlt; have HBB := Lib.hid hb
      clear hlt hk hso hkl hg hb
      have hal : Below w.heap.size w (wr.alloc (.cells #[.int .u64 (wd g 0), .int .u64 (wd g 1), .int .u64 (wd g 2), .int .u64 (wd g 3)] 35)) := HBB.out.alloc HBB.out.size _
      have HAL := Lib.hid hal; clear hal
      go_wp2_with fail
      refine (Has_any g b HB.out _).mono ?_
      rintro e w1 ⟨rfl, hb1⟩
      have HB1 := Lib.hid (HAL.out.trans (hb1.mono HAL.out.size))
      clear hb1
      cases hgb : g b
      · have HT := Lib.hid (toF_no (f := memF fs b) (k := k) (by rw [HF.out, hgb])); clear hgb
        go_wp2_with fail
        refine ⟨⟨k + 1, by have := HLT.out; omega, by first | rfl | simp, by rw [HT.out], HB1.out⟩, by have := HLT.out; simp [intOf]; omega⟩
      · have HT := Lib.hid (toF_yes (f := memF fs b) (k := k) (by rw [HF.out, hgb])); clear hgb
        go_wp2_with fail
        refine ⟨⟨k + 1, by have := HLT.out; omega, by first | rfl | simp, by rw [← HT.out, ← HO.out], HB1.out⟩, by have := HLT.out; simp [intOf]; omega⟩
    · obtain rfl : k = L := by omega
      have HE := Lib.hid (show toF (memF fs b) k = memF fs b by
        funext i
        unfold toF
        by_cases hi : i < k
        · simp [hi]
        · simp [hi, memF_far (fs := fs) (k := i) (by have := HL.out; omega) b])
      have HBB := Lib.hid hb
      clear hlt hk hb
      go_wp2_with fail
      go_ret
      exact ⟨by rw [HE.out]; rfl, HBB.out⟩
end Go.Proofs.YtciggkebbhineaaDoor.PartW
