/- Walks of layer 19's document: numbers. -/
import Derived.Test.YtkghnjgioijgpaaRefLeast
namespace Go.Proofs.Ytkghnjgioijgpaa.PartW
set_option linter.unusedVariables false
open Go.RowKit Go.Maps Go.Proofs.Ytkghnjgioijgpaa.PartM Go.Proofs.Ytkghnjgioijgpaa.SetM Go.Proofs.Ytkghnjgioijgpaa.SetW

/-- The array when the classes below i are numbered, and those bytes of class i that are below c. -/
def numTo (E : Nat → Nat → Bool) (i c : Nat) : Nat → Nat := fun x => if nm E x < i ∨ (nm E x = i ∧ x < c) then nm E x else 0
theorem numTo_zero (E : Nat → Nat → Bool) : numTo E 0 0 = fun _ => 0 := by funext x; simp [numTo]
theorem numTo_next {C : Array Value} {E : Nat → Nat → Bool} {i : Nat} (h : IsA C (numTo E i 256)) : IsA C (numTo E (i + 1) 0) := h.congr fun x hx => by
  unfold numTo
  by_cases h1 : nm E x < i + 1
  · rw [if_pos (by omega), if_pos (.inl h1)]
  · rw [if_neg (by omega), if_neg (by omega)]
theorem numTo_all {C : Array Value} {E : Nat → Nat → Bool} (hE : Eqv E) (h : IsA C (numTo E (rk E 256) 0)) : IsA C (nm E) := h.congr fun x hx => by
  unfold numTo
  rw [if_pos (.inl (nm_lt hE hx))]
theorem numTo_yes {C : Array Value} {E : Nat → Nat → Bool} {i c : Nat} (h : IsA C (numTo E i c)) (hc : nm E c = i) : IsA (C.setIfInBounds c (.int .u8 (i : Nat))) (numTo E i (c + 1)) := by
  refine (h.set c i).congr fun x hx => ?_
  unfold numTo
  by_cases e : x = c
  · subst e; rw [if_pos rfl, if_pos (.inr ⟨hc, by omega⟩), hc]
  · rw [if_neg e]
    by_cases h1 : nm E x < i ∨ (nm E x = i ∧ x < c)
    · rw [if_pos h1, if_pos (by omega)]
    · rw [if_neg h1, if_neg (by omega)]
theorem numTo_no {C : Array Value} {E : Nat → Nat → Bool} {i c : Nat} (h : IsA C (numTo E i c)) (hc : nm E c ≠ i) : IsA C (numTo E i (c + 1)) := h.congr fun x hx => by
  unfold numTo
  by_cases e : x = c
  · subst e
    by_cases h1 : nm E x < i
    · rw [if_pos (.inl h1), if_pos (.inl h1)]
    · rw [if_neg (by omega), if_neg (by omega)]
  · by_cases h1 : nm E x < i ∨ (nm E x = i ∧ x < c)
    · rw [if_pos h1, if_pos (by omega)]
    · rw [if_neg h1, if_neg (by omega)]
theorem build_arr {Z : Array Value} (hz : ∀ w, (zeroValue 22).run Try.prog w = .ok (.agg Z) w) (w : World) : (Instr.build 22 #[]).run Try.prog w = .ok (.agg Z) w := by
  simp [Instr.build, hz, run_underlying Try.underlying22, Try.sizeOf5, Instr.fill, Result.andThen, Value.cells]
theorem setRow_new (w : World) (C D : Array Value) (t : TypeId) : (w.alloc (.cells C t)).setRow w.heap.size D = w.alloc (.cells D t) := World.setRow_alloc_new w C D t

set_option maxRecDepth 100000 in
set_option maxHeartbeats 2000000 in
theorem numbers_any {w : World} {v : Value} {E : Nat → Nat → Bool} (hE : Eqv E) (h : SSl w v (clsL E 256 (rk E 256))) :
    Calls Try.prog 70 #[v] w fun e w' => ∃ Y, e = .returned (.tuple #[.agg Y, .int .i64 (rk E 256 : Nat)]) ∧ IsA Y (nm E) ∧ Below w.heap.size w w' := by
  obtain ⟨a, cap, rfl, h1, h2, hs⟩ := h.shape
  obtain ⟨n, hn⟩ : ∃ n, n = rk E 256 := ⟨_, rfl⟩
  have hn256 : n ≤ 256 := by rw [hn]; exact rk_le 256
  rw [clsL_length, ← hn]
  rw [← hn] at hs
  obtain ⟨Z, hZ, hz⟩ := zeroA
  have HZ := Lib.hid hZ; have HS := Lib.hid hs; have HE := Lib.hid hE
  have HN := Lib.hid (show n = rk E 256 ∧ n ≤ 256 from ⟨hn, hn256⟩)
  have hbz := build_arr hz
  clear h h1 h2 hs hZ hn hn256 hE
  go_enter Try.func70, Try.ntmps70
  have h0 : Ar ((w.alloc (.cells Z 22)).alloc (.cells Z 22)) (w.heap.size + 1) Z 22 := by
    have := Ar.new (w.alloc (.cells Z 22)) Z 22
    rw [World.size_alloc] at this; exact this
  have hr0 := (Ar.new w Z 22).alloc (.cells Z 22)
  have hb0 : Below w.heap.size w ((w.alloc (.cells Z 22)).alloc (.cells Z 22)) := ((Below.refl _ w).alloc (Nat.le_refl _) _).alloc (by simp) _
  have H0 := Lib.hid h0; have HR0 := Lib.hid hr0; have HB0 := Lib.hid hb0
  clear h0 hr0 hb0
  go_wp2_with (refine wpList_store_arr rfl 22 (.tmp 4) (.tmp 7) rfl rfl rfl H0.out HZ.out.size HZ.out infoA ?_)
  obtain ⟨R, hR⟩ : ∃ R, R = w.heap.size := ⟨_, rfl⟩
  obtain ⟨A, hA⟩ : ∃ A, A = w.heap.size + 1 := ⟨_, rfl⟩
  have HAR := Lib.hid (show A ≠ R ∧ w.heap.size ≤ R ∧ w.heap.size ≤ A by omega)
  have ha1 := H0.out.row Z
  have hr1 : Ar (((w.alloc (.cells Z 22)).alloc (.cells Z 22)).setRow (w.heap.size + 1) Z) w.heap.size Z 22 := (heap_row _ _ _ (by omega)).trans HR0.out
  have hb1 := below_row HB0.out (show w.heap.size ≤ w.heap.size + 1 by omega) Z
  clear H0 HR0 HB0
  rw [← hA] at ha1 hr1 hb1 ⊢
  rw [← hR] at hr1 ⊢
  generalize (((w.alloc (.cells Z 22)).alloc (.cells Z 22)).setRow A Z) = w0 at *
  have HA1 := Lib.hid ha1; have HR1 := Lib.hid hr1; have HB1 := Lib.hid hb1
  clear hR hA ha1 hr1 hb1 hbz hz
  go_loopw [5] (fun i wr => ∃ k : Nat, k ≤ n ∧ i = .int .i64 k ∧ ∃ Y, Ar wr R Z 22 ∧ Ar wr A Y 22 ∧ Hid (IsA Y (numTo E k 0)) ∧ Below w.heap.size w wr) (fun i _ => n - (intOf i).toNat)
  case atStart => exact ⟨0, by omega, rfl, Z, HR1.out, HA1.out, Lib.hid (by rw [numTo_zero]; exact HZ.out), HB1.out⟩
  case round =>
    obtain ⟨k, hk, rfl, Y, hR, hA, HY, hb⟩ := hrel
    clear HA1 HR1 HB1
    by_cases hlt : k < n
    · have t0 : decide ((k : Int) < (n : Int)) = true := by simp; omega
      have t2 : (0 : Int) ≤ (k : Int) := by omega
      have t3 : (k : Int) < (n : Int) := by omega
      have hwr : IntKind.u8.wrap (k : Int) = (k : Int) := wrap_u8 (by have := HN.out; omega)
      have hwk := wrap_succ (k := k) (by have := HN.out; omega)
      have HLT := Lib.hid hlt; have HR := Lib.hid hR; have HA := Lib.hid hA; have HB := Lib.hid hb
      obtain ⟨B, o, rfl, hso⟩ : ∃ B o, a = some ⟨B, o, none⟩ ∧ SetsO w B o (clsL E 256 n) := by
        rcases HS.out with h | ⟨B, o, e, h⟩
        · have := congrArg List.length h; rw [clsL_length] at this; simp at this; omega
        · exact ⟨B, o, e, h⟩
      have HSO := Lib.hid hso
      clear hlt hk hR hA hb hso
      go_wp2_with fail
      go_loopw [6] (fun i wr => ∃ c : Nat, c ≤ 256 ∧ i = .int .i64 c ∧ ∃ Y, Ar wr R Z 22 ∧ Ar wr A Y 22 ∧ Hid (IsA Y (numTo E k c)) ∧ Below w.heap.size w wr) (fun i _ => 256 - (intOf i).toNat)
      case atStart => exact ⟨0, by omega, rfl, Y, HR.out, HA.out, HY, HB.out⟩
      case round =>
        obtain ⟨c, hc, rfl, Y, hR, hA, HY, hb⟩ := hrel
        clear HR HA HB
        by_cases hlt : c < 256
        · have u0 : decide ((c : Int) < 256) = true := by simp; omega
          have u1 : ¬ (256 : Int) ≤ (c : Int) := by omega
          have hwc := wrap_succ (k := c) (by omega)
          obtain ⟨hkl, hkc⟩ := clsL_mem (E := E) (c := 256) HLT.out
          have h4 : At4 wr B (o + k * 4) (cls E 256 k) := by
            have hh := (HSO.out.below (show Below w.heap.size w wr from hb)).at hkl
            rw [hkc] at hh; exact hh
          obtain ⟨c0, c1, c2, c3⟩ := h4
          have HH := Lib.hid (fun W => refHas_any (cls E 256 k) c hlt W)
          have HC := Lib.hid (show cls E 256 k c = (nm E c == k) by simp [cls, hlt])
          have HLC := Lib.hid hlt; have HR := Lib.hid hR; have HA := Lib.hid hA; have HB := Lib.hid hb
          clear hlt hc hR hA hb hkl hkc
          go_wp2_with fail
          refine (HH.out _).mono ?_
          rintro e w1 ⟨rfl, hb1⟩
          have HR1 := Lib.hid (HR.out.below hb1)
          have hA1 := HA.out.below hb1
          have HA1 := Lib.hid hA1
          have HB1 := Lib.hid (HB.out.trans (hb1.mono HB.out.size))
          rw [HC.out]
          clear hb1 c0 c1 c2 c3
          by_cases hq : nm E c = k
          · have t4 : (nm E c == k) = true := by simpa using hq
            have HNY := Lib.hid (numTo_yes HY.out hq)
            have hfz := hA1.frozen c
            obtain ⟨u, hck⟩ : ∃ u, w1.cell? ⟨A, c, none⟩ = some u := ⟨_, hA1.cell HY.out HLC.out⟩
            rw [t4]
            clear hq t4 hA1
            go_wp2_with fail
            try rw [hwc]
            exact ⟨⟨c + 1, HLC.out, rfl, _, HR1.out.other (fun e => HAR.out.1 e) _, HA1.out.set c _, HNY, HB1.out.setCell (p := ⟨A, c, none⟩) HAR.out.2.2 _⟩, by have := HLC.out; simp [intOf]; omega⟩
          · have t4 : (nm E c == k) = false := by simpa using hq
            have HNY := Lib.hid (numTo_no HY.out hq)
            rw [t4]
            clear hq t4 hA1
            go_wp2_with fail
            try rw [hwc]
            exact ⟨⟨c + 1, HLC.out, rfl, _, HR1.out, HA1.out, HNY, HB1.out⟩, by have := HLC.out; simp [intOf]; omega⟩
        · obtain rfl : c = 256 := by omega
          have HNY := Lib.hid (numTo_next HY.out)
          have HR := Lib.hid hR; have HA := Lib.hid hA; have HB := Lib.hid hb
          clear hlt hc hR hA hb
          go_wp2_with fail
          try rw [hwk]
          exact ⟨⟨k + 1, HLT.out, rfl, Y, HR.out, HA.out, HNY, HB.out⟩, by have := HLT.out; simp [intOf]; omega⟩
    · have hkn : k = n := by omega
      subst hkn
      have HNY := Lib.hid (numTo_all HE.out (by rw [← HN.out.1]; exact HY.out))
      have HR := Lib.hid hR; have HA := Lib.hid hA; have HB := Lib.hid hb
      clear hlt hk hR hA hb
      go_wp2_with (first | (refine wpList_load_arr rfl 22 (.tmp 4) rfl rfl HA.out HY.out.size Try.underlying22 infoA ?_) | (refine wpList_store_arr rfl 22 (.tmp 2) (.tmp 28) rfl rfl rfl HR.out HZ.out.size HNY.out infoA ?_))
      have hld := (HR.out.row Y).loadVar (P := Try.prog) HY.out.size Try.underlying22 infoA
      refine bodyPost_ret (v := .tuple #[.agg Y, .int .i64 k]) ?_ rfl ⟨Y, rfl, HNY.out, below_row HB.out HAR.out.2.1 Y⟩
      rw [results_cell_tmp rfl]
      simp [asAddr, Result.andThen, hld]
end Go.Proofs.Ytkghnjgioijgpaa.PartW
