/- Walk of DfaRuns. -/
import Derived.Test.YtkghnjgioijgpaaAsks
namespace Go.Proofs.Ytkghnjgioijgpaa.DfaW
set_option linter.unusedVariables false
set_option linter.unusedSimpArgs false
open Go.Proofs.Ytkghnjgioijgpaa.RegionU (Up wpU_taken wpU_one wpU_mono wpU_done wp_region_U does)
open Go.RowKit Go.Maps Go.Proofs.Ytkghnjgioijgpaa.PartM Go.Proofs.Ytkghnjgioijgpaa.PartW Go.Proofs.Ytkghnjgioijgpaa.DfaM
set_option maxRecDepth 100000 in
set_option maxHeartbeats 4000000 in
theorem DfaRuns_any {C : Array Value} {m : Mc} {v : Value} {l : List Nat} (w : World) (h : IsM w.heap.size w C m) (hv : BS w.heap.size w v l) (s : Int) (c : Nat) (hc : c < 256) :
    Calls Try.prog 4 #[.agg C, v, .int .i64 s, .int .u8 c] w fun e w' => e = .returned (.bool true) ∧ Below w.heap.size w w' := by
  have hx := Bx.new h
  have hb0 : Below w.heap.size w (w.alloc (.cells C 27)) := (Below.refl _ _).alloc (Nat.le_refl _) _
  have hv' := hv.next hb0
  obtain ⟨a, cap, rfl, _, _, _⟩ := hv.open
  obtain ⟨L, hL⟩ : ∃ L, L = l.length := ⟨_, rfl⟩
  have HL2 := Lib.hid hv.2
  rw [← hL] at hv' ⊢
  have HX := Lib.hid hx; have HB0 := Lib.hid hb0; have HV := Lib.hid hv'
  clear h hx hb0 hv hv' hL
  go_enter Try.func4, Try.ntmps4
  go_wp2_with (refine wpList_load_dfa rfl (.tmp 4) rfl rfl HX.out ?_)
  refine (refRightD_any _ HX.out.is).mono ?_
  rintro e w1 ⟨hs, hb⟩
  have HX1 := Lib.hid (HX.out.below hb); have HB1 := Lib.hid (HB0.out.trans (hb.mono HB0.out.size)); have HV1 := Lib.hid (HV.out.next hb)
  clear hb HB0 HX HV
  rcases hs.elim with ⟨rfl, hk⟩ | ⟨rfl, hk⟩
  · have HK := Lib.hid hk
    clear hs hk
    obtain ⟨b, hb⟩ : ∃ b, b = w.heap.size := ⟨_, rfl⟩
    rw [← hb] at HX1 ⊢
    have HD := Lib.hid (KD.of HX1.out (Below.refl _ _).drew)
    obtain ⟨r, hr⟩ : ∃ r, r = run m l := ⟨_, rfl⟩
    obtain ⟨x, hxx⟩ : ∃ x, x = toV m s c := ⟨_, rfl⟩
    obtain ⟨t, ht⟩ : ∃ t, t = lab m r := ⟨_, rfl⟩
    obtain ⟨y, hy⟩ : ∃ y, y = nameOf m t := ⟨_, rfl⟩
    have htl : t ≤ m.nm.length := by rw [ht, hr]; exact (HK.out.lab (run_ok HK.out HL2.out)).2
    have e2 : tellV m l = (t : Int) := by rw [tellV_yes HK.out, ht, hr]
    have H1 := Lib.hid (fun W (h : IsM W.heap.size W C m) (hB : Below w1.heap.size w1 W) => by have := Run_any W h (HV1.out.next hB); rw [runV_yes HK.out, ← hr] at this; exact this)
    have H2 := Lib.hid (fun W (h : IsM W.heap.size W C m) (hB : Below w1.heap.size w1 W) => by have := refRun_any W h HK.out (HV1.out.next hB); rw [← hr] at this; exact this)
    have H3 := Lib.hid (fun W (h : IsM W.heap.size W C m) => by have := To_any W h s c hc; rw [← hxx] at this; exact this)
    have H4 := Lib.hid (fun W (h : IsM W.heap.size W C m) => by have := refTo_any W h HK.out s c hc; rw [← hxx] at this; exact this)
    have H5 := Lib.hid (fun W (h : IsM W.heap.size W C m) (hB : Below w1.heap.size w1 W) => by have := Tell_any W h (HV1.out.next hB); rw [e2] at this; exact this)
    have H6 := Lib.hid (fun W (h : IsM W.heap.size W C m) (hB : Below w1.heap.size w1 W) => by have := refTell_any W h HK.out (HV1.out.next hB); rw [e2] at this; exact this)
    have H7 := Lib.hid (fun W (h : IsM W.heap.size W C m) (hB : Below w1.heap.size w1 W) => by have := Name_any' W h (HV1.out.next hB); rw [nameV_yes HK.out, ← hr, ← ht, ← hy] at this; exact this)
    have H8 := Lib.hid (fun W (h : IsM W.heap.size W C m) => by have := refNameOf_any W h HK.out t htl; rw [← hy] at this; exact this)
    clear hr hxx ht hy htl e2 hb
    go_wp2_with fail
    refine wp_region_U (by kernel_rfl) (KD.up w1 b C m) HD.out ?_
    refine wpU_taken (i := 0) rfl (by kernel_rfl) (by kernel_rfl) (by kernel_rfl) (KD.up w1 b C m) ?_
    apply Exists.intro
    refine ⟨Or.inl ⟨rfl, fun W hW => ?hy⟩, ?_⟩
    case hy =>
      obtain ⟨hX, hB⟩ := hW
      exact does_eq (run_load_dfa (.tmp 4) rfl rfl hX)
    simp only [Act.put, List.setIfInBounds_toArray, List.set]
    refine wpU_taken (i := 1) rfl (by kernel_rfl) (by kernel_rfl) (by kernel_rfl) (KD.up w1 b C m) ?_
    apply Exists.intro
    refine ⟨Or.inl ⟨rfl, fun W hW => ?hy⟩, ?_⟩
    case hy =>
      obtain ⟨hX, hB⟩ := hW
      go_simp
      exact RegionU.does_value rfl
    simp only [Act.put, List.setIfInBounds_toArray, List.set]
    refine wpU_taken (i := 2) rfl (by kernel_rfl) (by kernel_rfl) (by kernel_rfl) (KD.up w1 b C m) ?_
    apply Exists.intro
    refine ⟨Or.inl ⟨rfl, fun W hW => ?hy⟩, ?_⟩
    case hy =>
      obtain ⟨hX, hB⟩ := hW
      go_simp
      exact RegionU.does_call (H1.out W hX.is hB)
    simp only [Act.put, List.setIfInBounds_toArray, List.set]
    refine wpU_taken (i := 3) rfl (by kernel_rfl) (by kernel_rfl) (by kernel_rfl) (KD.up w1 b C m) ?_
    apply Exists.intro
    refine ⟨Or.inl ⟨rfl, fun W hW => ?hy⟩, ?_⟩
    case hy =>
      obtain ⟨hX, hB⟩ := hW
      exact does_eq (run_load_dfa (.tmp 4) rfl rfl hX)
    simp only [Act.put, List.setIfInBounds_toArray, List.set]
    refine wpU_taken (i := 4) rfl (by kernel_rfl) (by kernel_rfl) (by kernel_rfl) (KD.up w1 b C m) ?_
    apply Exists.intro
    refine ⟨Or.inl ⟨rfl, fun W hW => ?hy⟩, ?_⟩
    case hy =>
      obtain ⟨hX, hB⟩ := hW
      go_simp
      exact RegionU.does_value rfl
    simp only [Act.put, List.setIfInBounds_toArray, List.set]
    refine wpU_taken (i := 5) rfl (by kernel_rfl) (by kernel_rfl) (by kernel_rfl) (KD.up w1 b C m) ?_
    apply Exists.intro
    refine ⟨Or.inl ⟨rfl, fun W hW => ?hy⟩, ?_⟩
    case hy =>
      obtain ⟨hX, hB⟩ := hW
      go_simp
      exact RegionU.does_call (H2.out W hX.is hB)
    simp only [Act.put, List.setIfInBounds_toArray, List.set]
    refine wpU_taken (i := 6) rfl (by kernel_rfl) (by kernel_rfl) (by kernel_rfl) (KD.up w1 b C m) ?_
    apply Exists.intro
    refine ⟨Or.inl ⟨rfl, fun W hW => ?hy⟩, ?_⟩
    case hy =>
      obtain ⟨hX, hB⟩ := hW
      go_simp
      try simp only [beq_self_eq_true, bne_self_eq_false, Bool.not_true, Bool.not_false, decide_true]
      exact RegionU.does_value rfl
    simp only [Act.put, List.setIfInBounds_toArray, List.set]
    refine wpU_taken (i := 7) rfl (by kernel_rfl) (by kernel_rfl) (by kernel_rfl) (KD.up w1 b C m) ?_
    apply Exists.intro
    refine ⟨Or.inl ⟨rfl, fun W hW => ?hy⟩, ?_⟩
    case hy =>
      obtain ⟨hX, hB⟩ := hW
      go_simp
      exact RegionU.does_value rfl
    simp only [Act.put, List.setIfInBounds_toArray, List.set]
    refine wpU_taken (i := 8) rfl (by kernel_rfl) (by kernel_rfl) (by kernel_rfl) (KD.up w1 b C m) ?_
    apply Exists.intro
    refine ⟨Or.inl ⟨rfl, fun W hW => ?hy⟩, ?_⟩
    case hy =>
      obtain ⟨hX, hB⟩ := hW
      exact does_eq (run_load_dfa (.tmp 4) rfl rfl hX)
    simp only [Act.put, List.setIfInBounds_toArray, List.set]
    refine wpU_taken (i := 9) rfl (by kernel_rfl) (by kernel_rfl) (by kernel_rfl) (KD.up w1 b C m) ?_
    apply Exists.intro
    refine ⟨Or.inl ⟨rfl, fun W hW => ?hy⟩, ?_⟩
    case hy =>
      obtain ⟨hX, hB⟩ := hW
      go_simp
      exact RegionU.does_value rfl
    simp only [Act.put, List.setIfInBounds_toArray, List.set]
    refine wpU_taken (i := 10) rfl (by kernel_rfl) (by kernel_rfl) (by kernel_rfl) (KD.up w1 b C m) ?_
    apply Exists.intro
    refine ⟨Or.inl ⟨rfl, fun W hW => ?hy⟩, ?_⟩
    case hy =>
      obtain ⟨hX, hB⟩ := hW
      go_simp
      exact RegionU.does_value rfl
    simp only [Act.put, List.setIfInBounds_toArray, List.set]
    refine wpU_taken (i := 11) rfl (by kernel_rfl) (by kernel_rfl) (by kernel_rfl) (KD.up w1 b C m) ?_
    apply Exists.intro
    refine ⟨Or.inl ⟨rfl, fun W hW => ?hy⟩, ?_⟩
    case hy =>
      obtain ⟨hX, hB⟩ := hW
      go_simp
      exact RegionU.does_call (H3.out W hX.is)
    simp only [Act.put, List.setIfInBounds_toArray, List.set]
    refine wpU_taken (i := 12) rfl (by kernel_rfl) (by kernel_rfl) (by kernel_rfl) (KD.up w1 b C m) ?_
    apply Exists.intro
    refine ⟨Or.inl ⟨rfl, fun W hW => ?hy⟩, ?_⟩
    case hy =>
      obtain ⟨hX, hB⟩ := hW
      exact does_eq (run_load_dfa (.tmp 4) rfl rfl hX)
    simp only [Act.put, List.setIfInBounds_toArray, List.set]
    refine wpU_taken (i := 13) rfl (by kernel_rfl) (by kernel_rfl) (by kernel_rfl) (KD.up w1 b C m) ?_
    apply Exists.intro
    refine ⟨Or.inl ⟨rfl, fun W hW => ?hy⟩, ?_⟩
    case hy =>
      obtain ⟨hX, hB⟩ := hW
      go_simp
      exact RegionU.does_value rfl
    simp only [Act.put, List.setIfInBounds_toArray, List.set]
    refine wpU_taken (i := 14) rfl (by kernel_rfl) (by kernel_rfl) (by kernel_rfl) (KD.up w1 b C m) ?_
    apply Exists.intro
    refine ⟨Or.inl ⟨rfl, fun W hW => ?hy⟩, ?_⟩
    case hy =>
      obtain ⟨hX, hB⟩ := hW
      go_simp
      exact RegionU.does_value rfl
    simp only [Act.put, List.setIfInBounds_toArray, List.set]
    refine wpU_taken (i := 15) rfl (by kernel_rfl) (by kernel_rfl) (by kernel_rfl) (KD.up w1 b C m) ?_
    apply Exists.intro
    refine ⟨Or.inl ⟨rfl, fun W hW => ?hy⟩, ?_⟩
    case hy =>
      obtain ⟨hX, hB⟩ := hW
      go_simp
      exact RegionU.does_call (H4.out W hX.is)
    simp only [Act.put, List.setIfInBounds_toArray, List.set]
    refine wpU_taken (i := 16) rfl (by kernel_rfl) (by kernel_rfl) (by kernel_rfl) (KD.up w1 b C m) ?_
    apply Exists.intro
    refine ⟨Or.inl ⟨rfl, fun W hW => ?hy⟩, ?_⟩
    case hy =>
      obtain ⟨hX, hB⟩ := hW
      go_simp
      try simp only [beq_self_eq_true, bne_self_eq_false, Bool.not_true, Bool.not_false, decide_true]
      exact RegionU.does_value rfl
    simp only [Act.put, List.setIfInBounds_toArray, List.set]
    refine wpU_taken (i := 17) rfl (by kernel_rfl) (by kernel_rfl) (by kernel_rfl) (KD.up w1 b C m) ?_
    apply Exists.intro
    refine ⟨Or.inl ⟨rfl, fun W hW => ?hy⟩, ?_⟩
    case hy =>
      obtain ⟨hX, hB⟩ := hW
      go_simp
      exact RegionU.does_value rfl
    simp only [Act.put, List.setIfInBounds_toArray, List.set]
    refine wpU_taken (i := 18) rfl (by kernel_rfl) (by kernel_rfl) (by kernel_rfl) (KD.up w1 b C m) ?_
    apply Exists.intro
    refine ⟨Or.inl ⟨rfl, fun W hW => ?hy⟩, ?_⟩
    case hy =>
      obtain ⟨hX, hB⟩ := hW
      go_simp
      exact RegionU.does_value rfl
    simp only [Act.put, List.setIfInBounds_toArray, List.set]
    refine wpU_taken (i := 19) rfl (by kernel_rfl) (by kernel_rfl) (by kernel_rfl) (KD.up w1 b C m) ?_
    apply Exists.intro
    refine ⟨Or.inl ⟨rfl, fun W hW => ?hy⟩, ?_⟩
    case hy =>
      obtain ⟨hX, hB⟩ := hW
      exact does_eq (run_load_dfa (.tmp 4) rfl rfl hX)
    simp only [Act.put, List.setIfInBounds_toArray, List.set]
    refine wpU_taken (i := 20) rfl (by kernel_rfl) (by kernel_rfl) (by kernel_rfl) (KD.up w1 b C m) ?_
    apply Exists.intro
    refine ⟨Or.inl ⟨rfl, fun W hW => ?hy⟩, ?_⟩
    case hy =>
      obtain ⟨hX, hB⟩ := hW
      go_simp
      exact RegionU.does_value rfl
    simp only [Act.put, List.setIfInBounds_toArray, List.set]
    refine wpU_taken (i := 21) rfl (by kernel_rfl) (by kernel_rfl) (by kernel_rfl) (KD.up w1 b C m) ?_
    apply Exists.intro
    refine ⟨Or.inl ⟨rfl, fun W hW => ?hy⟩, ?_⟩
    case hy =>
      obtain ⟨hX, hB⟩ := hW
      go_simp
      exact RegionU.does_call (H5.out W hX.is hB)
    simp only [Act.put, List.setIfInBounds_toArray, List.set]
    refine wpU_taken (i := 22) rfl (by kernel_rfl) (by kernel_rfl) (by kernel_rfl) (KD.up w1 b C m) ?_
    apply Exists.intro
    refine ⟨Or.inl ⟨rfl, fun W hW => ?hy⟩, ?_⟩
    case hy =>
      obtain ⟨hX, hB⟩ := hW
      exact does_eq (run_load_dfa (.tmp 4) rfl rfl hX)
    simp only [Act.put, List.setIfInBounds_toArray, List.set]
    refine wpU_taken (i := 23) rfl (by kernel_rfl) (by kernel_rfl) (by kernel_rfl) (KD.up w1 b C m) ?_
    apply Exists.intro
    refine ⟨Or.inl ⟨rfl, fun W hW => ?hy⟩, ?_⟩
    case hy =>
      obtain ⟨hX, hB⟩ := hW
      go_simp
      exact RegionU.does_value rfl
    simp only [Act.put, List.setIfInBounds_toArray, List.set]
    refine wpU_taken (i := 24) rfl (by kernel_rfl) (by kernel_rfl) (by kernel_rfl) (KD.up w1 b C m) ?_
    apply Exists.intro
    refine ⟨Or.inl ⟨rfl, fun W hW => ?hy⟩, ?_⟩
    case hy =>
      obtain ⟨hX, hB⟩ := hW
      go_simp
      exact RegionU.does_call (H6.out W hX.is hB)
    simp only [Act.put, List.setIfInBounds_toArray, List.set]
    refine wpU_taken (i := 25) rfl (by kernel_rfl) (by kernel_rfl) (by kernel_rfl) (KD.up w1 b C m) ?_
    apply Exists.intro
    refine ⟨Or.inl ⟨rfl, fun W hW => ?hy⟩, ?_⟩
    case hy =>
      obtain ⟨hX, hB⟩ := hW
      go_simp
      try simp only [beq_self_eq_true, bne_self_eq_false, Bool.not_true, Bool.not_false, decide_true]
      exact RegionU.does_value rfl
    simp only [Act.put, List.setIfInBounds_toArray, List.set]
    refine wpU_taken (i := 26) rfl (by kernel_rfl) (by kernel_rfl) (by kernel_rfl) (KD.up w1 b C m) ?_
    apply Exists.intro
    refine ⟨Or.inl ⟨rfl, fun W hW => ?hy⟩, ?_⟩
    case hy =>
      obtain ⟨hX, hB⟩ := hW
      go_simp
      exact RegionU.does_value rfl
    simp only [Act.put, List.setIfInBounds_toArray, List.set]
    refine wpU_taken (i := 27) rfl (by kernel_rfl) (by kernel_rfl) (by kernel_rfl) (KD.up w1 b C m) ?_
    apply Exists.intro
    refine ⟨Or.inl ⟨rfl, fun W hW => ?hy⟩, ?_⟩
    case hy =>
      obtain ⟨hX, hB⟩ := hW
      go_simp
      exact RegionU.does_value rfl
    simp only [Act.put, List.setIfInBounds_toArray, List.set]
    refine wpU_taken (i := 28) rfl (by kernel_rfl) (by kernel_rfl) (by kernel_rfl) (KD.up w1 b C m) ?_
    apply Exists.intro
    refine ⟨Or.inl ⟨rfl, fun W hW => ?hy⟩, ?_⟩
    case hy =>
      obtain ⟨hX, hB⟩ := hW
      exact does_eq (run_load_dfa (.tmp 4) rfl rfl hX)
    simp only [Act.put, List.setIfInBounds_toArray, List.set]
    refine wpU_taken (i := 29) rfl (by kernel_rfl) (by kernel_rfl) (by kernel_rfl) (KD.up w1 b C m) ?_
    apply Exists.intro
    refine ⟨Or.inl ⟨rfl, fun W hW => ?hy⟩, ?_⟩
    case hy =>
      obtain ⟨hX, hB⟩ := hW
      go_simp
      exact RegionU.does_value rfl
    simp only [Act.put, List.setIfInBounds_toArray, List.set]
    refine wpU_taken (i := 30) rfl (by kernel_rfl) (by kernel_rfl) (by kernel_rfl) (KD.up w1 b C m) ?_
    apply Exists.intro
    refine ⟨Or.inl ⟨rfl, fun W hW => ?hy⟩, ?_⟩
    case hy =>
      obtain ⟨hX, hB⟩ := hW
      go_simp
      exact RegionU.does_call (H7.out W hX.is hB)
    simp only [Act.put, List.setIfInBounds_toArray, List.set]
    refine wpU_taken (i := 31) rfl (by kernel_rfl) (by kernel_rfl) (by kernel_rfl) (KD.up w1 b C m) ?_
    apply Exists.intro
    refine ⟨Or.inl ⟨rfl, fun W hW => ?hy⟩, ?_⟩
    case hy =>
      obtain ⟨hX, hB⟩ := hW
      exact does_eq (run_load_dfa (.tmp 4) rfl rfl hX)
    simp only [Act.put, List.setIfInBounds_toArray, List.set]
    refine wpU_taken (i := 32) rfl (by kernel_rfl) (by kernel_rfl) (by kernel_rfl) (KD.up w1 b C m) ?_
    apply Exists.intro
    refine ⟨Or.inl ⟨rfl, fun W hW => ?hy⟩, ?_⟩
    case hy =>
      obtain ⟨hX, hB⟩ := hW
      exact does_eq (run_load_dfa (.tmp 4) rfl rfl hX)
    simp only [Act.put, List.setIfInBounds_toArray, List.set]
    refine wpU_taken (i := 33) rfl (by kernel_rfl) (by kernel_rfl) (by kernel_rfl) (KD.up w1 b C m) ?_
    apply Exists.intro
    refine ⟨Or.inl ⟨rfl, fun W hW => ?hy⟩, ?_⟩
    case hy =>
      obtain ⟨hX, hB⟩ := hW
      go_simp
      exact RegionU.does_value rfl
    simp only [Act.put, List.setIfInBounds_toArray, List.set]
    refine wpU_taken (i := 34) rfl (by kernel_rfl) (by kernel_rfl) (by kernel_rfl) (KD.up w1 b C m) ?_
    apply Exists.intro
    refine ⟨Or.inl ⟨rfl, fun W hW => ?hy⟩, ?_⟩
    case hy =>
      obtain ⟨hX, hB⟩ := hW
      go_simp
      exact RegionU.does_call (H6.out W hX.is hB)
    simp only [Act.put, List.setIfInBounds_toArray, List.set]
    refine wpU_taken (i := 35) rfl (by kernel_rfl) (by kernel_rfl) (by kernel_rfl) (KD.up w1 b C m) ?_
    apply Exists.intro
    refine ⟨Or.inl ⟨rfl, fun W hW => ?hy⟩, ?_⟩
    case hy =>
      obtain ⟨hX, hB⟩ := hW
      go_simp
      exact RegionU.does_call (H8.out W hX.is)
    simp only [Act.put, List.setIfInBounds_toArray, List.set]
    refine wpU_taken (i := 36) rfl (by kernel_rfl) (by kernel_rfl) (by kernel_rfl) (KD.up w1 b C m) ?_
    apply Exists.intro
    refine ⟨Or.inl ⟨rfl, fun W hW => ?hy⟩, ?_⟩
    case hy =>
      obtain ⟨hX, hB⟩ := hW
      go_simp
      try simp only [beq_self_eq_true, bne_self_eq_false, Bool.not_true, Bool.not_false, decide_true]
      exact RegionU.does_value rfl
    simp only [Act.put, List.setIfInBounds_toArray, List.set]
    refine wpU_taken (i := 37) rfl (by kernel_rfl) (by kernel_rfl) (by kernel_rfl) (KD.up w1 b C m) ?_
    apply Exists.intro
    refine ⟨Or.inl ⟨rfl, fun W hW => ?hy⟩, ?_⟩
    case hy =>
      obtain ⟨hX, hB⟩ := hW
      go_simp
      exact RegionU.does_value rfl
    simp only [Act.put, List.setIfInBounds_toArray, List.set]
    refine wpU_taken (i := 38) rfl (by kernel_rfl) (by kernel_rfl) (by kernel_rfl) (KD.up w1 b C m) ?_
    apply Exists.intro
    refine ⟨Or.inl ⟨rfl, fun W hW => ?hy⟩, ?_⟩
    case hy =>
      obtain ⟨hX, hB⟩ := hW
      go_simp
      exact RegionU.does_value rfl
    simp only [Act.put, List.setIfInBounds_toArray, List.set]
    refine wpU_taken (i := 39) rfl (by kernel_rfl) (by kernel_rfl) (by kernel_rfl) (KD.up w1 b C m) ?_
    apply Exists.intro
    refine ⟨Or.inl ⟨rfl, fun W hW => ?hy⟩, ?_⟩
    case hy =>
      obtain ⟨hX, hB⟩ := hW
      go_simp
      exact RegionU.does_call (knows_any W)
    simp only [Act.put, List.setIfInBounds_toArray, List.set]
    refine wpU_taken (i := 40) rfl (by kernel_rfl) (by kernel_rfl) (by kernel_rfl) (KD.up w1 b C m) ?_
    apply Exists.intro
    refine ⟨Or.inl ⟨rfl, fun W hW => ?hy⟩, ?_⟩
    case hy =>
      obtain ⟨hX, hB⟩ := hW
      go_simp
      exact RegionU.does_value rfl
    simp only [Act.put, List.setIfInBounds_toArray, List.set]
    refine wpU_taken (i := 41) rfl (by kernel_rfl) (by kernel_rfl) (by kernel_rfl) (KD.up w1 b C m) ?_
    apply Exists.intro
    refine ⟨Or.inl ⟨rfl, fun W hW => ?hy⟩, ?_⟩
    case hy =>
      obtain ⟨hX, hB⟩ := hW
      go_simp
      exact RegionU.does_value rfl
    simp only [Act.put, List.setIfInBounds_toArray, List.set]
    refine wpU_done (by kernel_rfl) ?_
    rintro W ⟨-, hB⟩
    go_wp2_with fail
    go_ret
    exact ⟨rfl, HB1.out.trans (hB.mono HB1.out.size)⟩
  · have e1 := runV_no (bs := l) hk
    have e2 := toV_no (s := s) (c := c) hk
    have e3 := tellV_no (bs := l) hk
    have e4 := nameV_no (bs := l) hk
    have E1 := Lib.hid e1; have E2 := Lib.hid e2; have E3 := Lib.hid e3; have E4 := Lib.hid e4
    clear hs hk e1 e2 e3 e4
    go_wp2_with (refine wpList_load_dfa rfl (.tmp 4) rfl rfl HX1.out ?_)
    refine (Run_any _ HX1.out.is HV1.out).mono ?_
    rintro e w2 ⟨rfl, hb⟩
    rw [E1.out]
    have HX2 := Lib.hid (HX1.out.below hb); have HB2 := Lib.hid (HB1.out.trans (hb.mono HB1.out.size)); have HV2 := Lib.hid (HV1.out.next hb)
    clear hb HX1 HB1 HV1
    go_wp2_with (refine wpList_load_dfa_g rfl (.tmp 4) rfl rfl HX2.out ?_)
    refine (To_any _ HX2.out.is s c hc).mono ?_
    rintro e w3 ⟨rfl, hb⟩
    rw [E2.out]
    have HX3 := Lib.hid (HX2.out.below hb); have HB3 := Lib.hid (HB2.out.trans (hb.mono HB2.out.size)); have HV3 := Lib.hid (HV2.out.next hb)
    clear hb HX2 HB2 HV2
    go_wp2_with (refine wpList_load_dfa_g rfl (.tmp 4) rfl rfl HX3.out ?_)
    refine (Tell_any _ HX3.out.is HV3.out).mono ?_
    rintro e w4 ⟨rfl, hb⟩
    rw [E3.out]
    have HX4 := Lib.hid (HX3.out.below hb); have HB4 := Lib.hid (HB3.out.trans (hb.mono HB3.out.size)); have HV4 := Lib.hid (HV3.out.next hb)
    clear hb HX3 HB3 HV3
    go_wp2_with (refine wpList_load_dfa_g rfl (.tmp 4) rfl rfl HX4.out ?_)
    refine (Name_any' _ HX4.out.is HV4.out).mono ?_
    rintro e w5 ⟨rfl, hb⟩
    rw [E4.out]
    have HB5 := Lib.hid (HB4.out.trans (hb.mono HB4.out.size))
    clear hb HX4 HB4 HV4
    have he : ByteArray.empty.toList = [] := by decide +kernel
    have he2 : (ByteArray.empty.toList == []) = true := by rw [he]; rfl
    go_wp2_with fail
    refine (knows_any _).mono ?_
    rintro e w6 ⟨rfl, hb⟩
    have HB6 := Lib.hid (HB5.out.trans (hb.mono HB5.out.size))
    clear hb HB5
    go_wp2_with fail
    go_ret
    exact ⟨rfl, HB6.out⟩
end Go.Proofs.Ytkghnjgioijgpaa.DfaW
