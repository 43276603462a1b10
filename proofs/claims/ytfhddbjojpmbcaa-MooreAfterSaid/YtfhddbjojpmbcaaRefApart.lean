/- Walk of the document's apart. -/
import Derived.Test.YtfhddbjojpmbcaaMooAp
namespace Go.Proofs.Ytfhddbjojpmbcaa.DfaW
set_option linter.unusedVariables false
set_option linter.unusedSimpArgs false
open Go.Proofs.Ytfhddbjojpmbcaa.RegionU (Up wpW_taken wpW_takenY wpW_one wpW_two wpW_done1 wpW_done2 wpW_done3 wpW_have wp_region_W)
open Go.RowKit Go.Maps Go.Proofs.Ytfhddbjojpmbcaa.PartM Go.Proofs.Ytfhddbjojpmbcaa.PartW
/-- A slice of one thing. -/
def A1 (n : Nat) (t : TypeId) (x : Value) (u : Value) (W : World) : Prop := ∃ b, u = .slice (some ⟨b, 0, none⟩) 1 1 ∧ Ar W b #[x] t ∧ n ≤ b
theorem A1.up (n : Nat) (t : TypeId) (x : Value) (u : Value) : Up (A1 n t x u) := fun W W' ⟨b, h1, h2, h3⟩ hr => ⟨b, h1, h2.below hr, h3⟩
theorem al_o (w : World) (o : Obj) : Below w.heap.size w (w.alloc o) := (Below.refl _ _).alloc (Nat.le_refl _) _
theorem OB.form {w : World} {base n : Nat} {v : Value} {l : List Bool} (h : OB w base v l) (hn : l.length = n) (h0 : 0 < n) : ∃ g c, v = .slice (some ⟨g, 0, none⟩) n c ∧ base ≤ g ∧ g < w.heap.size := by
  have h' := h
  unfold OB at h'
  rw [hn] at h'
  rcases h'.2 with ⟨e, e2⟩ | ⟨g, cap, cur, e, hb, hh, _⟩
  · omega
  · exact ⟨g, cap, e, hb, (Array.getElem?_eq_some_iff.1 hh).1⟩
theorem OB.base {w : World} {b b' : Nat} {v : Value} {l : List Bool} (h : OB w b v l) (hb : b' ≤ b) : OB w b' v l := owns_base h hb
theorem rangeX_succ (X : Nat → Bool) (k : Nat) : (List.range (k + 1)).map X = (List.range k).map X ++ [X k] := by rw [List.range_succ, List.map_append]; rfl
def ApO (w0 : World) (n : Nat) (X : Nat → Nat → Bool) (u i : Value) (wr : World) : Prop :=
  ∃ (s : Nat) (G K : Nat → Nat), s ≤ n ∧ i = .int .i64 s ∧ Mat wr w0.heap.size u n s G K X ∧ Below w0.heap.size w0 wr
def ApI (wr : World) (n : Nat) (Y : Nat → Bool) (u i : Value) (wi : World) : Prop :=
  ∃ t : Nat, t ≤ n ∧ i = .int .i64 t ∧ OB wi wr.heap.size u ((List.range t).map Y) ∧ Below wr.heap.size wr wi
set_option maxRecDepth 100000 in
set_option maxHeartbeats 8000000 in
theorem apart_ref {C : Array Value} {m : Mc} (w : World) (k : Int) (hk : k ≤ 9223372036854775807) (h : IsM w.heap.size w C m) (hok : Ok m) :
    Calls Try.prog 26 #[.agg C, .int .i64 k] w fun e w' => ∃ v G K, e = .returned v ∧ Mat w' w.heap.size v m.lb.length m.lb.length G K (apX m k.toNat) ∧ Below w.heap.size w w' := by
  have hx := Bx.new h
  obtain ⟨a1, a2, a3, c1, c2, c3, k1, k2, k3⟩ := h.slices
  rw [hok.len] at k1
  have hn6 := hok.lbs.2.1
  obtain ⟨n, hn⟩ : ∃ n, n = m.lb.length := ⟨_, rfl⟩
  rw [← hn] at k1 k2 hn6 ⊢
  have hni : (n : Int) ≤ 65536 := by omega
  have hn0 : 0 < n := by rw [hn]; exact hok.zero
  have HK := Lib.hid (show C[257]? = some (.slice a1 n c1) ∧ C[258]? = some (.slice a2 n c2) from ⟨k1, k2⟩)
  have HN := Lib.hid (show n = m.lb.length ∧ n ≤ 65536 ∧ 0 < n from ⟨hn, by omega, hn0⟩)
  have HI := Lib.hid h; have HOK := Lib.hid hok; have HKM := Lib.hid hk
  have HB0 := Lib.hid (al_o w (.cells C 27))
  have HS0 := Lib.hid (show (w.alloc (.cells C 27)).heap.size = w.heap.size + 1 by simp)
  have HX := Lib.hid hx.ar
  have y2 := (hx.lbv k2).1
  obtain ⟨d, hd⟩ : ∃ d : Nat, m.wd = (d : Int) := ⟨_, hok.wd⟩
  have HD := Lib.hid (show m.wd = (d : Int) ∧ d ≤ 256 from ⟨hd, by have := hok.wd; have := rk_le (E := byKey m.of) 256; omega⟩)
  have hdi : (d : Int) ≤ 256 := by have := HD.out.2; omega
  clear h hok hx k1 k2 k3 hn hn6 hd hn0 hk
  go_enter Try.func26, Try.ntmps26
  go_wp2_with fail
  clear y2
  have HBL := Lib.hid (al_o (w.alloc (.cells C 27)) (.cells #[] 49))
  have HO0 := Lib.hid (show ((w.alloc (.cells C 27)).alloc (.cells #[] 49)).ownsRow (w.alloc (.cells C 27)).heap.size 49 1 (.slice (some ⟨(w.alloc (.cells C 27)).heap.size, 0, none⟩) 0 0) 0 [] from
    ⟨rfl, .inr ⟨(w.alloc (.cells C 27)).heap.size, 0, #[], rfl, Nat.le_refl _, Ar.new _ _ _, Nat.le_refl _, Nat.zero_le _, rfl, rfl⟩⟩)
  obtain ⟨bx, hbx⟩ : ∃ b, b = w.heap.size := ⟨_, rfl⟩
  have HBX := Lib.hid hbx
  rw [← hbx] at HS0 HX
  rw [show (w.heap.size + 1) = (w.alloc (.cells C 27)).heap.size by simp]
  generalize (w.alloc (.cells C 27)) = w0 at *
  rw [← hbx]
  clear hbx
  -- what a machine's box tells in every later world
  have HBOX := Lib.hid (fun W (hb : Below w0.heap.size w0 W) => (show Bx W bx C m from ⟨(hb.block _ (by rw [HS0.out]; omega)).trans HX.out, HI.out.next (HB0.out.trans (hb.mono HB0.out.size))⟩))
  go_loopw [6, 7] (fun u i wr => ApO w0 n (apX m 0) u i wr) (fun _ i _ => n - (intOf i).toNat)
  case atStart => exact ⟨0, fun _ => 0, fun _ => 0, Nat.zero_le _, rfl, Mat.zero _ _ _ _ _ _ HO0.out, HBL.out⟩
  case round =>
    obtain ⟨s, Gm, Km, hs, rfl, hM, hb⟩ := hrel
    obtain ⟨au, cu, rfl⟩ := hM.form
    have HM := Lib.hid hM; have HB := Lib.hid hb
    clear hM hb
    by_cases hlt : s < n
    · have HLS := Lib.hid hlt
      have HROW := Lib.hid (OB.empty wr); have HBR := Lib.hid (al_o wr (.cells #[] 4))
      go_wp2_with fail
      go_loopw [8, 9] (fun v j wi => ApI wr n (apX m 0 s) v j wi) (fun _ j _ => n - (intOf j).toNat)
      case atStart => exact ⟨0, Nat.zero_le _, rfl, HROW.out, HBR.out⟩
      case round =>
        rename World => wi
        obtain ⟨t, ht, rfl, hO, hbi⟩ := hrel
        obtain ⟨ar, cr, hv⟩ := own_form (show World.ownsRow _ _ _ _ _ _ _ from hO)
        rw [List.length_map, List.length_range] at hv
        subst hv
        have HO := Lib.hid hO; have HBI := Lib.hid hbi
        clear hO hbi
        by_cases hlj : t < n
        · have hbw := HB.out.trans (HBI.out.mono HB.out.size)
          have hbx2 := HBOX.out wi hbw
          obtain ⟨z1, hIS⟩ := hbx2.lbv HK.out.2
          obtain ⟨b2, o2, rfl, _, hl1⟩ := hIS.cell (i := s) (by rw [← HN.out.1]; exact HLS.out)
          obtain ⟨_, _, e2, _, hl2⟩ := hIS.cell (i := t) (by rw [← HN.out.1]; exact hlj)
          simp only [Option.some.injEq, Addr.mk.injEq, and_true] at e2
          obtain ⟨rfl, rfl⟩ := e2
          have HEQ := Lib.hid (show (List.range (t + 1)).map (apX m 0 s) = (List.range t).map (apX m 0 s) ++ [m.lb.getD s 0 != m.lb.getD t 0] by rw [rangeX_succ]; simp [apX, alk, bne])
          obtain ⟨p, hp⟩ : ∃ p, p = m.lb.getD s 0 := ⟨_, rfl⟩
          obtain ⟨q, hq⟩ : ∃ q, q = m.lb.getD t 0 := ⟨_, rfl⟩
          rw [← hp] at hl1 HEQ
          rw [← hq] at hl2 HEQ
          have HZ := Lib.hid (show wi.cell? ⟨bx, 258, none⟩ = some (.slice (some ⟨b2, o2, none⟩) n c2) ∧ wi.cell? ⟨b2, o2 + s, none⟩ = some (.int .i64 p) ∧ wi.cell? ⟨b2, o2 + t, none⟩ = some (.int .i64 q) from ⟨z1, hl1, hl2⟩)
          have HLJ := Lib.hid hlj
          have HDR := Lib.hid (show KB wi wi.drew from (Below.refl _ _).drew)
          clear hbw hbx2 z1 hIS hl1 hl2 hp hq
          go_wp2_with fail
          refine wp_region_W (fun i => decide (i < 13)) 13 2 (by kernel_rfl) (by kernel_rfl) (KB.up wi) HDR.out ?_
          refine wpW_taken (i := 0) rfl (by kernel_rfl) (by kernel_rfl) (by kernel_rfl) (by kernel_rfl) (KB.up wi) ?_
          apply Exists.intro
          refine ⟨Or.inl ⟨rfl, fun W hW => ?hy⟩, ?_⟩
          case hy =>
            go_simp
            exact RegionU.does_value rfl
          simp only [Act.put, List.setIfInBounds_toArray, List.set]
          refine wpW_taken (i := 1) rfl (by kernel_rfl) (by kernel_rfl) (by kernel_rfl) (by kernel_rfl) (KB.up wi) ?_
          apply Exists.intro
          refine ⟨Or.inl ⟨rfl, fun W hW => ?hy⟩, ?_⟩
          case hy =>
            go_simp
            exact RegionU.does_value rfl
          simp only [Act.put, List.setIfInBounds_toArray, List.set]
          refine wpW_taken (i := 2) rfl (by kernel_rfl) (by kernel_rfl) (by kernel_rfl) (by kernel_rfl) (KB.up wi) ?_
          apply Exists.intro
          refine ⟨Or.inl ⟨rfl, fun W hW => ?hy⟩, ?_⟩
          case hy =>
            have d := (Below.cell (p := ⟨bx, 258, none⟩) hW (World.block_lt_of_cell? _ _ HZ.out.1)).trans HZ.out.1
            go_simp
            exact RegionU.does_value rfl
          simp only [Act.put, List.setIfInBounds_toArray, List.set]
          refine wpW_taken (i := 3) rfl (by kernel_rfl) (by kernel_rfl) (by kernel_rfl) (by kernel_rfl) (KB.up wi) ?_
          apply Exists.intro
          refine ⟨Or.inl ⟨rfl, fun W hW => ?hy⟩, ?_⟩
          case hy =>
            go_simp
            exact RegionU.does_value rfl
          simp only [Act.put, List.setIfInBounds_toArray, List.set]
          refine wpW_taken (i := 4) rfl (by kernel_rfl) (by kernel_rfl) (by kernel_rfl) (by kernel_rfl) (KB.up wi) ?_
          apply Exists.intro
          refine ⟨Or.inl ⟨rfl, fun W hW => ?hy⟩, ?_⟩
          case hy =>
            have hlt := HLS.out
            go_simp
            exact RegionU.does_value rfl
          simp only [Act.put, List.setIfInBounds_toArray, List.set]
          refine wpW_taken (i := 5) rfl (by kernel_rfl) (by kernel_rfl) (by kernel_rfl) (by kernel_rfl) (KB.up wi) ?_
          apply Exists.intro
          refine ⟨Or.inl ⟨rfl, fun W hW => ?hy⟩, ?_⟩
          case hy =>
            have d := (Below.cell (p := ⟨b2, o2 + s, none⟩) hW (World.block_lt_of_cell? _ _ HZ.out.2.1)).trans HZ.out.2.1
            go_simp
            exact RegionU.does_value rfl
          simp only [Act.put, List.setIfInBounds_toArray, List.set]
          refine wpW_taken (i := 6) rfl (by kernel_rfl) (by kernel_rfl) (by kernel_rfl) (by kernel_rfl) (KB.up wi) ?_
          apply Exists.intro
          refine ⟨Or.inl ⟨rfl, fun W hW => ?hy⟩, ?_⟩
          case hy =>
            go_simp
            exact RegionU.does_value rfl
          simp only [Act.put, List.setIfInBounds_toArray, List.set]
          refine wpW_taken (i := 7) rfl (by kernel_rfl) (by kernel_rfl) (by kernel_rfl) (by kernel_rfl) (KB.up wi) ?_
          apply Exists.intro
          refine ⟨Or.inl ⟨rfl, fun W hW => ?hy⟩, ?_⟩
          case hy =>
            have d := (Below.cell (p := ⟨bx, 258, none⟩) hW (World.block_lt_of_cell? _ _ HZ.out.1)).trans HZ.out.1
            go_simp
            exact RegionU.does_value rfl
          simp only [Act.put, List.setIfInBounds_toArray, List.set]
          refine wpW_taken (i := 8) rfl (by kernel_rfl) (by kernel_rfl) (by kernel_rfl) (by kernel_rfl) (KB.up wi) ?_
          apply Exists.intro
          refine ⟨Or.inl ⟨rfl, fun W hW => ?hy⟩, ?_⟩
          case hy =>
            go_simp
            exact RegionU.does_value rfl
          simp only [Act.put, List.setIfInBounds_toArray, List.set]
          refine wpW_taken (i := 9) rfl (by kernel_rfl) (by kernel_rfl) (by kernel_rfl) (by kernel_rfl) (KB.up wi) ?_
          apply Exists.intro
          refine ⟨Or.inl ⟨rfl, fun W hW => ?hy⟩, ?_⟩
          case hy =>
            have hlt := HLJ.out
            go_simp
            exact RegionU.does_value rfl
          simp only [Act.put, List.setIfInBounds_toArray, List.set]
          refine wpW_taken (i := 10) rfl (by kernel_rfl) (by kernel_rfl) (by kernel_rfl) (by kernel_rfl) (KB.up wi) ?_
          apply Exists.intro
          refine ⟨Or.inl ⟨rfl, fun W hW => ?hy⟩, ?_⟩
          case hy =>
            have d := (Below.cell (p := ⟨b2, o2 + t, none⟩) hW (World.block_lt_of_cell? _ _ HZ.out.2.2)).trans HZ.out.2.2
            go_simp
            exact RegionU.does_value rfl
          simp only [Act.put, List.setIfInBounds_toArray, List.set]
          refine wpW_taken (i := 11) rfl (by kernel_rfl) (by kernel_rfl) (by kernel_rfl) (by kernel_rfl) (KB.up wi) ?_
          apply Exists.intro
          refine ⟨Or.inl ⟨rfl, fun W hW => ?hy⟩, ?_⟩
          case hy =>
            go_simp
            exact RegionU.does_value rfl
          simp only [Act.put, List.setIfInBounds_toArray, List.set]
          refine wpW_one (i := 12) (by kernel_rfl) (by kernel_rfl) rfl rfl (A1 wi.heap.size 4 (.bool (p != q))) (A1.up _ _ _) (fun W hW => ?hy) ?_
          case hy =>
            go_simp
            exact RegionU.does_made ⟨_, rfl, Ar.new _ _ _, Below.size (show Below _ _ _ from hW)⟩ (al_o _ _)
          intro u9
          simp only [Act.put, List.setIfInBounds_toArray, List.set]
          refine wpW_have (p := ∃ b, u9 = .slice (some ⟨b, 0, none⟩) 1 1) (fun W hW => ?_) ?_
          · obtain ⟨b, h, _⟩ := hW.2; exact ⟨b, h⟩
          rintro ⟨b9, rfl⟩
          refine wpW_done2 (i := 13) (j := 14) rfl rfl (by kernel_rfl) (by kernel_rfl) ?_
          rintro W ⟨h1, b', h3, h4, h5⟩
          obtain rfl : b9 = b' := by simpa using h3
          have h1 : Below wi.heap.size wi W := h1
          have HBW := Lib.hid (HBI.out.trans (h1.mono HBI.out.size))
          refine wpList_append_bool rfl (.tmp 32) (.tmp 44) rfl rfl (HO.out.below h1) HBW.out.size ⟨b9, 0, none⟩ 1 (p != q) rfl (Ar.at' h4 0) rfl (by rw [List.length_map, List.length_range]; have := HN.out.2.1; have := HLJ.out; omega) ?_
          intro v' w6 hO6 hb6
          obtain ⟨a6, c6, hv6⟩ := own_form (show World.ownsRow _ _ _ _ _ _ _ from hO6)
          rw [List.length_append, List.length_map, List.length_range] at hv6
          subst hv6
          have HO6 := Lib.hid hO6; have HB6 := Lib.hid (HBW.out.trans hb6)
          clear h1 h3 h4 h5 hO6 hb6 HZ
          go_wp2_with fail
          exact ⟨⟨t + 1, HLJ.out, by go_num, by rw [HEQ.out]; exact HO6.out, HB6.out⟩, by have := HLJ.out; simp [intOf]; omega⟩
        · have htn : t = n := by omega
          subst htn
          obtain ⟨g, c, hf, hg1, hg2⟩ := HO.out.form (n := t) (by simp) HN.out.2.2
          simp only [Value.slice.injEq] at hf
          obtain ⟨rfl, _, rfl⟩ := hf
          have hal := al_o wi (.cells #[.slice (some ⟨g, 0, none⟩) t cr] 49)
          have hmw := (HM.out.below HBI.out).below hal
          have how := (HO.out.below hal).base (b' := w0.heap.size) HB.out.size
          have HMW := Lib.hid hmw; have HOW := Lib.hid how
          have HNE := Lib.hid (show ∀ i, i < s → Gm i ≠ g from fun i hi e => by have := (HM.out.blk hi).2; omega)
          have HBA := Lib.hid ((HB.out.trans (HBI.out.mono HB.out.size)).trans (hal.mono (Nat.le_trans HB.out.size HBI.out.size)))
          clear hal hmw how hg1 hg2
          go_wp2_with (at_builtin; refine wpList_append_brow rfl (.tmp 46) (.tmp 48) rfl rfl HMW.out.top HBA.out.size ⟨wi.heap.size, 0, none⟩ 1 rfl (by rw [World.cell?_alloc_new]; rfl) rfl (by have := HN.out.2.1; have := HLS.out; omega) ?_; intro v' w6 hO6 hg6; have HM6 := Lib.hid (HMW.out.snoc HOW.out HNE.out hO6 hg6); have HB6 := Lib.hid (HBA.out.trans (below_own HBA.out.size HMW.out.top hg6)); obtain ⟨a9, c9, rfl⟩ := own_form hO6; clear hO6 hg6; go_frame)
          exact ⟨⟨s + 1, _, _, HLS.out, by go_num, HM6.out, HB6.out⟩, by have := HLS.out; simp [intOf]; omega⟩
    · have hsn : n = s := by omega
      subst hsn
      clear hlt hs
      go_wp2_with fail
      go_loopw [10] (fun i wr => ∃ j : Nat, i = .int .i64 j ∧ (j = 0 ∨ (j : Int) ≤ k) ∧ Mat wr w0.heap.size (.slice au n cu) n n Gm Km (apX m j) ∧ Below w0.heap.size w0 wr) (fun i _ => k.toNat - (intOf i).toNat)
      case atStart => exact ⟨0, rfl, .inl rfl, HM.out, HB.out⟩
      case round =>
        rename World => wr
        obtain ⟨j, rfl, hj, hM, hb⟩ := hrel
        have HM := Lib.hid hM; have HB := Lib.hid hb
        clear hM hb
        by_cases hlt : (j : Int) < k
        case neg =>
          have hjk : k.toNat = j := by rcases hj with rfl | hj <;> omega
          have t0 : decide ((j : Int) < k) = false := by simpa using hlt
          have HJK := Lib.hid hjk
          clear hlt hj hjk
          go_wp2_with fail
          go_ret
          refine ⟨_, Gm, Km, rfl, ?_, HB0.out.trans (HB.out.mono HB0.out.size)⟩
          rw [HJK.out]
          exact HM.out.base HB0.out.size
        have t0 : decide ((j : Int) < k) = true := by simpa using hlt
        have HLK := Lib.hid hlt
        have hj63 : (j : Int) ≤ 9223372036854775806 := by have := HKM.out; omega
        clear hlt hj
        have HW0 := Lib.hid (show (wr.alloc (.cells #[] 49)).ownsRow wr.heap.size 49 1 (.slice (some ⟨wr.heap.size, 0, none⟩) 0 0) 0 [] from
          ⟨rfl, .inr ⟨wr.heap.size, 0, #[], rfl, Nat.le_refl _, Ar.new _ _ _, Nat.le_refl _, Nat.zero_le _, rfl, rfl⟩⟩)
        have HWB := Lib.hid (al_o wr (.cells #[] 49))
        go_wp2_with fail
        clear t0
        go_loopw [12, 13] (fun v i wi => ∃ (s : Nat) (Gw Kw : Nat → Nat), s ≤ n ∧ i = .int .i64 s ∧ Mat wi wr.heap.size v n s Gw Kw (apX m j) ∧ Below wr.heap.size wr wi) (fun _ i _ => n - (intOf i).toNat)
        case atStart => exact ⟨0, fun _ => 0, fun _ => 0, Nat.zero_le _, rfl, Mat.zero _ _ _ _ _ _ HW0.out, HWB.out⟩
        case round =>
          rename World => wi
          obtain ⟨s, Gw, Kw, hs, rfl, hW, hbi⟩ := hrel
          obtain ⟨aw, cw, rfl⟩ := hW.form
          have HW := Lib.hid hW; have HBI := Lib.hid hbi
          clear hW hbi
          by_cases hls : s < n
          · have hMi := HM.out.below HBI.out
            have hal := al_o wi (.cells #[] 4)
            have hMa := hMi.below hal
            obtain ⟨bo, rfl, _, _, e1⟩ := hMa.topAt hls
            have HRC := Lib.hid (fun q (hq : q < n) => hMa.at hls hq)
            have HLS := Lib.hid hls
            have HAL := Lib.hid hal
            have HRL := Lib.hid (show n = ((List.range n).map (apX m j s)).length by simp)
            have HRG := Lib.hid (show ∀ q, q < n → (wi.alloc (.cells #[] 4)).cell? ⟨Gm s, q, none⟩ = some (.bool (((List.range n).map (apX m j s)).getD q false)) from fun q hq => by rw [hMa.at hls hq]; simp [List.getD, hq])
            clear hMi hMa hal
            go_wp2_with (at_builtin; refine wpList_append_bools (base := wi.heap.size) (g := Gm s) (n := n) (c := Km s) (l := (List.range n).map (apX m j s)) (v := .slice (some ⟨wi.heap.size, 0, none⟩) 0 0) rfl (.tmp 62) (.tmp 66) rfl rfl (OB.empty wi) HAL.out.size rfl HRL.out HRG.out (by have := HN.out.2.1; omega) ?_)
            intro v5 w5 hO5 hb5
            obtain ⟨g5, c5, hf5, hg5, _⟩ := hO5.form (n := n) (by simp) HN.out.2.2
            subst hf5
            have hal5 := al_o w5 (.cells #[.slice (some ⟨g5, 0, none⟩) n c5] 49)
            have hb6 := (HAL.out.trans hb5).trans (hal5.mono (Nat.le_trans HAL.out.size hb5.size))
            have HB6 := Lib.hid hb6; have HW6 := Lib.hid (HW.out.below hb6)
            have HO6 := Lib.hid ((hO5.below hal5).base (b' := wr.heap.size) HBI.out.size)
            have HNE := Lib.hid (show ∀ i, i < s → Gw i ≠ g5 from fun i hi e => by have := (HW.out.blk hi).2; omega)
            clear hO5 hb5 hg5 hal5 hb6 e1
            go_wp2_with (at_builtin; refine wpList_append_brow rfl (.tmp 61) (.tmp 68) rfl rfl HW6.out.top (Nat.le_trans HBI.out.size HB6.out.size) ⟨w5.heap.size, 0, none⟩ 1 rfl (by rw [World.cell?_alloc_new]; rfl) rfl (by have := HN.out.2.1; have := HLS.out; omega) ?_; intro v7 w7 hO7 hg7; have HW7 := Lib.hid (HW6.out.snoc HO6.out HNE.out hO7 hg7); have HB7 := Lib.hid ((HBI.out.trans (HB6.out.mono HBI.out.size)).trans (below_own (Nat.le_trans HBI.out.size HB6.out.size) HW6.out.top hg7)); obtain ⟨a9, c9, rfl⟩ := own_form hO7; clear hO7 hg7; go_frame)
            exact ⟨⟨s + 1, _, _, HLS.out, by go_num, HW7.out, HB7.out⟩, by have := HLS.out; simp [intOf]; omega⟩
          · have hsn : n = s := by omega
            subst hsn
            have HMi := Lib.hid (HM.out.below HBI.out)
            have HBw := Lib.hid (HB.out.trans (HBI.out.mono HB.out.size))
            have HHI := Lib.hid (show w0.heap.size ≤ wr.heap.size ∧ ∀ i, i < n → Gm i < wr.heap.size from ⟨HB.out.size, fun i hi => (HM.out.blk hi).2⟩)
            obtain ⟨hi, hhi⟩ : ∃ h, h = wr.heap.size := ⟨_, rfl⟩
            rw [← hhi] at HHI HW
            clear hls hs HM HB HBI HW0 HWB hhi
            go_wp2_with fail
            go_loopw [11, 14] (fun e i wj => ∃ (mo : Bool) (s : Nat), e = .bool mo ∧ s ≤ n ∧ i = .int .i64 s ∧ Hid (mo = true ↔ Chg m j n s 0) ∧ Mat wj w0.heap.size (.slice au n cu) n n Gm Km (apS m j s 0) ∧ Mat wj hi (.slice aw n cw) n n Gw Kw (apX m j) ∧ Below w0.heap.size w0 wj) (fun _ i _ => n - (intOf i).toNat)
            case atStart => exact ⟨false, 0, rfl, Nat.zero_le _, rfl, Lib.hid ⟨fun h => (by cases h), fun h => absurd h (Chg.none m j n)⟩, by rw [apS_zero]; exact HMi.out, HW.out, HBw.out⟩
            case round =>
              rename World => wj
              obtain ⟨mo, s, rfl, hs, rfl, HCH, hM, hW, hb⟩ := hrel
              have HM := Lib.hid hM; have HWw := Lib.hid hW; have HB := Lib.hid hb
              clear hM hW hb
              by_cases hls : s < n
              · have HLS := Lib.hid hls
                go_wp2_with fail
                go_loopw [11, 15] (fun e i wj => ∃ (mo : Bool) (t : Nat), e = .bool mo ∧ t ≤ n ∧ i = .int .i64 t ∧ Hid (mo = true ↔ Chg m j n s t) ∧ Mat wj w0.heap.size (.slice au n cu) n n Gm Km (apS m j s t) ∧ Mat wj hi (.slice aw n cw) n n Gw Kw (apX m j) ∧ Below w0.heap.size w0 wj) (fun _ i _ => n - (intOf i).toNat)
                case atStart => exact ⟨mo, 0, rfl, Nat.zero_le _, rfl, HCH, HM.out, HWw.out, HB.out⟩
                case round =>
                  clear HCH HM HWw HB
                  rename World => wk
                  obtain ⟨mo, t, rfl, ht, rfl, HCH, hM, hW, hb⟩ := hrel
                  have HM := Lib.hid hM; have HWw := Lib.hid hW; have HB := Lib.hid hb
                  clear hM hW hb
                  by_cases hlt : t < n
                  · have HLT := Lib.hid hlt
                    go_wp2_with fail
                    go_loopw [11, 16] (fun e i wj => ∃ (mo : Bool) (c : Nat), e = .bool mo ∧ c ≤ d ∧ i = .int .i64 c ∧ Hid (mo = true ↔ Chg m j n s t ∨ (alk m j s t = true ∧ apC m j s t c = true)) ∧ Mat wj w0.heap.size (.slice au n cu) n n Gm Km (setX (apS m j s t) s t (apC m j s t c)) ∧ Mat wj hi (.slice aw n cw) n n Gw Kw (apX m j) ∧ Below w0.heap.size w0 wj) (fun _ i _ => d - (intOf i).toNat)
                    case atStart =>
                      refine ⟨mo, 0, rfl, Nat.zero_le _, rfl, Lib.hid ?_, ?_, HWw.out, HB.out⟩
                      · rw [HCH.out, apC_zero]
                        refine ⟨.inl, fun h => h.elim id fun h => ?_⟩
                        have h1 := h.1; have h2 := h.2
                        unfold apX at h2
                        rw [h1] at h2; cases h2
                      · rw [setX_id (by rw [apS_at, apC_zero])]; exact HM.out
                    case round =>
                      clear HCH HM HWw HB
                      rename World => wl
                      obtain ⟨mo, c, rfl, hc, rfl, HCH, hM, hW, hb⟩ := hrel
                      have hbox := HBOX.out wl hb
                      have zwd := hbox.wd
                      rw [HD.out.1] at zwd
                      obtain ⟨bo, rfl, hbo1, hbo2, z1⟩ := hM.topAt HLS.out
                      have z2 := hM.at HLS.out HLT.out
                      rw [show setX (apS m j s t) s t (apC m j s t c) s t = apC m j s t c by simp [setX]] at z2
                      have hsn := HLS.out; have htn := HLT.out
                      have HMM := Lib.hid hM; have HWW := Lib.hid hW; have HBB := Lib.hid hb
                      have HZ1 := Lib.hid z1; have HZ2 := Lib.hid z2
                      clear hM hW hb hbo1 hbo2
                      -- what follows when the loop ends
                      by_cases hcd : c < d ∧ apC m j s t c = false
                      case neg =>
                        have HFIN := Lib.hid (show apC m j s t c = apX m (j + 1) s t by
                          by_cases e : c = d
                          · rw [e]; exact apC_all HD.out.1 j s t
                          · cases h : apC m j s t c with
                            | false => exact absurd ⟨by omega, h⟩ hcd
                            | true => exact (apC_true HD.out.1 hc h).symm)
                        have HDONE := Lib.hid (show (∃ (mo' : Bool) (t' : Nat), mo = mo' ∧ t' = t + 1 ∧ (mo' = true ↔ Chg m j n s t') ∧ Mat wl w0.heap.size (.slice (some ⟨bo, 0, none⟩) n cu) n n Gm Km (apS m j s t')) from ⟨mo, t + 1, rfl, rfl, by rw [HCH.out, Chg.next HLT.out, HFIN.out], by rw [← apS_next HFIN.out]; exact HMM.out⟩)
                        have hFIN : Hid ((mo = true ↔ Chg m j n s (t + 1)) ∧ Mat wl w0.heap.size (.slice (some ⟨bo, 0, none⟩) n cu) n n Gm Km (apS m j s (t + 1))) := Lib.hid (by obtain ⟨_, _, rfl, rfl, h1, h2⟩ := HDONE.out; exact ⟨h1, h2⟩)
                        clear HDONE hbox
                        by_cases hcl : c < d
                        · have hp : apC m j s t c = true := by
                            cases h : apC m j s t c with
                            | true => rfl
                            | false => exact absurd ⟨hcl, h⟩ hcd
                          rw [hp] at z2
                          clear hcd hp
                          go_wp2_with fail
                          exact ⟨⟨mo, t + 1, rfl, HLT.out, by go_num, Lib.hid hFIN.out.1, hFIN.out.2, HWW.out, HBB.out⟩, by have := HLT.out; simp [intOf]; omega⟩
                        · have hcd2 : c = d := by omega
                          clear hcd
                          subst hcd2
                          clear hcl
                          go_wp2_with fail
                          exact ⟨⟨mo, t + 1, rfl, HLT.out, by go_num, Lib.hid hFIN.out.1, hFIN.out.2, HWW.out, HBB.out⟩, by have := HLT.out; simp [intOf]; omega⟩
                      obtain ⟨hcl, hp⟩ := hcd
                      rw [hp] at z2
                      have HCL := Lib.hid hcl; have HP := Lib.hid hp
                      obtain ⟨y1, hRS⟩ := hbox.nxv HK.out.1
                      have hsm : s < m.lb.length := by rw [← HN.out.1]; exact hsn
                      have htm : t < m.lb.length := by rw [← HN.out.1]; exact htn
                      obtain ⟨b1, o1, bs, os, cs, rfl, hr1, hr2⟩ := rows_form HOK.out hRS hsm
                      obtain ⟨_, _, bt, ot, ct, e3, hr3, hr4⟩ := rows_form HOK.out hRS htm
                      simp only [Option.some.injEq, Addr.mk.injEq, and_true] at e3
                      obtain ⟨rfl, rfl⟩ := e3
                      have hcw : (c : Int) < m.wd := by rw [HD.out.1]; omega
                      have hrs := HOK.out.row hsm
                      have hrt := HOK.out.row htm
                      rw [show (m.nx.getD s []).length = d by have := HD.out.1; omega] at hr1
                      rw [show (m.nx.getD t []).length = d by have := HD.out.1; omega] at hr3
                      have hp1 := (HOK.out.cell hsm hcw).2
                      have hp2 := (HOK.out.cell htm hcw).2
                      have hr2c := hr2 c hcw
                      have hr4c := hr4 c hcw
                      have HNX := Lib.hid (show apC m j s t (c + 1) = apX m j (at2 m.nx s c) (at2 m.nx t c) by rw [apC_succ, hp]; simp)
                      obtain ⟨x1, hx1⟩ : ∃ x, x = at2 m.nx s c := ⟨_, rfl⟩
                      obtain ⟨x2, hx2⟩ : ∃ x, x = at2 m.nx t c := ⟨_, rfl⟩
                      rw [← hx1] at hp1 hr2c HNX
                      rw [← hx2] at hp2 hr4c HNX
                      rw [← HN.out.1] at hp1 hp2
                      obtain ⟨bw, rfl, _, _, w1⟩ := HWW.out.topAt hp1
                      have w2 := HWW.out.at hp1 hp2
                      obtain ⟨nb, hnb⟩ : ∃ b, b = apX m j x1 x2 := ⟨_, rfl⟩
                      rw [← hnb] at w2 HNX
                      have HZ := Lib.hid (show wl.cell? ⟨bx, 257, none⟩ = some (.slice (some ⟨b1, o1, none⟩) n c1) ∧ wl.cell? ⟨b1, o1 + s, none⟩ = some (.slice (some ⟨bs, os, none⟩) d cs) ∧ wl.cell? ⟨b1, o1 + t, none⟩ = some (.slice (some ⟨bt, ot, none⟩) d ct) ∧ wl.cell? ⟨bs, os + c, none⟩ = some (.int .i64 x1) ∧ wl.cell? ⟨bt, ot + c, none⟩ = some (.int .i64 x2) ∧ wl.cell? ⟨bw, x1, none⟩ = some (.slice (some ⟨Gw x1, 0, none⟩) n (Kw x1)) ∧ wl.cell? ⟨Gw x1, x2, none⟩ = some (.bool nb) from ⟨y1, hr1, hr3, hr2c, hr4c, w1, w2⟩)
                      have HX12 := Lib.hid (show x1 < n ∧ x2 < n from ⟨hp1, hp2⟩)
                      have HDR := Lib.hid (show KB wl wl.drew from (Below.refl _ _).drew)
                      have HSET := Lib.hid (show Mat (wl.setCell ⟨Gm s, t, none⟩ (.bool nb)) w0.heap.size (.slice (some ⟨bo, 0, none⟩) n cu) n n Gm Km (setX (apS m j s t) s t nb) from by
                        have := HMM.out.set HLS.out HLT.out nb
                        rw [show setX (setX (apS m j s t) s t (apC m j s t c)) s t nb = setX (apS m j s t) s t nb by funext a b; unfold setX; split <;> rfl] at this
                        exact this)
                      clear hbox hRS hsm htm hr1 hr2 hr3 hr4 hrs hrt hp1 hp2 hr2c hr4c hx1 hx2 w1 w2 hnb y1 hcw hp hc HSET
                      go_wp2_with fail
                      clear z1 z2 zwd hcl
                      refine wp_region_W (fun i => decide (i < 27)) 27 1 (by kernel_rfl) (by kernel_rfl) (KB.up wl) HDR.out ?_
                      refine wpW_taken (i := 0) rfl (by kernel_rfl) (by kernel_rfl) (by kernel_rfl) (by kernel_rfl) (KB.up wl) ?_
                      apply Exists.intro
                      refine ⟨Or.inl ⟨rfl, fun W hW => ?hy⟩, ?_⟩
                      case hy =>
                        go_simp
                        exact RegionU.does_value rfl
                      simp only [Act.put, List.setIfInBounds_toArray, List.set]
                      refine wpW_taken (i := 1) rfl (by kernel_rfl) (by kernel_rfl) (by kernel_rfl) (by kernel_rfl) (KB.up wl) ?_
                      apply Exists.intro
                      refine ⟨Or.inl ⟨rfl, fun W hW => ?hy⟩, ?_⟩
                      case hy =>
                        go_simp
                        exact RegionU.does_value rfl
                      simp only [Act.put, List.setIfInBounds_toArray, List.set]
                      refine wpW_taken (i := 2) rfl (by kernel_rfl) (by kernel_rfl) (by kernel_rfl) (by kernel_rfl) (KB.up wl) ?_
                      apply Exists.intro
                      refine ⟨Or.inl ⟨rfl, fun W hW => ?hy⟩, ?_⟩
                      case hy =>
                        have hlt := HLS.out
                        go_simp
                        exact RegionU.does_value rfl
                      simp only [Act.put, List.setIfInBounds_toArray, List.set]
                      refine wpW_taken (i := 3) rfl (by kernel_rfl) (by kernel_rfl) (by kernel_rfl) (by kernel_rfl) (KB.up wl) ?_
                      apply Exists.intro
                      refine ⟨Or.inl ⟨rfl, fun W hW => ?hy⟩, ?_⟩
                      case hy =>
                        have d := (Below.cell (p := ⟨bo, s, none⟩) hW (World.block_lt_of_cell? _ _ HZ1.out)).trans HZ1.out
                        go_simp
                        exact RegionU.does_value rfl
                      simp only [Act.put, List.setIfInBounds_toArray, List.set]
                      refine wpW_taken (i := 4) rfl (by kernel_rfl) (by kernel_rfl) (by kernel_rfl) (by kernel_rfl) (KB.up wl) ?_
                      apply Exists.intro
                      refine ⟨Or.inl ⟨rfl, fun W hW => ?hy⟩, ?_⟩
                      case hy =>
                        go_simp
                        exact RegionU.does_value rfl
                      simp only [Act.put, List.setIfInBounds_toArray, List.set]
                      refine wpW_taken (i := 5) rfl (by kernel_rfl) (by kernel_rfl) (by kernel_rfl) (by kernel_rfl) (KB.up wl) ?_
                      apply Exists.intro
                      refine ⟨Or.inl ⟨rfl, fun W hW => ?hy⟩, ?_⟩
                      case hy =>
                        go_simp
                        exact RegionU.does_value rfl
                      simp only [Act.put, List.setIfInBounds_toArray, List.set]
                      refine wpW_taken (i := 6) rfl (by kernel_rfl) (by kernel_rfl) (by kernel_rfl) (by kernel_rfl) (KB.up wl) ?_
                      apply Exists.intro
                      refine ⟨Or.inl ⟨rfl, fun W hW => ?hy⟩, ?_⟩
                      case hy =>
                        go_simp
                        exact RegionU.does_value rfl
                      simp only [Act.put, List.setIfInBounds_toArray, List.set]
                      refine wpW_taken (i := 7) rfl (by kernel_rfl) (by kernel_rfl) (by kernel_rfl) (by kernel_rfl) (KB.up wl) ?_
                      apply Exists.intro
                      refine ⟨Or.inl ⟨rfl, fun W hW => ?hy⟩, ?_⟩
                      case hy =>
                        have d := (Below.cell (p := ⟨bx, 257, none⟩) hW (World.block_lt_of_cell? _ _ HZ.out.1)).trans HZ.out.1
                        go_simp
                        exact RegionU.does_value rfl
                      simp only [Act.put, List.setIfInBounds_toArray, List.set]
                      refine wpW_taken (i := 8) rfl (by kernel_rfl) (by kernel_rfl) (by kernel_rfl) (by kernel_rfl) (KB.up wl) ?_
                      apply Exists.intro
                      refine ⟨Or.inl ⟨rfl, fun W hW => ?hy⟩, ?_⟩
                      case hy =>
                        go_simp
                        exact RegionU.does_value rfl
                      simp only [Act.put, List.setIfInBounds_toArray, List.set]
                      refine wpW_taken (i := 9) rfl (by kernel_rfl) (by kernel_rfl) (by kernel_rfl) (by kernel_rfl) (KB.up wl) ?_
                      apply Exists.intro
                      refine ⟨Or.inl ⟨rfl, fun W hW => ?hy⟩, ?_⟩
                      case hy =>
                        have hlt := HLS.out
                        go_simp
                        exact RegionU.does_value rfl
                      simp only [Act.put, List.setIfInBounds_toArray, List.set]
                      refine wpW_taken (i := 10) rfl (by kernel_rfl) (by kernel_rfl) (by kernel_rfl) (by kernel_rfl) (KB.up wl) ?_
                      apply Exists.intro
                      refine ⟨Or.inl ⟨rfl, fun W hW => ?hy⟩, ?_⟩
                      case hy =>
                        have d := (Below.cell (p := ⟨b1, o1 + s, none⟩) hW (World.block_lt_of_cell? _ _ HZ.out.2.1)).trans HZ.out.2.1
                        go_simp
                        exact RegionU.does_value rfl
                      simp only [Act.put, List.setIfInBounds_toArray, List.set]
                      refine wpW_taken (i := 11) rfl (by kernel_rfl) (by kernel_rfl) (by kernel_rfl) (by kernel_rfl) (KB.up wl) ?_
                      apply Exists.intro
                      refine ⟨Or.inl ⟨rfl, fun W hW => ?hy⟩, ?_⟩
                      case hy =>
                        go_simp
                        exact RegionU.does_value rfl
                      simp only [Act.put, List.setIfInBounds_toArray, List.set]
                      refine wpW_taken (i := 12) rfl (by kernel_rfl) (by kernel_rfl) (by kernel_rfl) (by kernel_rfl) (KB.up wl) ?_
                      apply Exists.intro
                      refine ⟨Or.inl ⟨rfl, fun W hW => ?hy⟩, ?_⟩
                      case hy =>
                        have hlt := HCL.out
                        go_simp
                        exact RegionU.does_value rfl
                      simp only [Act.put, List.setIfInBounds_toArray, List.set]
                      refine wpW_taken (i := 13) rfl (by kernel_rfl) (by kernel_rfl) (by kernel_rfl) (by kernel_rfl) (KB.up wl) ?_
                      apply Exists.intro
                      refine ⟨Or.inl ⟨rfl, fun W hW => ?hy⟩, ?_⟩
                      case hy =>
                        have d := (Below.cell (p := ⟨bs, os + c, none⟩) hW (World.block_lt_of_cell? _ _ HZ.out.2.2.2.1)).trans HZ.out.2.2.2.1
                        go_simp
                        exact RegionU.does_value rfl
                      simp only [Act.put, List.setIfInBounds_toArray, List.set]
                      refine wpW_taken (i := 14) rfl (by kernel_rfl) (by kernel_rfl) (by kernel_rfl) (by kernel_rfl) (KB.up wl) ?_
                      apply Exists.intro
                      refine ⟨Or.inl ⟨rfl, fun W hW => ?hy⟩, ?_⟩
                      case hy =>
                        have hlt := HX12.out.1
                        go_simp
                        exact RegionU.does_value rfl
                      simp only [Act.put, List.setIfInBounds_toArray, List.set]
                      refine wpW_taken (i := 15) rfl (by kernel_rfl) (by kernel_rfl) (by kernel_rfl) (by kernel_rfl) (KB.up wl) ?_
                      apply Exists.intro
                      refine ⟨Or.inl ⟨rfl, fun W hW => ?hy⟩, ?_⟩
                      case hy =>
                        have d := (Below.cell (p := ⟨bw, x1, none⟩) hW (World.block_lt_of_cell? _ _ HZ.out.2.2.2.2.2.1)).trans HZ.out.2.2.2.2.2.1
                        go_simp
                        exact RegionU.does_value rfl
                      simp only [Act.put, List.setIfInBounds_toArray, List.set]
                      refine wpW_taken (i := 16) rfl (by kernel_rfl) (by kernel_rfl) (by kernel_rfl) (by kernel_rfl) (KB.up wl) ?_
                      apply Exists.intro
                      refine ⟨Or.inl ⟨rfl, fun W hW => ?hy⟩, ?_⟩
                      case hy =>
                        go_simp
                        exact RegionU.does_value rfl
                      simp only [Act.put, List.setIfInBounds_toArray, List.set]
                      refine wpW_taken (i := 17) rfl (by kernel_rfl) (by kernel_rfl) (by kernel_rfl) (by kernel_rfl) (KB.up wl) ?_
                      apply Exists.intro
                      refine ⟨Or.inl ⟨rfl, fun W hW => ?hy⟩, ?_⟩
                      case hy =>
                        have d := (Below.cell (p := ⟨bx, 257, none⟩) hW (World.block_lt_of_cell? _ _ HZ.out.1)).trans HZ.out.1
                        go_simp
                        exact RegionU.does_value rfl
                      simp only [Act.put, List.setIfInBounds_toArray, List.set]
                      refine wpW_taken (i := 18) rfl (by kernel_rfl) (by kernel_rfl) (by kernel_rfl) (by kernel_rfl) (KB.up wl) ?_
                      apply Exists.intro
                      refine ⟨Or.inl ⟨rfl, fun W hW => ?hy⟩, ?_⟩
                      case hy =>
                        go_simp
                        exact RegionU.does_value rfl
                      simp only [Act.put, List.setIfInBounds_toArray, List.set]
                      refine wpW_taken (i := 19) rfl (by kernel_rfl) (by kernel_rfl) (by kernel_rfl) (by kernel_rfl) (KB.up wl) ?_
                      apply Exists.intro
                      refine ⟨Or.inl ⟨rfl, fun W hW => ?hy⟩, ?_⟩
                      case hy =>
                        have hlt := HLT.out
                        go_simp
                        exact RegionU.does_value rfl
                      simp only [Act.put, List.setIfInBounds_toArray, List.set]
                      refine wpW_taken (i := 20) rfl (by kernel_rfl) (by kernel_rfl) (by kernel_rfl) (by kernel_rfl) (KB.up wl) ?_
                      apply Exists.intro
                      refine ⟨Or.inl ⟨rfl, fun W hW => ?hy⟩, ?_⟩
                      case hy =>
                        have d := (Below.cell (p := ⟨b1, o1 + t, none⟩) hW (World.block_lt_of_cell? _ _ HZ.out.2.2.1)).trans HZ.out.2.2.1
                        go_simp
                        exact RegionU.does_value rfl
                      simp only [Act.put, List.setIfInBounds_toArray, List.set]
                      refine wpW_taken (i := 21) rfl (by kernel_rfl) (by kernel_rfl) (by kernel_rfl) (by kernel_rfl) (KB.up wl) ?_
                      apply Exists.intro
                      refine ⟨Or.inl ⟨rfl, fun W hW => ?hy⟩, ?_⟩
                      case hy =>
                        go_simp
                        exact RegionU.does_value rfl
                      simp only [Act.put, List.setIfInBounds_toArray, List.set]
                      refine wpW_taken (i := 22) rfl (by kernel_rfl) (by kernel_rfl) (by kernel_rfl) (by kernel_rfl) (KB.up wl) ?_
                      apply Exists.intro
                      refine ⟨Or.inl ⟨rfl, fun W hW => ?hy⟩, ?_⟩
                      case hy =>
                        have hlt := HCL.out
                        go_simp
                        exact RegionU.does_value rfl
                      simp only [Act.put, List.setIfInBounds_toArray, List.set]
                      refine wpW_taken (i := 23) rfl (by kernel_rfl) (by kernel_rfl) (by kernel_rfl) (by kernel_rfl) (KB.up wl) ?_
                      apply Exists.intro
                      refine ⟨Or.inl ⟨rfl, fun W hW => ?hy⟩, ?_⟩
                      case hy =>
                        have d := (Below.cell (p := ⟨bt, ot + c, none⟩) hW (World.block_lt_of_cell? _ _ HZ.out.2.2.2.2.1)).trans HZ.out.2.2.2.2.1
                        go_simp
                        exact RegionU.does_value rfl
                      simp only [Act.put, List.setIfInBounds_toArray, List.set]
                      refine wpW_taken (i := 24) rfl (by kernel_rfl) (by kernel_rfl) (by kernel_rfl) (by kernel_rfl) (KB.up wl) ?_
                      apply Exists.intro
                      refine ⟨Or.inl ⟨rfl, fun W hW => ?hy⟩, ?_⟩
                      case hy =>
                        have hlt := HX12.out.2
                        go_simp
                        exact RegionU.does_value rfl
                      simp only [Act.put, List.setIfInBounds_toArray, List.set]
                      refine wpW_taken (i := 25) rfl (by kernel_rfl) (by kernel_rfl) (by kernel_rfl) (by kernel_rfl) (KB.up wl) ?_
                      apply Exists.intro
                      refine ⟨Or.inl ⟨rfl, fun W hW => ?hy⟩, ?_⟩
                      case hy =>
                        have d := (Below.cell (p := ⟨Gw x1, x2, none⟩) hW (World.block_lt_of_cell? _ _ HZ.out.2.2.2.2.2.2)).trans HZ.out.2.2.2.2.2.2
                        go_simp
                        exact RegionU.does_value rfl
                      simp only [Act.put, List.setIfInBounds_toArray, List.set]
                      refine wpW_taken (i := 26) rfl (by kernel_rfl) (by kernel_rfl) (by kernel_rfl) (by kernel_rfl) (KB.up wl) ?_
                      apply Exists.intro
                      refine ⟨Or.inl ⟨rfl, fun W hW => ?hy⟩, ?_⟩
                      case hy =>
                        have hlt := HLT.out
                        go_simp
                        exact RegionU.does_value rfl
                      simp only [Act.put, List.setIfInBounds_toArray, List.set]
                      refine wpW_done1 (i := 27) rfl (by kernel_rfl) (by kernel_rfl) ?_
                      intro W hW
                      have h1 : Below wl.heap.size wl W := hW
                      have hM1 := HMM.out.below h1
                      have hfz : W.frozen? ⟨Gm s, t, none⟩ = false := by
                        obtain ⟨⟨cur, h2⟩, _⟩ := own_at (hM1.row s HLS.out) rfl
                        simp [World.frozen?, h2]
                      have hck : W.cell? ⟨Gm s, t, none⟩ = some _ := hM1.at HLS.out HLT.out
                      have hM2 : Mat (W.setCell ⟨Gm s, t, none⟩ (.bool nb)) w0.heap.size (.slice (some ⟨bo, 0, none⟩) n cu) n n Gm Km (setX (apS m j s t) s t (apC m j s t (c + 1))) := by
                        have := hM1.set HLS.out HLT.out nb
                        rw [show setX (setX (apS m j s t) s t (apC m j s t c)) s t nb = setX (apS m j s t) s t nb by funext a b; unfold setX; split <;> rfl] at this
                        rw [HNX.out]; exact this
                      have hW2 := (HWW.out.below h1).other (A := Gm s) (k := t) (y := .bool nb) (HHI.out.2 s HLS.out)
                      have hB2 := Below.setCell (HBB.out.trans (h1.mono HBB.out.size)) (p := ⟨Gm s, t, none⟩) (hM1.blk HLS.out).1 (.bool nb)
                      have HM2 := Lib.hid hM2; have HW2 := Lib.hid hW2; have HB2 := Lib.hid hB2
                      obtain ⟨bo2, hbo2, _, _, q1⟩ := hM2.topAt HLS.out
                      simp only [Option.some.injEq, Addr.mk.injEq, and_true] at hbo2
                      subst hbo2
                      have q2 := hM2.at HLS.out HLT.out
                      rw [show setX (apS m j s t) s t (apC m j s t (c + 1)) s t = nb by simp [setX, HNX.out]] at q2
                      have HAL := Lib.hid (show alk m j s t = true from (apC_iff.1 HP.out).1)
                      have hsn := HLS.out; have htn := HLT.out; have hcl := HCL.out
                      clear hW h1 hM1 hM2 hW2 hB2
                      cases mo with
                      | true =>
                        go_wp2_with fail
                        exact ⟨⟨true, c + 1, rfl, HCL.out, by go_num, Lib.hid ⟨fun _ => by
                          rcases HCH.out.1 rfl with h | h
                          · exact .inl h
                          · rw [HP.out] at h; exact absurd h.2 (by decide), fun _ => rfl⟩, HM2.out, HW2.out, HB2.out⟩, by have := HCL.out; simp [intOf]; omega⟩
                      | false =>
                        go_wp2_with fail
                        exact ⟨⟨nb, c + 1, rfl, HCL.out, by go_num, Lib.hid ⟨fun h => .inr ⟨HAL.out, by rw [HNX.out]; exact h⟩, fun h => by
                          rcases h with h | h
                          · exact absurd (HCH.out.2 (.inl h)) (by decide)
                          · rw [← HNX.out]; exact h.2⟩, HM2.out, HW2.out, HB2.out⟩, by have := HCL.out; simp [intOf]; omega⟩
                  · have htn : t = n := by omega
                    have HCH2 := Lib.hid (show mo = true ↔ Chg m j n (s + 1) 0 by rw [HCH.out, htn]; exact Chg.row)
                    have HM2 := Lib.hid (HM.out.congr (Y := apS m j (s + 1) 0) fun a b _ hb => by rw [htn]; exact apS_row hb)
                    clear HCH HM hlt ht
                    subst htn
                    go_wp2_with fail
                    exact ⟨⟨mo, s + 1, rfl, HLS.out, by go_num, HCH2, HM2.out, HWw.out, HB.out⟩, by have := HLS.out; simp [intOf]; omega⟩
              · have hsn : s = n := by omega
                subst hsn
                clear hls hs
                cases mo with
                | false =>
                  have HST := Lib.hid (show Still m j from Chg.still (by rw [← HN.out.1]; exact fun h => absurd (HCH.out.2 h) (by decide)))
                  have HME := Lib.hid (HM.out.congr (Y := apX m k.toNat) fun a b ha hb => by
                    rw [apS_all ha, apX_still HOK.out HST.out (Nat.le_succ j) a b (by rw [← HN.out.1]; exact ha) (by rw [← HN.out.1]; exact hb), apX_still HOK.out HST.out (k := k.toNat) (by have := HLK.out; omega) a b (by rw [← HN.out.1]; exact ha) (by rw [← HN.out.1]; exact hb)])
                  go_wp2_with fail
                  go_ret
                  exact ⟨_, Gm, Km, rfl, HME.out.base HB0.out.size, HB0.out.trans (HB.out.mono HB0.out.size)⟩
                | true =>
                  have HME := Lib.hid (HM.out.congr (Y := apX m (j + 1)) fun a b ha hb => apS_all ha)
                  have hj63' := hj63
                  go_wp2_with fail
                  exact ⟨⟨j + 1, by go_num, .inr (by have := HLK.out; omega), HME.out, HB.out⟩, by have := HLK.out; simp [intOf]; omega⟩
end Go.Proofs.Ytfhddbjojpmbcaa.DfaW
