/- Walks of the document's sets: Meets, Take, Or. -/
import Derived.Test.YtgmeomhddpmpbaaDoorRefPut
import Derived.BigRegion
import Derived.Deep.RegionWith
namespace Go.Proofs.YtgmeomhddpmpbaaDoor.BitsW
set_option linter.unusedVariables false
open Go.RowKit Go.Shelf Go.Proofs.YtgmeomhddpmpbaaDoor.SetM

set_option maxHeartbeats 2000000 in
theorem refMeets_any (n m : Nat) (v u : Value) (l k : List Nat) (w : World) (h : NSl w v l) (h' : NSl w u k) (hl : l.length ≤ 1048576) (hk : k.length ≤ 1048576) :
    Calls Tryd.prog 22 #[RV n v, RV m u] w fun e w' => e = .returned (.bool (k.any fun x => lhas l (x : Int))) ∧ Below w.heap.size w w' := by
  have hb0 : Below w.heap.size w ((w.alloc (.cells #[.int .i64 n, v] 30)).alloc (.cells #[.int .i64 m, u] 30)) := ((Below.refl _ _).alloc (Nat.le_refl _) _).alloc (by simp) _
  have h0 := h.below hb0
  have h1 := h'.below hb0
  have hx0 := (Box2.new w n v).alloc (.cells #[.int .i64 m, u] 30)
  have hx1 := Box2.new (w.alloc (.cells #[.int .i64 n, v] 30)) m u
  rw [World.size_alloc] at hx1
  obtain ⟨a, cap, rfl, _⟩ := h
  obtain ⟨a', cap', rfl, hcl⟩ := h'
  have HCL := Lib.hid hcl
  have HH := Lib.hid h0; have HX := Lib.hid hx0; have HY := Lib.hid hx1; have HB := Lib.hid hb0
  have HHAS := Lib.hid (fun W i (h : NSl W (.slice a l.length cap) l) => refHas_any n (.slice a l.length cap) l i W h (by omega))
  clear h0 h1 hx0 hx1 hb0 hcl
  generalize hl2 : l.length = ll at *
  generalize hk2 : k.length = kl at *
  have c0 := HX.out.c0
  have c1 := HX.out.c1
  have d1 := HY.out.c1
  have HKL := Lib.hid hk2
  clear hl2 hk2
  go_enter Tryd.func22, Tryd.ntmps22
  go_wp2_with fail
  generalize (w.alloc (.cells #[.int .i64 n, .slice a ll cap] 30)).alloc (.cells #[.int .i64 m, .slice a' kl cap'] 30) = W0 at *
  obtain ⟨B, hB⟩ : ∃ B, B = w.heap.size := ⟨_, rfl⟩
  rw [← hB] at c0 c1 d1 ⊢
  have HBB := Lib.hid hB
  rw [← hB] at HX HY
  clear hB
  go_loopw [5] (fun i wr => ∃ j : Nat, j ≤ kl ∧ i = .int .i64 j ∧ Hid ((k.take j).any (fun x => lhas l (x : Int)) = false) ∧ Below W0.heap.size W0 wr) (fun i _ => kl - (intOf i).toNat)
  case atStart => exact ⟨0, Nat.zero_le _, rfl, Lib.hid rfl, Below.refl _ _⟩
  case round =>
    obtain ⟨j, hj, rfl, HL, hb⟩ := hrel
    have hx := HX.out.below hb
    have hy := HY.out.below hb
    have hbw := HB.out.trans (hb.mono HB.out.size)
    clear c0 c1 d1
    have d1 := hy.c1
    by_cases hlt : j < kl
    · obtain ⟨b, rfl, hcj, _⟩ := HCL.out j hlt
      have d2 := (hbw.cell (p := ⟨b, j, none⟩) (World.block_lt_of_cell? _ _ hcj)).trans hcj
      have e0 : wr.drew.cell? ⟨B, 0, none⟩ = some (.int .i64 n) := hx.c0
      have e1 : wr.drew.cell? ⟨B, 1, none⟩ = some (.slice a ll cap) := hx.c1
      have e2 : wr.drew.cell? ⟨B + 1, 1, none⟩ = some (.slice (some ⟨b, 0, none⟩) kl cap') := d1
      have e3 : wr.drew.cell? ⟨b, j, none⟩ = some (i64 (k.getD j 0)) := d2
      have hji : (j : Int) < (kl : Int) := by omega
      have hj0 : (0 : Int) ≤ (j : Int) := by omega
      have HT := Lib.hid (take_snoc k j (by rw [HKL.out]; exact hlt))
      have HQ := Lib.hid (split_at k j (by rw [HKL.out]; exact hlt))
      have hhd := HH.out.below hb
      generalize k.getD j 0 = x at *
      have HHD := Lib.hid hhd; have HBR := Lib.hid hb
      clear hhd hb hx hy hbw hcj d2
      go_wp2_with fail
      go_still_tail 6, (by kernel_rfl)
      change wpList _ _ _ _ _ wr.drew
      have hbd : Below W0.heap.size W0 wr.drew := HBR.out.drew
      have hhd2 : NSl wr.drew (.slice a ll cap) l := HHD.out.below (Below.refl _ _).drew
      have HBD := Lib.hid hbd; have HH2 := Lib.hid hhd2
      clear hbd hhd2
      generalize wr.drew = wd at *
      cases hx : lhas l (x : Int)
      · have HXL := Lib.hid hx
        clear hx
        go_wp2_with fail
        refine (HHAS.out _ _ HH2.out).mono ?_
        rintro e w1 ⟨rfl, hb1⟩
        rw [HXL.out]
        have HB1 := Lib.hid (HBD.out.trans (hb1.mono HBD.out.size))
        clear hb1
        go_wp2_with fail
        exact ⟨⟨j + 1, by omega, by go_num, Lib.hid (by rw [HT.out, List.any_append, HL.out, List.any_cons, HXL.out]; rfl), HB1.out⟩, by simp [intOf]; omega⟩
      · have HXL := Lib.hid hx
        have HR := Lib.hid (show (k.any fun x => lhas l (x : Int)) = true by rw [HQ.out, List.any_append, List.any_cons, HXL.out]; simp)
        clear hx
        go_wp2_with fail
        refine (HHAS.out _ _ HH2.out).mono ?_
        rintro e w1 ⟨rfl, hb1⟩
        rw [HXL.out]
        have HB1 := Lib.hid (HBD.out.trans (hb1.mono HBD.out.size))
        clear hb1
        go_wp2_with fail
        go_ret
        exact ⟨by rw [HR.out]; rfl, HB.out.trans (HB1.out.mono HB.out.size)⟩
    · have HR := Lib.hid (show (k.any fun x => lhas l (x : Int)) = false by have := HL.out; rwa [List.take_of_length_le (by rw [HKL.out]; omega)] at this)
      have HBW := Lib.hid hbw
      clear hx hy hbw
      go_wp2_with fail
      go_ret
      exact ⟨by rw [HR.out]; rfl, HBW.out⟩
/-- What the document's Take answers. -/
def TakeR (w : World) (n : Nat) (l : List Nat) (i : Int) (e : Ending) (w' : World) : Prop :=
  ∃ v', e = .returned (.tuple #[RV n v', .bool (lhas l i)]) ∧ NSl w' v' (lessL l i) ∧ Below w.heap.size w w'
set_option maxHeartbeats 4000000 in
theorem refTake_any (n : Nat) (v : Value) (l : List Nat) (z : Int) (w : World) (h : NSl w v l) (hl : l.length ≤ 1048576) :
    Calls Tryd.prog 11 #[RV n v, .int .i64 z] w (TakeR w n l z) := by
  obtain ⟨i0, hi, hz0, hz1, hz2⟩ := info_parts infoInt
  have hb0 : Below w.heap.size w ((w.alloc (.cells #[.int .i64 n, v] 30)).alloc (.cells #[.int .i64 0, .slice none 0 0] 30)) := ((Below.refl _ _).alloc (Nat.le_refl _) _).alloc (by simp) _
  have hx0 := (Box2.new w n v).alloc (.cells #[.int .i64 0, .slice none 0 0] 30)
  have hx1 := Box2.new (w.alloc (.cells #[.int .i64 n, v] 30)) 0 (.slice none 0 0)
  rw [World.size_alloc] at hx1
  obtain ⟨a, cap, rfl, hcl⟩ := h
  have HCL := Lib.hid hcl
  have HX := Lib.hid hx0; have HY := Lib.hid hx1; have HB := Lib.hid hb0
  clear hx0 hx1 hb0 hcl
  generalize hm : l.length = m at *
  have HM := Lib.hid hm
  clear hm
  go_enter Tryd.func11, Tryd.ntmps11
  obtain ⟨B, hB⟩ : ∃ B, B = w.heap.size := ⟨_, rfl⟩
  have HBB := Lib.hid hB
  have hR0 : Rnd w (((w.alloc (.cells #[.int .i64 n, .slice a m cap] 30)).alloc (.cells #[.int .i64 0, .slice none 0 0] 30)).alloc (.cells #[] 3)) B n m cap a (.slice (some ⟨w.heap.size + 1 + 1, 0, none⟩) 0 0) [] :=
    ⟨by have := World.ownsRow_lit (base := w.heap.size) (e := 3) (size := 1) ((w.alloc (.cells #[.int .i64 n, .slice a m cap] 30)).alloc (.cells #[.int .i64 0, .slice none 0 0] 30)) #[] 0 HB.out.size (by unfold maxLen; omega) rfl
        rw [World.size_alloc, World.size_alloc] at this
        exact this, by rw [hB]; exact HX.out.alloc _, by rw [hB]; exact HY.out.alloc _, HB.out.alloc HB.out.size _⟩
  have HR0 := Lib.hid hR0
  clear hR0 HX HY HB hB
  go_wp2_with fail
  generalize ((w.alloc (.cells #[.int .i64 n, .slice a m cap] 30)).alloc (.cells #[.int .i64 0, .slice none 0 0] 30)).alloc (.cells #[] 3) = W1 at *
  rw [← HBB.out] at HR0 ⊢
  go_loopw [6, 7] (fun o i wr => ∃ j : Nat, j ≤ m ∧ i = .int .i64 j ∧ Rnd w wr B n m cap a o (lessL (l.take j) z)) (fun _ i _ => m - (intOf i).toNat)
  case atStart => exact ⟨0, Nat.zero_le _, rfl, HR0.out⟩
  case round =>
    obtain ⟨j, hj, rfl, hR⟩ := hrel
    have c0 := hR.x.c0
    have c1 := hR.x.c1
    have HR := Lib.hid hR
    have hlen := lessL_len (l.take j) z
    rw [List.length_take] at hlen
    have HRM := Lib.hid (room_ok (k := (lessL (l.take j) z).length) (by omega))
    by_cases hlt : j < m
    · obtain ⟨b, rfl, hcj, _⟩ := HCL.out j hlt
      have hbw := World.block_lt_of_cell? _ _ hcj
      have d1 := (hR.b.cell (p := ⟨b, j, none⟩) hbw).trans hcj
      have HT := Lib.hid (take_snoc l j (by rw [HM.out]; exact hlt))
      clear hR hcj hlen
      generalize l.getD j 0 = x at *
      cases hx : ((x : Int) == z)
      · have HI := Lib.hid (lessL_yes (l := l.take j) hx)
        have t1 : ((x : Int) != z) = true := by simp only [bne, hx]; rfl
        clear hx
        go_wp2_with (first | (at_builtin; refine wpList_append_own _ rfl (.tmp 23) (.tmp 29) 28 rfl w.heap.size 3 i0 (.int .i64 0) 1 8 Tryd.underlying28 hi hz0 hz1 hz2 rfl (by decide) _ _ _ rfl (HR.out.own.alloc _) ⟨wr.heap.size, 0, none⟩ 1 1 [i64 x] rfl rfl (cell_one_new _ _ _) (by simp [Value.oneCell']) HRM.out.1 HRM.out.2 (Nat.le_trans HR.out.b.size (by simp)) ?_; intro v4 w4 hown hg _; have hR4 := HR.out.app hg hown; obtain ⟨g4, cap4, rfl⟩ := ownsRow_succ hown; have HR4 := Lib.hid hR4; clear hown hg hR4))
        exact ⟨⟨j + 1, by omega, by go_num, by rw [HT.out, HI.out]; exact HR4.out⟩, by simp [intOf]; omega⟩
      · have HI := Lib.hid (lessL_no (l := l.take j) hx)
        have t1 : ((x : Int) != z) = false := by simp only [bne, hx]; rfl
        clear hx
        go_wp2_with fail
        exact ⟨⟨j + 1, by omega, by go_num, by rw [HT.out, HI.out]; exact HR.out⟩, by simp [intOf]; omega⟩
    · have HLT := Lib.hid (show l.take j = l from List.take_of_length_le (by rw [HM.out]; omega))
      have hBw : w.heap.size ≤ B + 1 := by rw [HBB.out]; omega
      rw [HLT.out] at hR HRM hlen
      have HR2 := Lib.hid hR
      obtain ⟨ao, co, rfl⟩ : ∃ ao co, u6 = .slice ao (lessL l z).length co := by
        obtain ⟨ao, co, h, _⟩ := nsl_of HR2.out.own; exact ⟨ao, co, h⟩
      have HLE := Lib.hid (lessL_lt l z)
      rw [HM.out] at HLE
      generalize hk : (lessL l z).length = kk at *
      have HK := Lib.hid hk
      clear hR hk HR
      have d0 : wr.drew.cell? ⟨B, 0, none⟩ = some (.int .i64 n) := c0
      have d1 : wr.drew.cell? ⟨B, 1, none⟩ = some (.slice a m cap) := c1
      have e0 : wr.drew.cell? ⟨B + 1, 0, none⟩ = some (.int .i64 (0 : Nat)) := HR2.out.y.c0
      have e1 : wr.drew.cell? ⟨B + 1, 1, none⟩ = some (.slice none 0 0) := HR2.out.y.c1
      have e2 : wr.drew.frozen? ⟨B + 1, 0, none⟩ = false := HR2.out.y.f0
      have e3 : wr.drew.frozen? ⟨B + 1, 1, none⟩ = false := HR2.out.y.f1
      go_wp2_with fail
      have y0 := HR2.out.y.c0
      have y1 := HR2.out.y.c1
      have y2 := HR2.out.y.f0
      have y3 := HR2.out.y.f1
      have d2 : ((wr.setCell ⟨B + 1, 0, none⟩ (.int .i64 n)).setCell ⟨B + 1, 1, none⟩ (.slice ao kk co)).cell? ⟨B, 1, none⟩ = some (.slice a m cap) :=
        ((World.cell?_setCell_other _ _ _ _ (fun e => by injection e; omega)).trans (World.cell?_setCell_other _ _ _ _ (fun e => by injection e; omega))).trans c1
      go_region
      all_goals
        go_wp2_with fail
        have q := HR2.out.y.put n (.slice ao kk co)
        refine bodyPost_ret (v := .tuple #[RV n (.slice ao kk co), .bool (decide (kk < m))]) (by simp [results, Tryd.results11, go_sem, q.c0, q.c1]) rfl ⟨_, by rw [HLE.out], ?_, (below_put2 HR2.out.b hBw _ _).drew⟩
        exact ((nsl_of HR2.out.own).put (x := .int .i64 n) (y := .slice ao kk co) HR2.out.y).below (Below.refl _ _).drew
end Go.Proofs.YtgmeomhddpmpbaaDoor.BitsW
