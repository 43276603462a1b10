/- Walk of the document's sets: Or. -/
import Derived.Test.YtgmeomhddpmpbaaDoorRefOr
import Derived.Deep.RegionHeld3
import Derived.Deep.RegionWith
namespace Go.Proofs.YtgmeomhddpmpbaaDoor.BitsW
set_option linter.unusedVariables false
open Go.RowKit Go.Shelf Go.Proofs.YtgmeomhddpmpbaaDoor.SetM

theorem Box2.oset {W : World} {B C n : Nat} {v x y : Value} (h : Box2 W C n v) (hne : C ≠ B) : Box2 ((W.setCell ⟨B, 0, none⟩ x).setCell ⟨B, 1, none⟩ y) C n v :=
  ((Below.heap_setCell _ _ _ _ hne).trans (Below.heap_setCell _ _ _ _ hne)).trans h
/-- What the document's Or answers. -/
def OrS (w : World) (n : Nat) (f g : Nat → Bool) (e : Ending) (w' : World) : Prop :=
  ∃ v', e = .returned (.tuple #[RV n v', .bool (moreB n f g)]) ∧ NSl w' v' (upTo (orF n f g) n) ∧ Below w.heap.size w w'
set_option maxHeartbeats 4000000 in
theorem refOr_any (n m : Nat) (v u : Value) (f g : Nat → Bool) (w : World) (h : NSl w v (upTo f n)) (h' : NSl w u (upTo g m)) (hf : ∀ j, f j = true → j < n) (hg : ∀ j, g j = true → j < m) (hn : n ≤ 1048576) (hm : m ≤ 1048576) :
    Calls Tryd.prog 13 #[RV n v, RV m u] w (OrS w n f g) := by
  have hb0 : Below w.heap.size w (((w.alloc (.cells #[.int .i64 n, v] 30)).alloc (.cells #[.int .i64 m, u] 30)).alloc (.cells #[.int .i64 0, .slice none 0 0] 30)) := (((Below.refl _ _).alloc (Nat.le_refl _) _).alloc (by simp) _).alloc (by simp; omega) _
  have hx0 := ((Box2.new w n v).alloc (.cells #[.int .i64 m, u] 30)).alloc (.cells #[.int .i64 0, .slice none 0 0] 30)
  have hx1 := (Box2.new (w.alloc (.cells #[.int .i64 n, v] 30)) m u).alloc (.cells #[.int .i64 0, .slice none 0 0] 30)
  have hx2 := Box2.new ((w.alloc (.cells #[.int .i64 n, v] 30)).alloc (.cells #[.int .i64 m, u] 30)) 0 (.slice none 0 0)
  rw [World.size_alloc] at hx1
  rw [World.size_alloc, World.size_alloc] at hx2
  have h0 := h.below hb0
  have HUL := Lib.hid (upTo_le (f := g) hm)
  have hM := meet_all hf hg
  obtain ⟨a, cap, rfl, _⟩ := h
  obtain ⟨a', cap', rfl, hcl⟩ := h'
  have HCL := Lib.hid hcl
  have HH := Lib.hid h0; have HX := Lib.hid hx0; have HY := Lib.hid hx1; have HZ := Lib.hid hx2; have HB := Lib.hid hb0
  clear h0 hx0 hx1 hx2 hb0 hcl hM
  generalize hl2 : (upTo f n).length = ll at *
  generalize hk2 : (upTo g m).length = kl at *
  have HKL := Lib.hid hk2
  clear hl2 hk2
  go_enter Tryd.func13, Tryd.ntmps13
  obtain ⟨B, hB⟩ : ∃ B, B = w.heap.size := ⟨_, rfl⟩
  have HBB := Lib.hid hB
  go_wp2_with fail
  generalize ((w.alloc (.cells #[.int .i64 n, .slice a ll cap] 30)).alloc (.cells #[.int .i64 m, .slice a' kl cap'] 30)).alloc (.cells #[.int .i64 0, .slice none 0 0] 30) = W0 at *
  rw [← hB] at HX HY HZ ⊢
  clear hB
  go_loopw [6, 7] (fun s i wr => ∃ (j : Nat) (vv : Value), j ≤ kl ∧ i = .int .i64 j ∧ s = .bool (orM n f ((upTo g m).take j)) ∧ Box2 wr B n vv ∧ NSl wr vv (upTo (orT n f ((upTo g m).take j)) n) ∧ Box2 wr (B + 1) m (.slice a' kl cap') ∧ Box2 wr (B + 1 + 1) 0 (.slice none 0 0) ∧ Below w.heap.size w wr) (fun _ i _ => kl - (intOf i).toNat)
  case atStart => exact ⟨0, _, Nat.zero_le _, rfl, rfl, HX.out, by rw [List.take_zero, orT_nil]; exact HH.out, HY.out, HZ.out, HB.out⟩
  case round =>
    obtain ⟨j, vv, hj, rfl, rfl, hx, hs, hy, hz, hb⟩ := hrel
    have c0 := hx.c0
    have c1 := hx.c1
    have d0 := hy.c0
    have d1 := hy.c1
    by_cases hlt : j < kl
    · obtain ⟨b, rfl, hcj, _⟩ := HCL.out j hlt
      have hbl := World.block_lt_of_cell? _ _ hcj
      have d2 := (hb.cell (p := ⟨b, j, none⟩) hbl).trans hcj
      have hklb : kl ≤ 1048576 := HUL.out
      have hji : (j : Int) < (kl : Int) := by omega
      have hj0 : (0 : Int) ≤ (j : Int) := by omega
      have HT := Lib.hid (take_snoc (upTo g m) j (by rw [HKL.out]; exact hlt))
      have hI := orT_into hf ((upTo g m).take j)
      have HMS := Lib.hid (orM_snoc n f ((upTo g m).take j) ((upTo g m).getD j 0))
      have HTS := Lib.hid (orT_snoc n f ((upTo g m).take j) ((upTo g m).getD j 0))
      generalize (upTo g m).getD j 0 = x at *
      generalize orT n f ((upTo g m).take j) = F at *
      generalize orM n f ((upTo g m).take j) = so at *
      have HPUT := Lib.hid (fun W (h : NSl W vv (upTo F n)) => refPut_set n vv F x W h hI hn)
      have ha : Below wr.heap.size wr wr.drew := (Below.refl _ _).drew
      have hbb : Below wr.heap.size wr (wr.drew.alloc (.cells #[.int .i64 0, .slice none 0 0] 30)) := ha.alloc (Nat.le_refl _) _
      have hsA := hs.below ha
      have hsB := hs.below hbb
      obtain ⟨av, cv, rfl⟩ : ∃ av cv, vv = .slice av (upTo F n).length cv := by
        obtain ⟨av, cv, h, _⟩ := hs; exact ⟨av, cv, h⟩
      generalize hlv : (upTo F n).length = lv at *
      have HLV := Lib.hid hlv
      have HA := Lib.hid ha; have HBL := Lib.hid hbb; have HSA := Lib.hid hsA; have HSB := Lib.hid hsB; have HXB := Lib.hid hx; have HYB := Lib.hid hy; have HZB := Lib.hid hz; have HBW := Lib.hid hb
      have e0 := (Box2.new wr.drew 0 (.slice none 0 0)).c0
      have e1 := (Box2.new wr.drew 0 (.slice none 0 0)).c1
      have hal : Below wr.heap.size wr (wr.alloc (.cells #[.int .i64 0, .slice none 0 0] 30)) := (Below.refl _ _).alloc (Nat.le_refl _) _
      have k2 := (hal.cell (p := ⟨b, j, none⟩) (World.block_lt_of_cell? _ _ d2)).trans d2
      have k0 := (hal.cell (p := ⟨B, 0, none⟩) hx.lt).trans c0
      have k1 := (hal.cell (p := ⟨B, 1, none⟩) hx.lt).trans c1
      have k3 := (hal.cell (p := ⟨B + 1, 1, none⟩) hy.lt).trans d1
      have HLA := Lib.hid hal.drew
      clear hlv ha hbb hsA hsB hs hx hy hz hb hcj hI hal
      go_wp2_with fail
      have hold : ∀ X : World, Below wr.heap.size wr X → (X.cell? ⟨B, 0, none⟩ = some (.int .i64 n) ∧ X.cell? ⟨B, 1, none⟩ = some (.slice av lv cv)) ∧ X.cell? ⟨B + 1, 1, none⟩ = some (.slice (some ⟨b, 0, none⟩) kl cap') ∧ X.cell? ⟨b, j, none⟩ = some (i64 x) := fun X hX =>
        ⟨⟨(hX.cell (p := ⟨B, 0, none⟩) HXB.out.lt).trans c0, (hX.cell (p := ⟨B, 1, none⟩) HXB.out.lt).trans c1⟩, (hX.cell (p := ⟨B + 1, 1, none⟩) HYB.out.lt).trans d1, (hX.cell (p := ⟨b, j, none⟩) (World.block_lt_of_cell? _ _ d2)).trans d2⟩
      have HOLD := Lib.hid hold
      clear hold
      go_region_held3 (fun w' => (w'.cell? ⟨B, 0, none⟩ = some (.int .i64 n) ∧ w'.cell? ⟨B, 1, none⟩ = some (.slice av lv cv)) ∧ w'.cell? ⟨B + 1, 1, none⟩ = some (.slice (some ⟨b, 0, none⟩) kl cap') ∧ w'.cell? ⟨b, j, none⟩ = some (i64 x))
        (first | (exact HOLD.out _ HA.out) | (exact HOLD.out _ HBL.out) | (exact HOLD.out _ HLA.out) | (exact HOLD.out _ hw1) | (exact HOLD.out _ (hw1.alloc hw1.size _)) | (exact HOLD.out _ (below_put2 hw1 (Nat.le_refl _) _ _)))
        (first
        | (go_at_call 9; ((with_reducible refine (HPUT.out wr.drew HSA.out).mono ?_)); rintro e w1 ⟨v', rfl, hv', hb1⟩; have hw1 := HA.out.trans hb1; obtain ⟨ao, co, rfl⟩ : ∃ ao co, v' = .slice ao (upTo (putF n F x) n).length co := (by obtain ⟨ao, co, h, _⟩ := hv'; exact ⟨ao, co, h⟩))
        | (go_at_call 9; refine (HPUT.out _ HSB.out).mono ?_; rintro e w1 ⟨v', rfl, hv', hb1⟩; have hw1 := HBL.out.trans (hb1.mono HBL.out.size); have e2 : w1.cell? ⟨wr.heap.size, 0, none⟩ = some (.int .i64 0) := ((Box2.new wr.drew 0 (.slice none 0 0)).below hb1).c0; have e3 : w1.cell? ⟨wr.heap.size, 1, none⟩ = some (.slice none 0 0) := ((Box2.new wr.drew 0 (.slice none 0 0)).below hb1).c1; have e4 : w1.frozen? ⟨wr.heap.size, 0, none⟩ = false := ((Box2.new wr.drew 0 (.slice none 0 0)).below hb1).f0; have e5 : w1.frozen? ⟨wr.heap.size, 1, none⟩ = false := ((Box2.new wr.drew 0 (.slice none 0 0)).below hb1).f1; obtain ⟨ao, co, rfl⟩ : ∃ ao co, v' = .slice ao (upTo (putF n F x) n).length co := (by obtain ⟨ao, co, h, _⟩ := hv'; exact ⟨ao, co, h⟩)))
      next =>
        generalize hlo : (upTo (putF n F x) n).length = lo at *
        have HPV := Lib.hid hv'; have HLO := Lib.hid hlo; have HW1 := Lib.hid hw1
        clear hv' hlo
        try simp only [List.getElem_toArray, List.getElem_cons_succ, List.getElem_cons_zero, Act.put, List.setIfInBounds_toArray, List.set_cons_succ, List.set_cons_zero]
        have q := Box2.new w1 n (.slice ao lo co)
        have hvf := HPV.out.below ((Below.refl _ w1).alloc (Nat.le_refl _) (.cells #[.int .i64 n, .slice ao lo co] 30))
        have hwf := HW1.out.alloc HW1.out.size (.cells #[.int .i64 n, .slice ao lo co] 30)
        generalize w1.alloc (.cells #[.int .i64 n, .slice ao lo co] 30) = Wf at *
        generalize w1.heap.size = T8 at *
        have HQ := Lib.hid q; have HVF := Lib.hid hvf; have HWF := Lib.hid hwf
        have c2 := q.c0
        have c3 := q.c1
        have HXF := Lib.hid (HXB.out.below hwf); have HYF := Lib.hid (HYB.out.below hwf); have HZF := Lib.hid (HZB.out.below hwf)
        have y0 := HXF.out.c0
        have y1 := HXF.out.c1
        have y2 := HXF.out.f0
        have y3 := HXF.out.f1
        clear q hvf hwf hb1 hw1
        have HBL2 := Lib.hid (show w.heap.size ≤ B by rw [HBB.out]; exact Nat.le_refl _)
        cases so
        · go_wp2_with fail
          exact ⟨⟨j + 1, .slice ao lo co, by omega, by go_num, by rw [HT.out, HMS.out]; rfl, HXF.out.put n _, (by rw [HT.out, ← HTS.out]; exact HVF.out.put HXF.out), HYF.out.oset (by omega), HZF.out.oset (by omega), below_put2 (HBW.out.trans (HWF.out.mono HBW.out.size)) HBL2.out _ _⟩, by simp [intOf]; omega⟩
        · go_wp2_with fail
          exact ⟨⟨j + 1, .slice ao lo co, by omega, by go_num, by rw [HT.out, HMS.out]; rfl, HXF.out.put n _, (by rw [HT.out, ← HTS.out]; exact HVF.out.put HXF.out), HYF.out.oset (by omega), HZF.out.oset (by omega), below_put2 (HBW.out.trans (HWF.out.mono HBW.out.size)) HBL2.out _ _⟩, by simp [intOf]; omega⟩
      next =>
        generalize hlo : (upTo (putF n F x) n).length = lo at *
        have HPV := Lib.hid hv'; have HLO := Lib.hid hlo; have HW1 := Lib.hid hw1
        clear hv' hlo
        try simp only [List.getElem_toArray, List.getElem_cons_succ, List.getElem_cons_zero, Act.put, List.setIfInBounds_toArray, List.set_cons_succ, List.set_cons_zero]
        have hq0 : Box2 w1 wr.heap.size 0 (.slice none 0 0) := (Box2.new wr.drew 0 (.slice none 0 0)).below hb1
        have q : Box2 ((w1.setCell ⟨wr.heap.size, 0, none⟩ (.int .i64 n)).setCell ⟨wr.heap.size, 1, none⟩ (.slice ao lo co)) wr.heap.size n (.slice ao lo co) := hq0.put n (.slice ao lo co)
        have hvf : NSl ((w1.setCell ⟨wr.heap.size, 0, none⟩ (.int .i64 n)).setCell ⟨wr.heap.size, 1, none⟩ (.slice ao lo co)) (.slice ao lo co) (upTo (putF n F x) n) := HPV.out.put hq0
        have hwf : Below wr.heap.size wr ((w1.setCell ⟨wr.heap.size, 0, none⟩ (.int .i64 n)).setCell ⟨wr.heap.size, 1, none⟩ (.slice ao lo co)) := below_put2 HW1.out (Nat.le_refl _) _ _
        clear hq0
        generalize (w1.setCell ⟨wr.heap.size, 0, none⟩ (.int .i64 n)).setCell ⟨wr.heap.size, 1, none⟩ (.slice ao lo co) = Wf at *
        have HQ := Lib.hid q; have HVF := Lib.hid hvf; have HWF := Lib.hid hwf
        have c2 := q.c0
        have c3 := q.c1
        have HXF := Lib.hid (HXB.out.below hwf); have HYF := Lib.hid (HYB.out.below hwf); have HZF := Lib.hid (HZB.out.below hwf)
        have y0 := HXF.out.c0
        have y1 := HXF.out.c1
        have y2 := HXF.out.f0
        have y3 := HXF.out.f1
        clear q hvf hwf hb1 hw1
        have HBL2 := Lib.hid (show w.heap.size ≤ B by rw [HBB.out]; exact Nat.le_refl _)
        cases so
        · go_wp2_with fail
          exact ⟨⟨j + 1, .slice ao lo co, by omega, by go_num, by rw [HT.out, HMS.out]; rfl, HXF.out.put n _, (by rw [HT.out, ← HTS.out]; exact HVF.out.put HXF.out), HYF.out.oset (by omega), HZF.out.oset (by omega), below_put2 (HBW.out.trans (HWF.out.mono HBW.out.size)) HBL2.out _ _⟩, by simp [intOf]; omega⟩
        · go_wp2_with fail
          exact ⟨⟨j + 1, .slice ao lo co, by omega, by go_num, by rw [HT.out, HMS.out]; rfl, HXF.out.put n _, (by rw [HT.out, ← HTS.out]; exact HVF.out.put HXF.out), HYF.out.oset (by omega), HZF.out.oset (by omega), below_put2 (HBW.out.trans (HWF.out.mono HBW.out.size)) HBL2.out _ _⟩, by simp [intOf]; omega⟩
    · have HR := Lib.hid (show (upTo g m).take j = upTo g m from List.take_of_length_le (by rw [HKL.out]; omega))
      have HM := Lib.hid (orM_all (n := n) (f := f) hg)
      have HO := Lib.hid (orT_all (n := n) (f := f) hg)
      obtain ⟨av, cv, rfl⟩ : ∃ av cv, vv = .slice av (upTo (orT n f ((upTo g m).take j)) n).length cv := by
        obtain ⟨av, cv, h, _⟩ := hs; exact ⟨av, cv, h⟩
      generalize hlv : (upTo (orT n f ((upTo g m).take j)) n).length = lv at *
      have HS := Lib.hid hs; have HZ2 := Lib.hid hz; have HB2 := Lib.hid hb
      have z0 := hz.c0
      have z1 := hz.c1
      have z2 := hz.f0
      have z3 := hz.f1
      have hBB : w.heap.size ≤ B + 1 + 1 := by rw [HBB.out]; omega
      clear hlv hs hx hy hz hb
      go_wp2_with fail
      have q := HZ2.out.put n (.slice av lv cv)
      refine bodyPost_ret (v := .tuple #[RV n (.slice av lv cv), .bool (orM n f ((upTo g m).take j))]) (by simp [results, Tryd.results13, go_sem, q.c0, q.c1]) rfl ⟨_, by rw [HR.out, HM.out], ?_, below_put2 HB2.out hBB _ _⟩
      have h := HS.out.put (x := .int .i64 n) (y := .slice av lv cv) HZ2.out
      rw [HR.out, HO.out] at h
      exact h
end Go.Proofs.YtgmeomhddpmpbaaDoor.BitsW
