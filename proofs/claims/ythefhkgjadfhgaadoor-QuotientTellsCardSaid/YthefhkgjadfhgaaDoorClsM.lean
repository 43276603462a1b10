/- Walk of Classes. -/
import Derived.Test.YthefhkgjadfhgaaDoorClassesQ
import Derived.Test.YthefhkgjadfhgaaDoorRefClasses
namespace Go.Proofs.YthefhkgjadfhgaaDoor.DfaW
set_option linter.unusedVariables false
set_option linter.unusedSimpArgs false
open Go.RowKit Go.Maps Go.Proofs.YthefhkgjadfhgaaDoor.PartM Go.Proofs.YthefhkgjadfhgaaDoor.PartW
theorem run_aidx {A : Array Value} {f : Nat → Nat} (hA : IsA A f) {k : Nat} (hk : k < 256) (w : World) : (Instr.index 22 (.agg A) (.int .i64 (k : Nat))).run Tryd.prog w = .ok (.int .u8 (f k : Nat)) w := by
  have h1 := hA.at' k hk
  simp [Instr.index, go_sem, Tryd.underlying22, hk, h1]
/-- The number of a byte's class. -/
def gQ (m : Mc) (b : Nat) : Nat := nm (rowsE m m.nx.length) (m.of b)
theorem gQ_eq (m : Mc) : byKey (gQ m) = colE m := by
  funext a b
  have h1 : (byKey (gQ m) a b = true) ↔ gQ m a = gQ m b := by simp [byKey]
  have h2 : (colE m a b = true) ↔ rowsE m m.nx.length (m.of a) (m.of b) = true := by
    rw [rowsE_iff, colE_iff, List.take_length]; rfl
  rw [Bool.eq_iff_iff, h1, h2, nm_iff (rowsE_eqv m m.nx.length), beq_iff_eq]; rfl
def gqTo (m : Mc) (k : Nat) (b : Nat) : Nat := if b < k then gQ m b else 0
theorem gqTo_set {m : Mc} {Y : Array Value} {k : Nat} (h : IsA Y (gqTo m k)) : IsA (Y.setIfInBounds k (.int .u8 (gQ m k : Int))) (gqTo m (k + 1)) := by
  refine (h.set k (gQ m k)).congr fun i hi => ?_
  unfold gqTo
  by_cases e : i = k
  · subst e; simp
  · rw [if_neg e]
    by_cases h2 : i < k
    · rw [if_pos h2, if_pos (by omega)]
    · rw [if_neg h2, if_neg (by omega)]
set_option maxRecDepth 100000 in
set_option maxHeartbeats 4000000 in
theorem quoClasses_any : ClassesC 6 := fun {C m} w h => by
  obtain ⟨Z, hZ, hz⟩ := zeroA
  have HZ := Lib.hid hZ
  have hbz := build_arr hz
  have hbx0 := (Bx.new h).alloc (.cells Z 22)
  have hr0 : Ar ((w.alloc (.cells C 27)).alloc (.cells Z 22)) (w.heap.size + 1) Z 22 := by
    have := Ar.new (w.alloc (.cells C 27)) Z 22
    rw [World.size_alloc] at this; exact this
  have hb0 : Below w.heap.size w ((w.alloc (.cells C 27)).alloc (.cells Z 22)) := ((Below.refl _ _).alloc (Nat.le_refl _) _).alloc (by simp) _
  have HX0 := Lib.hid hbx0; have HR0 := Lib.hid hr0; have HB0 := Lib.hid hb0
  have HM := Lib.hid h
  clear h hbx0 hr0 hb0 hZ
  go_enter Tryd.func6, Tryd.ntmps6
  go_wp2_with (refine wpList_load_dfa rfl (.tmp 1) rfl rfl HX0.out ?_)
  refine (RightD_any _ HX0.out.is).mono ?_
  obtain ⟨s, hs⟩ : ∃ s, s = w.heap.size := ⟨_, rfl⟩
  have HSE := Lib.hid hs
  rw [← hs] at HX0 HR0 HB0 HM ⊢
  generalize ((w.alloc (.cells C 27)).alloc (.cells Z 22)) = w1 at *
  clear hs
  rintro e w2 ⟨hs, hb2⟩
  have HR2 := Lib.hid (HR0.out.below hb2); have HX2 := Lib.hid (HX0.out.below hb2)
  have HB2 := Lib.hid (HB0.out.trans (hb2.mono (by have := HB0.out.size; rw [HSE.out]; exact this)))
  clear hb2 HR0 HX0 HB0
  rcases hs.elim with ⟨rfl, hk⟩ | ⟨rfl, hk⟩
  case inr =>
    have HE := Lib.hid (cls_no hk)
    clear hs hk
    go_wp2_with (refine wpList_store_arr rfl 22 (.tmp 2) (.tmp 11) rfl rfl rfl HR2.out HZ.out.size HZ.out infoA ?_; simp only [Act.put])
    have hld := (HR2.out.row Z).loadVar (P := Tryd.prog) HZ.out.size Tryd.underlying22 infoA
    refine bodyPost_ret (v := .tuple #[.agg Z, .int .i64 0]) ?_ rfl ⟨Z, by rw [HE.out.1], by rw [HE.out.2]; exact HZ.out, by rw [← HSE.out]; exact below_row HB2.out (by omega) Z⟩
    rw [results_cell_tmp rfl]
    simp [asAddr, Result.andThen, hld]
  have HOK := Lib.hid hk
  have HE := Lib.hid (cls_yes hk)
  clear hs hk
  obtain ⟨d, hd⟩ : ∃ d : Nat, m.wd = (d : Int) := ⟨_, HOK.out.wd⟩
  have HD := Lib.hid hd
  have hd6 : (d : Int) ≤ 256 := by have := rk_le (E := byKey m.of) 256; have := HOK.out.wd; omega
  clear hd
  go_wp2_with (refine wpList_load_dfa rfl (.tmp 1) rfl rfl HX2.out ?_)
  refine (columns_any _ HX2.out.is HOK.out HD.out).mono ?_
  rintro e w3 ⟨v5, rfl, ho, hb3⟩
  obtain ⟨a5, c5, rfl, _, _⟩ := ho.len
  rw [numsTo_len]
  rw [numsTo_len] at ho
  have hal := al_b w3 (.cells Z 22)
  have hb4 := hb3.trans (hal.mono hb3.size)
  have HO := Lib.hid (ho.below hal)
  have HA4 := Lib.hid (Ar.new w3 Z 22)
  have HR4 := Lib.hid (HR2.out.below hb4); have HX4 := Lib.hid (HX2.out.below hb4)
  have HB4 := Lib.hid (HB2.out.trans (hb4.mono (by have := HB2.out.size; rw [HSE.out]; exact this)))
  have HAS := Lib.hid (show s + 1 < w3.heap.size from Nat.lt_of_lt_of_le HR2.out.lt hb3.size)
  have HNE := Lib.hid (show ∀ g, (Value.slice a5 d c5).ownBlock = some g → g ≠ w3.heap.size from fun g hg e => by have := (own_at ho hg).2.2; omega)
  clear ho hal hb3 hb4 HR2 HX2 HB2
  go_wp2_with (refine wpList_load_of rfl (.tmp 14) rfl rfl HX4.out ?_)
  obtain ⟨q, hq⟩ : ∃ q, q = w3.heap.size := ⟨_, rfl⟩
  rw [← hq] at HA4 HAS HNE ⊢
  generalize (w3.alloc (.cells Z 22)) = W4 at *
  clear hq
  go_loopw [16] (fun i wr => ∃ c : Nat, c ≤ 256 ∧ i = .int .i64 c ∧ ∃ Y, Ar wr q Y 22 ∧ Hid (IsA Y (gqTo m c)) ∧ Alike (fun k => k = q) W4 wr) (fun i _ => 256 - (intOf i).toNat)
  case atStart => exact ⟨0, by omega, rfl, Z, HA4.out, Lib.hid (HZ.out.congr fun i hi => by simp [gqTo]), Alike.refl _ _⟩
  case round =>
    obtain ⟨c, hc, rfl, Y, hA, HY, hal⟩ := hrel
    have HAL := Lib.hid hal; have HA := Lib.hid hA
    have HR := Lib.hid (hal.ar HR4.out (by have := HAS.out; omega))
    clear hal
    by_cases hlt : c < 256
    · have hoi : OI wr w2.heap.size (.slice a5 d c5) (numsTo (rowsE m m.nx.length) d) := by
        have := HO.out
        unfold OI at *
        rw [numsTo_len] at *
        exact own_keep this fun g hg => HAL.out.block g (fun e => HNE.out g hg e) (own_at this hg).2.2
      have hofd : m.of c < d := by have := HOK.out.cls' hlt; have := HD.out; omega
      obtain ⟨b9, o9, rfl, _, x1⟩ := hoi.is.cell (i := m.of c) (by rw [numsTo_len]; exact hofd)
      rw [numsTo_at _ hofd] at x1
      have x1 : wr.cell? ⟨b9, o9 + m.of c, none⟩ = some (.int .i64 (gQ m c : Nat)) := x1
      have hg : gQ m c < 256 := by have := nm_le (E := rowsE m m.nx.length) (m.of c); unfold gQ; omega
      have hs2 := gqTo_set HY.out
      have hri : ∀ w, (Instr.index 22 (.agg (ofC C)) (.int .i64 (c : Nat))).run Tryd.prog w = .ok (.int .u8 (m.of c : Nat)) w := fun w => run_aidx HX4.out.is.isA hlt w
      obtain ⟨q2, hq⟩ : ∃ q, q = m.of c := ⟨_, rfl⟩
      obtain ⟨g, hge⟩ : ∃ g, g = gQ m c := ⟨_, rfl⟩
      rw [← hq] at x1 hofd hri
      rw [← hge] at x1 hg hs2
      have HS2 := Lib.hid hs2
      have hwr : IntKind.u8.wrap (g : Int) = (g : Int) := wrap_u8 hg
      have hfz := HA.out.frozen c
      obtain ⟨u, hck⟩ : ∃ u, wr.cell? ⟨q, c, none⟩ = some u := ⟨_, HA.out.cell HY.out hlt⟩
      have HLT := Lib.hid hlt
      clear hoi hs2 hq hge hA
      go_wp2_with fail
      exact ⟨⟨c + 1, HLT.out, by go_num, _, HA.out.set c _, HS2, HAL.out.cell rfl c _⟩, by have := HLT.out; simp [intOf]; omega⟩
    · have hcc : c = 256 := by omega
      subst hcc
      have HYG := Lib.hid (HY.out.congr (g := gQ m) fun i hi => by simp [gqTo, hi])
      have HG := Lib.hid (show ∀ b, b < 256 → gQ m b < 256 from fun b hb => by have := nm_le (E := rowsE m m.nx.length) (m.of b); have := HOK.out.cls' hb; have := HD.out; unfold gQ; omega)
      clear hlt hc hA
      go_wp2_with (refine wpList_load_arr rfl 22 (.tmp 5) rfl rfl HA.out HY.out.size Tryd.underlying22 infoA ?_)
      refine (Norm_any HYG.out HG.out wr).mono ?_
      rintro e w5 ⟨N, rfl, hN, hb5⟩
      rw [gQ_eq] at hN ⊢
      have HN := Lib.hid hN
      have HR5 := Lib.hid (HR.out.below hb5)
      have hs3 : s ≤ W4.heap.size := by have := HB4.out.size; rw [HSE.out]; exact this
      have HB5 := Lib.hid ((HB4.out.trans ((HAL.out.below (n := s) (by intro k hk; have := HAS.out; omega) hs3))).trans (hb5.mono (Nat.le_trans hs3 HAL.out.size)))
      clear hs3
      clear hN hb5
      go_wp2_with (refine wpList_store_arr rfl 22 (.tmp 2) (.tmp 30) rfl rfl rfl HR5.out HZ.out.size HN.out infoA ?_; simp only [Act.put])
      have hld := (HR5.out.row N).loadVar (P := Tryd.prog) HN.out.size Tryd.underlying22 infoA
      refine bodyPost_ret (v := .tuple #[.agg N, .int .i64 (rk (colE m) 256 : Nat)]) ?_ rfl ⟨N, by rw [HE.out.1], by rw [HE.out.2]; exact HN.out, by rw [← HSE.out]; exact below_row HB5.out (by omega) N⟩
      rw [results_cell_tmp rfl]
      simp [asAddr, Result.andThen, hld]
end Go.Proofs.YthefhkgjadfhgaaDoor.DfaW
