/- BitsetDoes: the walk. -/
import Derived.Test.YtgmeomhddpmpbaaDoorDoes
import Derived.Test.YtgmeomhddpmpbaaDoorRegionT2
import Derived.Deep.CutRange
import Derived.Deep.CutBlock
import Derived.Deep.RegionWith
import Derived.Deep.RegionHeld3
import Derived.Deep.DeepCutAuto
namespace Go.Proofs.YtgmeomhddpmpbaaDoor.BitsW
set_option linter.unusedVariables false
open Go.RowKit Go.Shelf Go.Proofs.YtgmeomhddpmpbaaDoor.SetM Go.Proofs.YtgmeomhddpmpbaaDoor.RegionU

theorem nsl_empty (w : World) (n : Nat) : NSl w (.slice none 0 0) (upTo emptyF n) := by
  have : upTo emptyF n = [] := upTo_none (fun _ _ => rfl)
  rw [this]
  exact ⟨none, 0, rfl, fun j hj => by simp at hj⟩
set_option maxRecDepth 100000 in
set_option maxHeartbeats 8000000 in
theorem BitsetDoes_main (n m : Nat) (v : Value) (l : List OpT) (hn : n ≤ 1048576) (hm : m ≤ 1048576) (w : World) (he : EnvC w) (hl : OSl w v l) (h60 : l.length ≤ 60) :
    Calls Tryd.prog 3 #[.int .i64 n, .int .i64 m, v] w fun e w' => e = .returned (.bool true) ∧ Below w.heap.size w w' := by
  have hg := he.lt
  have HE := Lib.hid he
  obtain ⟨a, cap, rfl, -, hc⟩ := hl
  have HC := Lib.hid hc
  clear he hc
  generalize hk : l.length = k at *
  have HK := Lib.hid hk
  clear hk
  have g1 : decide ((0 : Int) ≤ (n : Int)) = true := by simp
  have g2 : decide ((n : Int) ≤ 1048576) = true := by simp; omega
  have g3 : decide ((0 : Int) ≤ (m : Int)) = true := by simp
  have g4 : decide ((m : Int) ≤ 1048576) = true := by simp; omega
  go_enter Tryd.func3, Tryd.ntmps3
  go_wp2_with fail
  refine (New_yes n _ hn).mono ?_
  rintro e w1 (⟨-, pa, qa, hpa, hqa, rfl, hB, hb⟩ | ⟨h, _⟩)
  · rw [Int.toNat_natCast] at hB
    have H1 := Lib.hid (show Own1 w w1 pa qa n emptyF from ⟨hB, HE.out.below hg hb, hb, hpa, hqa⟩)
    have hlt1 := hB.lt
    clear hB hb HE
    go_wp2_with fail
    refine (New_yes m _ hm).mono ?_
    rintro e w2 (⟨-, pb, qb, hpb, hqb, rfl, hB, hb⟩ | ⟨h, _⟩)
    · rw [Int.toNat_natCast] at hB
      have H2 := Lib.hid (H1.out.next hg hb)
      have G2 := Lib.hid (show Own1 w w2 pb qb m emptyF from ⟨hB, H2.out.env, H2.out.b, Nat.le_trans H1.out.b.size hpb, Nat.le_trans H1.out.b.size hqb⟩)
      have d1 : qa ≠ pb := by omega
      have d2 : qa ≠ qb := by omega
      have d3 : qb ≠ pa := by omega
      have d4 : qb ≠ qa := by omega
      clear hB hb H1 hlt1 hpb hqb
      have hx0 := (Box2.new w2 n (.slice none 0 0)).alloc (.cells #[.int .i64 m, .slice none 0 0] 30)
      have hy0 := Box2.new (w2.alloc (.cells #[.int .i64 n, .slice none 0 0] 30)) m (.slice none 0 0)
      rw [World.size_alloc] at hy0
      have hal : Below w2.heap.size w2 ((w2.alloc (.cells #[.int .i64 n, .slice none 0 0] 30)).alloc (.cells #[.int .i64 m, .slice none 0 0] 30)) := ((Below.refl _ _).alloc (Nat.le_refl _) _).alloc (by simp) _
      have hws := H2.out.b.size
      have HT := Lib.hid (show Two w ((w2.alloc (.cells #[.int .i64 n, .slice none 0 0] 30)).alloc (.cells #[.int .i64 m, .slice none 0 0] 30)) (ptr pa) (ptr pb) w2.heap.size (w2.heap.size + 1) from
        ⟨pa, qa, n, emptyF, _, pb, qb, m, emptyF, _, rfl, rfl, ⟨H2.out.next hg hal, hx0, nsl_empty _ n, hws⟩, ⟨G2.out.next hg hal, hy0, nsl_empty _ m, by omega⟩, ⟨d1, d2, d3⟩, by omega⟩)
      clear hx0 hy0 hal H2 G2 d1 d2 d3 d4 hqa hpa
      go_wp2_with fail
      generalize (w2.alloc (.cells #[.int .i64 n, .slice none 0 0] 30)).alloc (.cells #[.int .i64 m, .slice none 0 0] 30) = W0 at *
      have hXY : w.heap.size ≤ w2.heap.size := hws
      generalize w2.heap.size = X at *
      go_loopw [7, 9, 13] (fun ca cb i wr => ∃ j : Nat, j ≤ k ∧ i = .int .i64 j ∧ Two w wr ca cb X (X + 1)) (fun _ _ i _ => k - (intOf i).toNat)
      case atStart => exact ⟨0, Nat.zero_le _, rfl, HT.out⟩
      case round =>
        obtain ⟨j, hj, rfl, hT⟩ := hrel
        by_cases hlt : j < k
        · obtain ⟨b, o, x, rfl, hc0, hc1, hc2, hx⟩ := HC.out j hlt
          obtain ⟨pa, qa, ra, fa, va, pb, qb, rb, fb, vb, rfl, rfl, hA, hB, hd, hne⟩ := hT
          obtain ⟨aa, la, ca, rfl⟩ : ∃ aa la ca, va = .slice aa la ca := by obtain ⟨aa, ca, h, _⟩ := hA.l; exact ⟨aa, _, ca, h⟩
          obtain ⟨ab, lb, cb, rfl⟩ : ∃ ab lb cb, vb = .slice ab lb cb := by obtain ⟨ab, cb, h, _⟩ := hB.l; exact ⟨ab, _, cb, h⟩
          have HA := Lib.hid hA; have HB := Lib.hid hB; have HD := Lib.hid hd
          have HOLD := Lib.hid (fun (Z : World) (hZ : Below wr.heap.size wr Z) => (show (Z.cell? ⟨X, 0, none⟩ = some (.int .i64 ra) ∧ Z.cell? ⟨X, 1, none⟩ = some (.slice aa la ca)) ∧ Z.cell? ⟨X + 1, 0, none⟩ = some (.int .i64 rb) ∧ Z.cell? ⟨X + 1, 1, none⟩ = some (.slice ab lb cb) from
            ⟨⟨(hA.x.below hZ).c0, (hA.x.below hZ).c1⟩, (hB.x.below hZ).c0, (hB.x.below hZ).c1⟩))
          have e0 : wr.drew.cell? ⟨X, 0, none⟩ = some (.int .i64 ra) := hA.x.c0
          have e1 : wr.drew.cell? ⟨X, 1, none⟩ = some (.slice aa la ca) := hA.x.c1
          have e2 : wr.drew.cell? ⟨X + 1, 0, none⟩ = some (.int .i64 rb) := hB.x.c0
          have e3 : wr.drew.cell? ⟨X + 1, 1, none⟩ = some (.slice ab lb cb) := hB.x.c1
          clear hA hB hd
          go_wp2_with fail
          go_cut [14, 15, 16, 17] from 79 to 234 (fun c d u v wx => ∃ U V : Nat, c = ptr pa ∧ d = ptr pb ∧ u = ptr U ∧ v = ptr V ∧ Below wr.heap.size wr wx ∧ Box2 wx U ra (.slice aa la ca) ∧ Box2 wx V rb (.slice ab lb cb) ∧ (w.heap.size ≤ U ∧ w.heap.size ≤ V) ∧ (U ≠ X ∧ U ≠ X + 1 ∧ V ≠ X ∧ V ≠ X + 1 ∧ U ≠ V))
          case first =>
            as_aux_lemma =>
              go_region_held3 (fun Z => (Z.cell? ⟨X, 0, none⟩ = some (.int .i64 ra) ∧ Z.cell? ⟨X, 1, none⟩ = some (.slice aa la ca)) ∧ Z.cell? ⟨X + 1, 0, none⟩ = some (.int .i64 rb) ∧ Z.cell? ⟨X + 1, 1, none⟩ = some (.slice ab lb cb))
                (first | (exact HOLD.out _ (Below.refl _ _).drew) | (exact HOLD.out _ ((Below.refl _ _).alloc (Nat.le_refl _) _)) | (exact HOLD.out _ ((Below.refl _ _).alloc (Nat.le_refl _) _).drew) | (exact HOLD.out _ (((Below.refl _ _).alloc (Nat.le_refl _) _).alloc (by simp) _)) | (exact HOLD.out _ (((Below.refl _ _).alloc (Nat.le_refl _) _).alloc (by simp) _).drew))
                (first | fail)
              all_goals
                go_wp2_with fail
                go_meet
                have hs := HA.out.o.b.size
                have hxl := HA.out.x.lt
                have hyl := HB.out.x.lt
              next =>
                have hb : Below wr.heap.size wr ((wr.alloc (.cells #[.int .i64 ra, .slice aa la ca] 30)).alloc (.cells #[.int .i64 rb, .slice ab lb cb] 30)).drew := (((Below.refl _ _).alloc (Nat.le_refl _) _).alloc (by simp) _).drew
                have hy := Box2.new (wr.alloc (.cells #[.int .i64 ra, .slice aa la ca] 30)) rb (.slice ab lb cb)
                rw [World.size_alloc] at hy
                exact ⟨wr.heap.size, wr.heap.size + 1, rfl, rfl, rfl, rfl, hb, ((Box2.new wr ra (.slice aa la ca)).alloc _), hy, ⟨hs, by omega⟩, by omega, by omega, by omega, by omega, by omega⟩
              next =>
                have hb : Below wr.heap.size wr ((wr.alloc (.cells #[.int .i64 rb, .slice ab lb cb] 30)).alloc (.cells #[.int .i64 ra, .slice aa la ca] 30)).drew := (((Below.refl _ _).alloc (Nat.le_refl _) _).alloc (by simp) _).drew
                have hy := Box2.new (wr.alloc (.cells #[.int .i64 rb, .slice ab lb cb] 30)) ra (.slice aa la ca)
                rw [World.size_alloc] at hy
                exact ⟨wr.heap.size + 1, wr.heap.size, rfl, rfl, rfl, rfl, hb, hy, ((Box2.new wr rb (.slice ab lb cb)).alloc _), ⟨by omega, hs⟩, by omega, by omega, by omega, by omega, by omega⟩
          case rest =>
            obtain ⟨U, V, rfl, rfl, rfl, rfl, hbw, hbu, hbv, ⟨hu, hv⟩, hn1, hn2, hn3, hn4, hn5⟩ := hcut
            have HA1 := Lib.hid (HA.out.next hg hbw); have HB1 := Lib.hid (HB.out.next hg hbw)
            have HBU := Lib.hid hbu; have HBV := Lib.hid hbv
            clear HOLD e0 e1 e2 e3 HA HB hbw hbu hbv
            have d1 := (HA1.out.o.b.cell (p := ⟨b, o + j * 3 + 1, none⟩) (World.block_lt_of_cell? _ _ hc1)).trans hc1
            go_upto_if 93 with fail
            go_cut [14, 15] from 79 to 234 (fun c d wx => Four w wx c d U V X (X + 1))
            case first =>
              as_aux_lemma =>
                cases hxo : x.other
                · rw [hxo] at d1
                  go_wp2_with fail
                  go_meet
                  exact ⟨⟨pa, qa, ra, fa, _, pb, qb, rb, fb, _, rfl, rfl, ⟨HA1.out.o, HBU.out, HA1.out.l, hu⟩, ⟨HB1.out.o, HBV.out, HB1.out.l, hv⟩, HD.out, hn5⟩, ⟨HA1.out.u, _, _, HA1.out.x⟩, ⟨HB1.out.u, _, _, HB1.out.x⟩, hn1, hn2, hn3, hn4, by omega⟩
                · rw [hxo] at d1
                  have y0 := HA1.out.x.c0
                  have y1 := HA1.out.x.c1
                  have y2 := HB1.out.x.c0
                  have y3 := HB1.out.x.c1
                  have y0' : wc.drew.cell? ⟨X, 0, none⟩ = some (.int .i64 ra) := y0
                  have y1' : wc.drew.cell? ⟨X, 1, none⟩ = some (.slice aa la ca) := y1
                  have y2' : wc.drew.cell? ⟨X + 1, 0, none⟩ = some (.int .i64 rb) := y2
                  have y3' : wc.drew.cell? ⟨X + 1, 1, none⟩ = some (.slice ab lb cb) := y3
                  have z0 := HBU.out.c0
                  have z1 := HBU.out.c1
                  have z2 := HBU.out.f0
                  have z3 := HBU.out.f1
                  have v0 := HBV.out.c0
                  have v1 := HBV.out.c1
                  have v2 := HBV.out.f0
                  have v3 := HBV.out.f1
                  have KU := Lib.hid (keep4d (keep4 (U := U) (x := .int .i64 rb) (y := .slice ab lb cb) ⟨⟨y0, y1⟩, y2, y3⟩ (fun e => hn1 e.symm) (fun e => hn2 e.symm)))
                  have KV := Lib.hid (keep4d (keep4 (U := V) (x := .int .i64 ra) (y := .slice aa la ca) ⟨⟨y0, y1⟩, y2, y3⟩ (fun e => hn3 e.symm) (fun e => hn4 e.symm)))
                  have KUV := Lib.hid (keep4d (keep4 (U := V) (x := .int .i64 ra) (y := .slice aa la ca) (keep4 (U := U) (x := .int .i64 rb) (y := .slice ab lb cb) ⟨⟨y0, y1⟩, y2, y3⟩ (fun e => hn1 e.symm) (fun e => hn2 e.symm)) (fun e => hn3 e.symm) (fun e => hn4 e.symm)))
                  have KVU := Lib.hid (keep4d (keep4 (U := U) (x := .int .i64 rb) (y := .slice ab lb cb) (keep4 (U := V) (x := .int .i64 ra) (y := .slice aa la ca) ⟨⟨y0, y1⟩, y2, y3⟩ (fun e => hn3 e.symm) (fun e => hn4 e.symm)) (fun e => hn1 e.symm) (fun e => hn2 e.symm)))
                  go_wp2_with fail
                  go_region_held3 (fun Z => (Z.cell? ⟨X, 0, none⟩ = some (.int .i64 ra) ∧ Z.cell? ⟨X, 1, none⟩ = some (.slice aa la ca)) ∧ Z.cell? ⟨X + 1, 0, none⟩ = some (.int .i64 rb) ∧ Z.cell? ⟨X + 1, 1, none⟩ = some (.slice ab lb cb))
                    (first | (with_reducible exact ⟨⟨y0', y1'⟩, y2', y3'⟩) | (with_reducible exact KU.out) | (with_reducible exact KV.out) | (with_reducible exact KUV.out) | (with_reducible exact KVU.out))
                    (first | fail)
                  all_goals
                    go_wp2_with fail
                    go_meet
                    have hT := (Two.into HB1.out HA1.out ⟨HD.out.2.2, fun e => HD.out.2.1 e.symm, HD.out.1⟩ hg HBU.out HBV.out hu hv hn5 (fun e => hn1 e.symm)).drew hg
                    exact ⟨hT, (((show Boxed2 w wc X from ⟨HA1.out.u, _, _, HA1.out.x⟩).boxset (fun e => hn1 e.symm)).boxset (fun e => hn3 e.symm)).drew, (((show Boxed2 w wc (X + 1) from ⟨HB1.out.u, _, _, HB1.out.x⟩).boxset (fun e => hn2 e.symm)).boxset (fun e => hn4 e.symm)).drew, hn1, hn2, hn3, hn4, by omega⟩
            case rest =>
              clear HA1 HB1 HBU HBV d1 HD hn1 hn2 hn3 hn4 hn5
              obtain ⟨⟨pc, qc, rc, fc, vc, pd, qd, rd, fd, vd, rfl, rfl, hC, hDD, hdi, hUV⟩, hX, hY, hn⟩ := hcut
              obtain ⟨ac, lc, cc, rfl⟩ : ∃ ac lc cc, vc = .slice ac lc cc := by obtain ⟨ac, cc, h, _⟩ := hC.l; exact ⟨ac, _, cc, h⟩
              obtain ⟨ad, ld, cd, rfl⟩ : ∃ ad ld cd, vd = .slice ad ld cd := by obtain ⟨ad, cd, h, _⟩ := hDD.l; exact ⟨ad, _, cd, h⟩
              have hbl := World.block_lt_of_cell? _ _ hc0
              have f0 := (hC.o.b.cell (p := ⟨b, o + j * 3, none⟩) hbl).trans hc0
              have HC2 := Lib.hid hc2
              have HC1 := Lib.hid hc1
              have HC := Lib.hid hC; have HDD := Lib.hid hDD; have HDI := Lib.hid hdi; have HX := Lib.hid hX; have HY := Lib.hid hY; have HN := Lib.hid hn
              clear hC hDD hdi hX hY hn hc0 hc1 hc2
              go_upto_block 2 with fail
              go_cut [14, 18, 19] from 79 to 234 (fun c is was wx => ∃ z : Bool, is = .bool z ∧ was = .bool z ∧ Four w wx c (ptr pd) U V X (X + 1))
              case first =>
                as_aux_lemma =>
                  by_cases k0 : x.kind = 0
                  · rw [k0] at f0
                    have g2 := (HC.out.o.b.cell (p := ⟨b, o + j * 3 + 2, none⟩) hbl).trans HC2.out
                    go_wp2_with fail
                    refine (Put_any pc qc rc fc x.i _ HC.out.o.bt).mono ?_
                    rintro e w3 ⟨rfl, hB3, hb3⟩
                    have HO := Lib.hid (HC.out.o.write hg hb3 hB3)
                    have HXU := Lib.hid (HC.out.x.write HC.out.o.bt hb3)
                    have HL := Lib.hid (HC.out.l.write HC.out.o.bt hb3)
                    have HD3 := Lib.hid (HDD.out.other hg HC.out.o hb3 HDI.out.1 HDI.out.2.1)
                    have HX3 := Lib.hid (HX.out.write HC.out.o.bt hb3)
                    have HY3 := Lib.hid (HY.out.write HC.out.o.bt hb3)
                    have HIN := Lib.hid HC.out.o.bt.into
                    have HRM := Lib.hid HC.out.o.bt.room
                    have HUU := Lib.hid HC.out.u
                    clear hB3 hb3 HC HDD HX HY g2 f0
                    have g2 := (HO.out.b.cell (p := ⟨b, o + j * 3 + 2, none⟩) hbl).trans HC2.out
                    have y0 := HXU.out.c0
                    have y1 := HXU.out.c1
                    go_wp2_with fail
                    go_region_with (first | (go_at_call 9; refine (refPut_set rc _ fc x.i _ (HL.out.below (Below.refl _ _).drew) HIN.out HRM.out).mono ?_; rintro e w4 ⟨v', rfl, hl', hb4⟩; obtain ⟨a', l', c', rfl⟩ : ∃ a' l' c', v' = .slice a' l' c' := (by obtain ⟨a', c', h, _⟩ := hl'; exact ⟨a', _, c', h⟩); have HXW := Lib.hid (HXU.out.drew.below hb4); have z0 := HXW.out.c0; have z1 := HXW.out.c1; have z2 := HXW.out.f0; have z3 := HXW.out.f1; have HL4 := Lib.hid hl'; have HB4 := Lib.hid ((Below.refl _ w3).drew.trans hb4); clear hl' hb4))
                    all_goals
                      go_wp2_with fail
                      go_meet
                      exact ⟨_, rfl, rfl, four_after (HO.out.next hg HB4.out) HXW.out HL4.out HUU.out (HD3.out.next hg HB4.out) HDI.out (HX3.out.next HB4.out) (HY3.out.next HB4.out) HN.out hUV hg⟩
                  by_cases k1 : x.kind = 1
                  · rw [k1] at f0
                    have g2 := (HC.out.o.b.cell (p := ⟨b, o + j * 3 + 2, none⟩) hbl).trans HC2.out
                    go_wp2_with fail
                    refine (Take_any pc qc rc fc x.i _ HC.out.o.bt).mono ?_
                    rintro e w3 ⟨rfl, hB3, hb3⟩
                    have HO := Lib.hid (HC.out.o.write hg hb3 hB3)
                    have HXU := Lib.hid (HC.out.x.write HC.out.o.bt hb3)
                    have HL := Lib.hid (HC.out.l.write HC.out.o.bt hb3)
                    have HD3 := Lib.hid (HDD.out.other hg HC.out.o hb3 HDI.out.1 HDI.out.2.1)
                    have HX3 := Lib.hid (HX.out.write HC.out.o.bt hb3)
                    have HY3 := Lib.hid (HY.out.write HC.out.o.bt hb3)
                    have HIN := Lib.hid HC.out.o.bt.into
                    have HRM := Lib.hid HC.out.o.bt.room
                    have HUU := Lib.hid HC.out.u
                    clear hB3 hb3 HC HDD HX HY g2 f0
                    have g2 := (HO.out.b.cell (p := ⟨b, o + j * 3 + 2, none⟩) hbl).trans HC2.out
                    have y0 := HXU.out.c0
                    have y1 := HXU.out.c1
                    go_wp2_with fail
                    go_region_with (first | (go_at_call 11; refine (refTake_set rc _ fc x.i _ (HL.out.below (Below.refl _ _).drew) HIN.out HRM.out).mono ?_; rintro e w4 ⟨v', rfl, hl', hb4⟩; obtain ⟨a', l', c', rfl⟩ : ∃ a' l' c', v' = .slice a' l' c' := (by obtain ⟨a', c', h, _⟩ := hl'; exact ⟨a', _, c', h⟩); have HXW := Lib.hid (HXU.out.drew.below hb4); have z0 := HXW.out.c0; have z1 := HXW.out.c1; have z2 := HXW.out.f0; have z3 := HXW.out.f1; have HL4 := Lib.hid hl'; have HB4 := Lib.hid ((Below.refl _ w3).drew.trans hb4); clear hl' hb4))
                    all_goals
                      go_wp2_with fail
                      go_meet
                      exact ⟨_, rfl, rfl, four_after (HO.out.next hg HB4.out) HXW.out HL4.out HUU.out (HD3.out.next hg HB4.out) HDI.out (HX3.out.next HB4.out) (HY3.out.next HB4.out) HN.out hUV hg⟩
                  by_cases k2 : x.kind = 2
                  · rw [k2] at f0
                    go_wp2_with fail
                    refine (Or_any pc qc rc fc (some ⟨pd, 0, none⟩) qd rd fd _ HC.out.o.bt (src_of HDD.out.o.bt) HDI.out.2.1).mono ?_
                    rintro e w3 ⟨rfl, hB3, hb3⟩
                    have HO := Lib.hid (HC.out.o.write hg hb3 hB3)
                    have HXU := Lib.hid (HC.out.x.write HC.out.o.bt hb3)
                    have HL := Lib.hid (HC.out.l.write HC.out.o.bt hb3)
                    have HD3 := Lib.hid (HDD.out.other hg HC.out.o hb3 HDI.out.1 HDI.out.2.1)
                    have HX3 := Lib.hid (HX.out.write HC.out.o.bt hb3)
                    have HY3 := Lib.hid (HY.out.write HC.out.o.bt hb3)
                    have HIN := Lib.hid HC.out.o.bt.into
                    have HRM := Lib.hid HC.out.o.bt.room
                    have HUU := Lib.hid HC.out.u
                    clear hB3 hb3 HC HDD HX HY f0
                    have y0 := HXU.out.c0
                    have y1 := HXU.out.c1
                    have u0 := HD3.out.x.c0
                    have u1 := HD3.out.x.c1
                    go_wp2_with fail
                    refine (refOr_any rc rd _ _ fc fd _ HL.out HD3.out.l HIN.out HD3.out.o.bt.into HRM.out HD3.out.o.bt.room).mono ?_
                    rintro e w4 ⟨v', rfl, hl', hb4⟩
                    obtain ⟨a', l', c', rfl⟩ : ∃ a' l' c', v' = .slice a' l' c' := (by obtain ⟨a', c', h, _⟩ := hl'; exact ⟨a', _, c', h⟩)
                    have HXW := Lib.hid (HXU.out.below hb4)
                    have z0 := HXW.out.c0; have z1 := HXW.out.c1; have z2 := HXW.out.f0; have z3 := HXW.out.f1
                    have HL4 := Lib.hid hl'; have HB4 := Lib.hid hb4
                    clear hl' hb4 y0 y1 u0 u1
                    go_wp2_with fail
                    go_meet
                    exact ⟨_, rfl, rfl, four_after (HO.out.next hg HB4.out) HXW.out HL4.out HUU.out (HD3.out.next hg HB4.out) HDI.out (HX3.out.next HB4.out) (HY3.out.next HB4.out) HN.out hUV hg⟩
                  have e0 : (x.kind == 0) = false := by simpa using k0
                  have e1 : (x.kind == 1) = false := by simpa using k1
                  have e2 : (x.kind == 2) = false := by simpa using k2
                  generalize x.kind = kd at *
                  go_wp2_with fail
                  refine (Copy_any pd qd rd fd _ HDD.out.o.bt).mono ?_
                  rintro e w3 ⟨pe, qe, hpe, hqe, rfl, hB3, hb3⟩
                  have HD3 := Lib.hid (HDD.out.next hg hb3)
                  have HO := Lib.hid (show Own1 w w3 pe qe rd fd from ⟨hB3, HD3.out.o.env, HD3.out.o.b, Nat.le_trans HDD.out.o.b.size hpe, Nat.le_trans HDD.out.o.b.size hqe⟩)
                  have HXU := Lib.hid (HC.out.x.below hb3)
                  have HX3 := Lib.hid (HX.out.next hb3)
                  have HY3 := Lib.hid (HY.out.next hb3)
                  have HUU := Lib.hid HC.out.u
                  have HDE := Lib.hid (show qe ≠ pd ∧ qe ≠ qd ∧ qd ≠ pe by have := HDD.out.o.bt.lt; omega)
                  clear hB3 hb3 HC HDD HX HY f0 hpe hqe
                  have z0 := HXU.out.c0; have z1 := HXU.out.c1; have z2 := HXU.out.f0; have z3 := HXU.out.f1
                  have u0 := HD3.out.x.c0
                  have u1 := HD3.out.x.c1
                  go_wp2_with fail
                  go_meet
                  exact ⟨_, rfl, rfl, four_after HO.out HXU.out HD3.out.l HUU.out HD3.out HDE.out HX3.out HY3.out HN.out hUV hg⟩
              case rest =>
                as_aux_lemma =>
                  obtain ⟨z, rfl, rfl, ⟨pc', qc', rc', fc', vc', pd', qd', rd', fd', vd', rfl, e2, hC, hDD, hdi, -⟩, hX, hY, hn⟩ := hcut
                  simp only [ptr, Value.pointer.injEq, Option.some.injEq, Addr.mk.injEq, and_true] at e2
                  subst e2
                  clear HC HDD HDI HX HY HN f0
                  obtain ⟨ae, ce, hve, -⟩ := hC.l
                  obtain ⟨N, hN⟩ : ∃ N, (upTo fc' rc').length = N := ⟨_, rfl⟩
                  rw [hN] at hve
                  subst hve
                  obtain ⟨af, lf, cf, rfl⟩ : ∃ af lf cf, vd' = .slice af lf cf := by obtain ⟨a, c, h, _⟩ := hDD.l; exact ⟨a, _, c, h⟩
                  have hCi := hC.o.bt.into
                  have hDi := hDD.o.bt.into
                  have hCr := hC.o.bt.room
                  have hDr := hDD.o.bt.room
                  obtain ⟨zh, hzh⟩ : ∃ zh, hasI fc' x.i = zh := ⟨_, rfl⟩
                  obtain ⟨zm, hzm⟩ : ∃ zm, meetB rc' fc' fd' = zm := ⟨_, rfl⟩
                  have HR := Lib.hid (fun W (hb : Below wc.heap.size wc W) => ((Room_any pc' qc' rc' fc' W (hC.o.bt.below hb)).mono (fun e w' h => ⟨h.1, h.2 ▸ Below.refl _ _⟩) : Calls Tryd.prog 15 #[ptr pc'] W fun e W' => e = .returned (.int .i64 rc') ∧ Below W.heap.size W W'))
                  have HAL := Lib.hid (fun W (hb : Below wc.heap.size wc W) => ((All_any (some ⟨pc', 0, none⟩) qc' rc' fc' W (src_of (hC.o.bt.below hb)) (hC.o.env.below (Nat.lt_of_lt_of_le hg hC.o.b.size) hb)).mono (fun e w' h => by obtain ⟨u, h1, h2, h3⟩ := h; exact ⟨u, h1, nsl_of h2, h3⟩) : Calls Tryd.prog 17 #[ptr pc'] W fun e W' => ∃ u, e = .returned u ∧ NSl W' u (upTo fc' rc') ∧ R W W'))
                  have HSA := Lib.hid (fun (u : Value) (W : World) (hb : Below wc.heap.size wc W) (h : NSl W u (upTo fc' rc')) => (by
                    have h2 := refSame_any u _ _ _ W h (hC.l.below hb) (Nat.le_trans (upTo_length fc' rc') (by omega)) (Nat.le_trans (upTo_length fc' rc') (by omega))
                    rw [show (upTo fc' rc' == upTo fc' rc') = true by simp] at h2
                    exact h2 : Calls Tryd.prog 16 #[u, .slice ae N ce] W fun e W' => e = .returned (.bool true) ∧ Below W.heap.size W W'))
                  have HCN := Lib.hid (fun W (hb : Below wc.heap.size wc W) => (by
                    have h2 := Count_any (some ⟨pc', 0, none⟩) qc' rc' fc' W (src_of (hC.o.bt.below hb))
                    rw [hN] at h2
                    exact h2 : Calls Tryd.prog 18 #[ptr pc'] W fun e W' => e = .returned (.int .i64 N) ∧ Below W.heap.size W W'))
                  have HHA := Lib.hid (fun W (hb : Below wc.heap.size wc W) => (by
                    have h2 := Has_any pc' qc' rc' fc' x.i W (hC.o.bt.below hb)
                    rw [hzh] at h2
                    exact h2 : Calls Tryd.prog 19 #[ptr pc', .int .i64 x.i] W fun e W' => e = .returned (.bool zh) ∧ Below W.heap.size W W'))
                  have HRH := Lib.hid (fun W (hb : Below wc.heap.size wc W) => (by
                    have h2 := refHas_any rc' (.slice ae N ce) _ x.i W (hC.l.below hb) (Nat.le_trans (upTo_length fc' rc') (by omega))
                    rw [lhas_upTo hCi, hzh] at h2
                    exact h2 : Calls Tryd.prog 20 #[RV rc' (.slice ae N ce), .int .i64 x.i] W fun e W' => e = .returned (.bool zh) ∧ Below W.heap.size W W'))
                  have HM := Lib.hid (fun W (hb : Below wc.heap.size wc W) => (by
                    have h2 := Meets_any pc' qc' rc' fc' (some ⟨pd, 0, none⟩) qd' rd' fd' W (hC.o.bt.below hb) (src_of (hDD.o.bt.below hb))
                    rw [hzm] at h2
                    exact h2 : Calls Tryd.prog 21 #[ptr pc', ptr pd] W fun e W' => e = .returned (.bool zm) ∧ Below W.heap.size W W'))
                  have HRM := Lib.hid (fun W (hb : Below wc.heap.size wc W) => (by
                    have h2 := refMeets_any rc' rd' (.slice ae N ce) (.slice af lf cf) _ _ W (hC.l.below hb) (hDD.l.below hb) (upTo_le hCr) (upTo_le hDr)
                    rw [meet_all hCi hDi, hzm] at h2
                    exact h2 : Calls Tryd.prog 22 #[RV rc' (.slice ae N ce), RV rd' (.slice af lf cf)] W fun e W' => e = .returned (.bool zm) ∧ Below W.heap.size W W'))
                  obtain ⟨zk, hzk⟩ : ∃ zk, (upTo fc' rc' == upTo fd' rd') = zk := ⟨_, rfl⟩
                  have HSB := Lib.hid (fun W (hb : Below wc.heap.size wc W) => (by
                    have h2 := refSame_any _ _ _ _ W (hC.l.below hb) (hDD.l.below hb) (Nat.le_trans (upTo_length fc' rc') (by omega)) (Nat.le_trans (upTo_length fd' rd') (by omega))
                    rw [hzk] at h2
                    exact h2 : Calls Tryd.prog 16 #[.slice ae N ce, .slice af lf cf] W fun e W' => e = .returned (.bool zk) ∧ Below W.heap.size W W'))
                  have hkk := keys_same hCr hDr hCi hDi
                  rw [hzk] at hkk
                  obtain ⟨KA1, hKA1⟩ : ∃ K, keyOf fc' rc' = K := ⟨_, rfl⟩
                  obtain ⟨KB1, hKB1⟩ : ∃ K, keyOf fd' rd' = K := ⟨_, rfl⟩
                  rw [hKA1, hKB1] at hkk
                  have HKK := Lib.hid hkk
                  have HK1 := Lib.hid (fun W (hb : Below wc.heap.size wc W) => (by
                    have h2 := Key_any (some ⟨pc', 0, none⟩) qc' rc' fc' W (src_of (hC.o.bt.below hb))
                    rw [hKA1] at h2
                    exact h2 : Calls Tryd.prog 23 #[ptr pc'] W fun e W' => e = .returned (.string KA1) ∧ Below W.heap.size W W'))
                  have HK2 := Lib.hid (fun W (hb : Below wc.heap.size wc W) => (by
                    have h2 := Key_any (some ⟨pd, 0, none⟩) qd' rd' fd' W (src_of (hDD.o.bt.below hb))
                    rw [hKB1] at h2
                    exact h2 : Calls Tryd.prog 23 #[ptr pd] W fun e W' => e = .returned (.string KB1) ∧ Below W.heap.size W W'))
                  have HG := Lib.hid (fun W (hb : Below wc.heap.size wc W) => ((hb.cell (p := ⟨b, o + j * 3 + 2, none⟩) (Nat.lt_of_lt_of_le hbl hC.o.b.size)).trans ((hC.o.b.cell (p := ⟨b, o + j * 3 + 2, none⟩) hbl).trans HC2.out) : W.cell? ⟨b, o + j * 3 + 2, none⟩ = some (.int .i64 x.i)))
                  have HG1 := Lib.hid (fun W (hb : Below wc.heap.size wc W) => ((hb.cell (p := ⟨b, o + j * 3 + 1, none⟩) (Nat.lt_of_lt_of_le hbl hC.o.b.size)).trans ((hC.o.b.cell (p := ⟨b, o + j * 3 + 1, none⟩) hbl).trans HC1.out) : W.cell? ⟨b, o + j * 3 + 1, none⟩ = some (.bool x.other)))
                  have HUP := Lib.hid (k4_up U rc' (.slice ae N ce) V rd' (.slice af lf cf) wc hC.x.lt hDD.x.lt)
                  have HCW := Lib.hid (⟨⟨⟨hC.x.c0, hC.x.c1⟩, hDD.x.c0, hDD.x.c1⟩, (Below.refl _ _).drew⟩ : K4 U rc' (.slice ae N ce) V rd' (.slice af lf cf) wc.drew ∧ Below wc.heap.size wc wc.drew)
                  have HC := Lib.hid hC; have HDD := Lib.hid hDD; have HDI := Lib.hid hdi; have HX := Lib.hid hX; have HY := Lib.hid hY; have HN := Lib.hid hn
                  clear hC hDD hdi hX hY hn hN hCi hDi hCr hDr hzh hzm hzk hkk hKA1 hKB1
                  go_wp2_with fail
                  refine wp_region_U (C := fun W => K4 U rc' (.slice ae N ce) V rd' (.slice af lf cf) W ∧ Below wc.heap.size wc W) (by kernel_rfl) HUP.out HCW.out ?_
                  refine wpU_taken (i := 0) rfl (by kernel_rfl) (by kernel_rfl) (by kernel_rfl) HUP.out ?_
                  apply Exists.intro
                  refine ⟨Or.inl ⟨rfl, fun W hW => ?hy⟩, ?_⟩
                  case hy =>
                    obtain ⟨⟨⟨y0, y1⟩, y2, y3⟩, hb⟩ := hW
                    go_simp
                    exact does_value rfl
                  simp only [Act.put, List.setIfInBounds_toArray, List.set]
                  refine wpU_taken (i := 1) rfl (by kernel_rfl) (by kernel_rfl) (by kernel_rfl) HUP.out ?_
                  apply Exists.intro
                  refine ⟨Or.inl ⟨rfl, fun W hW => ?hy⟩, ?_⟩
                  case hy =>
                    obtain ⟨⟨⟨y0, y1⟩, y2, y3⟩, hb⟩ := hW
                    go_simp
                    exact does_value rfl
                  simp only [Act.put, List.setIfInBounds_toArray, List.set]
                  refine wpU_taken (i := 2) rfl (by kernel_rfl) (by kernel_rfl) (by kernel_rfl) HUP.out ?_
                  apply Exists.intro
                  refine ⟨Or.inl ⟨rfl, fun W hW => ?hy⟩, ?_⟩
                  case hy =>
                    obtain ⟨⟨⟨y0, y1⟩, y2, y3⟩, hb⟩ := hW
                    go_simp
                    exact does_value rfl
                  simp only [Act.put, List.setIfInBounds_toArray, List.set]
                  refine wpU_taken (i := 3) rfl (by kernel_rfl) (by kernel_rfl) (by kernel_rfl) HUP.out ?_
                  apply Exists.intro
                  refine ⟨Or.inl ⟨rfl, fun W hW => ?hy⟩, ?_⟩
                  case hy =>
                    obtain ⟨⟨⟨y0, y1⟩, y2, y3⟩, hb⟩ := hW
                    go_simp
                    exact does_value rfl
                  simp only [Act.put, List.setIfInBounds_toArray, List.set]
                  refine wpU_taken (i := 4) rfl (by kernel_rfl) (by kernel_rfl) (by kernel_rfl) HUP.out ?_
                  apply Exists.intro
                  refine ⟨Or.inl ⟨rfl, fun W hW => ?hy⟩, ?_⟩
                  case hy =>
                    obtain ⟨⟨⟨y0, y1⟩, y2, y3⟩, hb⟩ := hW
                    go_simp
                    exact does_value rfl
                  simp only [Act.put, List.setIfInBounds_toArray, List.set]
                  refine wpU_taken (i := 5) rfl (by kernel_rfl) (by kernel_rfl) (by kernel_rfl) HUP.out ?_
                  apply Exists.intro
                  refine ⟨Or.inl ⟨rfl, fun W hW => ?hy⟩, ?_⟩
                  case hy =>
                    obtain ⟨⟨⟨y0, y1⟩, y2, y3⟩, hb⟩ := hW
                    go_simp
                    try simp only [beq_self_eq_true, bne_self_eq_false, Bool.not_true, Bool.not_false]
                    exact does_value rfl
                  simp only [Act.put, List.setIfInBounds_toArray, List.set]
                  refine wpU_taken (i := 6) rfl (by kernel_rfl) (by kernel_rfl) (by kernel_rfl) HUP.out ?_
                  apply Exists.intro
                  refine ⟨Or.inl ⟨rfl, fun W hW => ?hy⟩, ?_⟩
                  case hy =>
                    obtain ⟨⟨⟨y0, y1⟩, y2, y3⟩, hb⟩ := hW
                    go_simp
                    exact does_value rfl
                  simp only [Act.put, List.setIfInBounds_toArray, List.set]
                  refine wpU_taken (i := 7) rfl (by kernel_rfl) (by kernel_rfl) (by kernel_rfl) HUP.out ?_
                  apply Exists.intro
                  refine ⟨Or.inl ⟨rfl, fun W hW => ?hy⟩, ?_⟩
                  case hy =>
                    obtain ⟨⟨⟨y0, y1⟩, y2, y3⟩, hb⟩ := hW
                    go_simp
                    exact does_value rfl
                  simp only [Act.put, List.setIfInBounds_toArray, List.set]
                  refine wpU_taken (i := 8) rfl (by kernel_rfl) (by kernel_rfl) (by kernel_rfl) HUP.out ?_
                  apply Exists.intro
                  refine ⟨Or.inl ⟨rfl, fun W hW => ?hy⟩, ?_⟩
                  case hy =>
                    obtain ⟨⟨⟨y0, y1⟩, y2, y3⟩, hb⟩ := hW
                    go_simp
                    exact does_value rfl
                  simp only [Act.put, List.setIfInBounds_toArray, List.set]
                  refine wpU_taken (i := 9) rfl (by kernel_rfl) (by kernel_rfl) (by kernel_rfl) HUP.out ?_
                  apply Exists.intro
                  refine ⟨Or.inl ⟨rfl, fun W hW => ?hy⟩, ?_⟩
                  case hy =>
                    obtain ⟨⟨⟨y0, y1⟩, y2, y3⟩, hb⟩ := hW
                    go_simp
                    exact does_call (HR.out W hb)
                  simp only [Act.put, List.setIfInBounds_toArray, List.set]
                  refine wpU_taken (i := 10) rfl (by kernel_rfl) (by kernel_rfl) (by kernel_rfl) HUP.out ?_
                  apply Exists.intro
                  refine ⟨Or.inl ⟨rfl, fun W hW => ?hy⟩, ?_⟩
                  case hy =>
                    obtain ⟨⟨⟨y0, y1⟩, y2, y3⟩, hb⟩ := hW
                    go_simp
                    exact does_value rfl
                  simp only [Act.put, List.setIfInBounds_toArray, List.set]
                  refine wpU_taken (i := 11) rfl (by kernel_rfl) (by kernel_rfl) (by kernel_rfl) HUP.out ?_
                  apply Exists.intro
                  refine ⟨Or.inl ⟨rfl, fun W hW => ?hy⟩, ?_⟩
                  case hy =>
                    obtain ⟨⟨⟨y0, y1⟩, y2, y3⟩, hb⟩ := hW
                    go_simp
                    exact does_value rfl
                  simp only [Act.put, List.setIfInBounds_toArray, List.set]
                  refine wpU_taken (i := 12) rfl (by kernel_rfl) (by kernel_rfl) (by kernel_rfl) HUP.out ?_
                  apply Exists.intro
                  refine ⟨Or.inl ⟨rfl, fun W hW => ?hy⟩, ?_⟩
                  case hy =>
                    obtain ⟨⟨⟨y0, y1⟩, y2, y3⟩, hb⟩ := hW
                    go_simp
                    try simp only [beq_self_eq_true, bne_self_eq_false, Bool.not_true, Bool.not_false]
                    exact does_value rfl
                  simp only [Act.put, List.setIfInBounds_toArray, List.set]
                  refine wpU_taken (i := 13) rfl (by kernel_rfl) (by kernel_rfl) (by kernel_rfl) HUP.out ?_
                  apply Exists.intro
                  refine ⟨Or.inl ⟨rfl, fun W hW => ?hy⟩, ?_⟩
                  case hy =>
                    obtain ⟨⟨⟨y0, y1⟩, y2, y3⟩, hb⟩ := hW
                    go_simp
                    exact does_value rfl
                  simp only [Act.put, List.setIfInBounds_toArray, List.set]
                  refine wpU_taken (i := 14) rfl (by kernel_rfl) (by kernel_rfl) (by kernel_rfl) HUP.out ?_
                  apply Exists.intro
                  refine ⟨Or.inl ⟨rfl, fun W hW => ?hy⟩, ?_⟩
                  case hy =>
                    obtain ⟨⟨⟨y0, y1⟩, y2, y3⟩, hb⟩ := hW
                    go_simp
                    exact does_value rfl
                  simp only [Act.put, List.setIfInBounds_toArray, List.set]
                  refine wpU_taken (i := 15) rfl (by kernel_rfl) (by kernel_rfl) (by kernel_rfl) HUP.out ?_
                  apply Exists.intro
                  refine ⟨Or.inl ⟨rfl, fun W hW => ?hy⟩, ?_⟩
                  case hy =>
                    obtain ⟨⟨⟨y0, y1⟩, y2, y3⟩, hb⟩ := hW
                    go_simp
                    exact does_value rfl
                  simp only [Act.put, List.setIfInBounds_toArray, List.set]
                  refine wpU_taken (i := 17) rfl (by kernel_rfl) (by kernel_rfl) (by kernel_rfl) HUP.out ?_
                  apply Exists.intro
                  refine ⟨Or.inl ⟨rfl, fun W hW => ?hy⟩, ?_⟩
                  case hy =>
                    obtain ⟨⟨⟨y0, y1⟩, y2, y3⟩, hb⟩ := hW
                    go_simp
                    exact does_value rfl
                  simp only [Act.put, List.setIfInBounds_toArray, List.set]
                  refine wpU_taken (i := 18) rfl (by kernel_rfl) (by kernel_rfl) (by kernel_rfl) HUP.out ?_
                  apply Exists.intro
                  refine ⟨Or.inl ⟨rfl, fun W hW => ?hy⟩, ?_⟩
                  case hy =>
                    obtain ⟨⟨⟨y0, y1⟩, y2, y3⟩, hb⟩ := hW
                    go_simp
                    exact does_value rfl
                  simp only [Act.put, List.setIfInBounds_toArray, List.set]
                  refine wpU_one (i := 16) (by kernel_rfl) rfl rfl (fun u W => NSl W u (upTo fc' rc')) (fun u W W' h hr => h.below hr) (fun W hW => ?hy) ?_
                  case hy =>
                    obtain ⟨⟨⟨y0, y1⟩, y2, y3⟩, hb⟩ := hW
                    go_simp
                    exact ⟨rfl, HAL.out W hb⟩
                  intro u
                  simp only [Act.put, List.setIfInBounds_toArray, List.set]
                  refine wpU_taken (i := 19) rfl (by kernel_rfl) (by kernel_rfl) (by kernel_rfl) (HUP.out.and (fun W W' h hr => NSl.below h hr)) ?_
                  apply Exists.intro
                  refine ⟨Or.inl ⟨rfl, fun W hW => ?hy⟩, ?_⟩
                  case hy =>
                    obtain ⟨⟨⟨⟨y0, y1⟩, y2, y3⟩, hb⟩, hu2⟩ := hW
                    go_simp
                    exact does_call (HSA.out u W hb hu2)
                  simp only [Act.put, List.setIfInBounds_toArray, List.set]
                  refine wpU_mono _ _ _ _ _ (fun W h => h.1) ?_
                  refine wpU_taken (i := 20) rfl (by kernel_rfl) (by kernel_rfl) (by kernel_rfl) HUP.out ?_
                  apply Exists.intro
                  refine ⟨Or.inl ⟨rfl, fun W hW => ?hy⟩, ?_⟩
                  case hy =>
                    obtain ⟨⟨⟨y0, y1⟩, y2, y3⟩, hb⟩ := hW
                    go_simp
                    exact does_value rfl
                  simp only [Act.put, List.setIfInBounds_toArray, List.set]
                  refine wpU_taken (i := 21) rfl (by kernel_rfl) (by kernel_rfl) (by kernel_rfl) HUP.out ?_
                  apply Exists.intro
                  refine ⟨Or.inl ⟨rfl, fun W hW => ?hy⟩, ?_⟩
                  case hy =>
                    obtain ⟨⟨⟨y0, y1⟩, y2, y3⟩, hb⟩ := hW
                    go_simp
                    exact does_value rfl
                  simp only [Act.put, List.setIfInBounds_toArray, List.set]
                  refine wpU_taken (i := 22) rfl (by kernel_rfl) (by kernel_rfl) (by kernel_rfl) HUP.out ?_
                  apply Exists.intro
                  refine ⟨Or.inl ⟨rfl, fun W hW => ?hy⟩, ?_⟩
                  case hy =>
                    obtain ⟨⟨⟨y0, y1⟩, y2, y3⟩, hb⟩ := hW
                    go_simp
                    exact does_value rfl
                  simp only [Act.put, List.setIfInBounds_toArray, List.set]
                  refine wpU_taken (i := 23) rfl (by kernel_rfl) (by kernel_rfl) (by kernel_rfl) HUP.out ?_
                  apply Exists.intro
                  refine ⟨Or.inl ⟨rfl, fun W hW => ?hy⟩, ?_⟩
                  case hy =>
                    obtain ⟨⟨⟨y0, y1⟩, y2, y3⟩, hb⟩ := hW
                    go_simp
                    exact does_value rfl
                  simp only [Act.put, List.setIfInBounds_toArray, List.set]
                  refine wpU_taken (i := 24) rfl (by kernel_rfl) (by kernel_rfl) (by kernel_rfl) HUP.out ?_
                  apply Exists.intro
                  refine ⟨Or.inl ⟨rfl, fun W hW => ?hy⟩, ?_⟩
                  case hy =>
                    obtain ⟨⟨⟨y0, y1⟩, y2, y3⟩, hb⟩ := hW
                    go_simp
                    exact does_call (HCN.out W hb)
                  simp only [Act.put, List.setIfInBounds_toArray, List.set]
                  refine wpU_taken (i := 25) rfl (by kernel_rfl) (by kernel_rfl) (by kernel_rfl) HUP.out ?_
                  apply Exists.intro
                  refine ⟨Or.inl ⟨rfl, fun W hW => ?hy⟩, ?_⟩
                  case hy =>
                    obtain ⟨⟨⟨y0, y1⟩, y2, y3⟩, hb⟩ := hW
                    go_simp
                    exact does_value rfl
                  simp only [Act.put, List.setIfInBounds_toArray, List.set]
                  refine wpU_taken (i := 26) rfl (by kernel_rfl) (by kernel_rfl) (by kernel_rfl) HUP.out ?_
                  apply Exists.intro
                  refine ⟨Or.inl ⟨rfl, fun W hW => ?hy⟩, ?_⟩
                  case hy =>
                    obtain ⟨⟨⟨y0, y1⟩, y2, y3⟩, hb⟩ := hW
                    go_simp
                    exact does_value rfl
                  simp only [Act.put, List.setIfInBounds_toArray, List.set]
                  refine wpU_taken (i := 27) rfl (by kernel_rfl) (by kernel_rfl) (by kernel_rfl) HUP.out ?_
                  apply Exists.intro
                  refine ⟨Or.inl ⟨rfl, fun W hW => ?hy⟩, ?_⟩
                  case hy =>
                    obtain ⟨⟨⟨y0, y1⟩, y2, y3⟩, hb⟩ := hW
                    go_simp
                    exact does_value rfl
                  simp only [Act.put, List.setIfInBounds_toArray, List.set]
                  refine wpU_taken (i := 28) rfl (by kernel_rfl) (by kernel_rfl) (by kernel_rfl) HUP.out ?_
                  apply Exists.intro
                  refine ⟨Or.inl ⟨rfl, fun W hW => ?hy⟩, ?_⟩
                  case hy =>
                    obtain ⟨⟨⟨y0, y1⟩, y2, y3⟩, hb⟩ := hW
                    go_simp
                    try simp only [beq_self_eq_true, bne_self_eq_false, Bool.not_true, Bool.not_false]
                    exact does_value rfl
                  simp only [Act.put, List.setIfInBounds_toArray, List.set]
                  refine wpU_taken (i := 29) rfl (by kernel_rfl) (by kernel_rfl) (by kernel_rfl) HUP.out ?_
                  apply Exists.intro
                  refine ⟨Or.inl ⟨rfl, fun W hW => ?hy⟩, ?_⟩
                  case hy =>
                    obtain ⟨⟨⟨y0, y1⟩, y2, y3⟩, hb⟩ := hW
                    go_simp
                    exact does_value rfl
                  simp only [Act.put, List.setIfInBounds_toArray, List.set]
                  refine wpU_taken (i := 30) rfl (by kernel_rfl) (by kernel_rfl) (by kernel_rfl) HUP.out ?_
                  apply Exists.intro
                  refine ⟨Or.inl ⟨rfl, fun W hW => ?hy⟩, ?_⟩
                  case hy =>
                    obtain ⟨⟨⟨y0, y1⟩, y2, y3⟩, hb⟩ := hW
                    go_simp
                    exact does_value rfl
                  simp only [Act.put, List.setIfInBounds_toArray, List.set]
                  refine wpU_taken (i := 31) rfl (by kernel_rfl) (by kernel_rfl) (by kernel_rfl) HUP.out ?_
                  apply Exists.intro
                  refine ⟨Or.inl ⟨rfl, fun W hW => ?hy⟩, ?_⟩
                  case hy =>
                    obtain ⟨⟨⟨y0, y1⟩, y2, y3⟩, hb⟩ := hW
                    go_simp
                    exact does_value rfl
                  simp only [Act.put, List.setIfInBounds_toArray, List.set]
                  refine wpU_taken (i := 32) rfl (by kernel_rfl) (by kernel_rfl) (by kernel_rfl) HUP.out ?_
                  apply Exists.intro
                  refine ⟨Or.inl ⟨rfl, fun W hW => ?hy⟩, ?_⟩
                  case hy =>
                    obtain ⟨⟨⟨y0, y1⟩, y2, y3⟩, hb⟩ := hW
                    go_simp
                    exact does_value rfl
                  simp only [Act.put, List.setIfInBounds_toArray, List.set]
                  refine wpU_taken (i := 33) rfl (by kernel_rfl) (by kernel_rfl) (by kernel_rfl) HUP.out ?_
                  apply Exists.intro
                  refine ⟨Or.inl ⟨rfl, fun W hW => ?hy⟩, ?_⟩
                  case hy =>
                    obtain ⟨⟨⟨y0, y1⟩, y2, y3⟩, hb⟩ := hW
                    go_simp
                    exact does_value rfl
                  simp only [Act.put, List.setIfInBounds_toArray, List.set]
                  refine wpU_taken (i := 34) rfl (by kernel_rfl) (by kernel_rfl) (by kernel_rfl) HUP.out ?_
                  apply Exists.intro
                  refine ⟨Or.inl ⟨rfl, fun W hW => ?hy⟩, ?_⟩
                  case hy =>
                    obtain ⟨⟨⟨y0, y1⟩, y2, y3⟩, hb⟩ := hW
                    go_simp
                    exact does_value rfl
                  simp only [Act.put, List.setIfInBounds_toArray, List.set]
                  refine wpU_taken (i := 35) rfl (by kernel_rfl) (by kernel_rfl) (by kernel_rfl) HUP.out ?_
                  apply Exists.intro
                  refine ⟨Or.inl ⟨rfl, fun W hW => ?hy⟩, ?_⟩
                  case hy =>
                    obtain ⟨⟨⟨y0, y1⟩, y2, y3⟩, hb⟩ := hW
                    go_simp
                    exact does_value rfl
                  simp only [Act.put, List.setIfInBounds_toArray, List.set]
                  refine wpU_taken (i := 36) rfl (by kernel_rfl) (by kernel_rfl) (by kernel_rfl) HUP.out ?_
                  apply Exists.intro
                  refine ⟨Or.inl ⟨rfl, fun W hW => ?hy⟩, ?_⟩
                  case hy =>
                    obtain ⟨⟨⟨y0, y1⟩, y2, y3⟩, hb⟩ := hW
                    have g2 := HG.out W hb
                    go_simp
                    exact does_value rfl
                  simp only [Act.put, List.setIfInBounds_toArray, List.set]
                  refine wpU_taken (i := 37) rfl (by kernel_rfl) (by kernel_rfl) (by kernel_rfl) HUP.out ?_
                  apply Exists.intro
                  refine ⟨Or.inl ⟨rfl, fun W hW => ?hy⟩, ?_⟩
                  case hy =>
                    obtain ⟨⟨⟨y0, y1⟩, y2, y3⟩, hb⟩ := hW
                    go_simp
                    exact does_call (HHA.out W hb)
                  simp only [Act.put, List.setIfInBounds_toArray, List.set]
                  refine wpU_taken (i := 38) rfl (by kernel_rfl) (by kernel_rfl) (by kernel_rfl) HUP.out ?_
                  apply Exists.intro
                  refine ⟨Or.inl ⟨rfl, fun W hW => ?hy⟩, ?_⟩
                  case hy =>
                    obtain ⟨⟨⟨y0, y1⟩, y2, y3⟩, hb⟩ := hW
                    go_simp
                    exact does_value rfl
                  simp only [Act.put, List.setIfInBounds_toArray, List.set]
                  refine wpU_taken (i := 39) rfl (by kernel_rfl) (by kernel_rfl) (by kernel_rfl) HUP.out ?_
                  apply Exists.intro
                  refine ⟨Or.inl ⟨rfl, fun W hW => ?hy⟩, ?_⟩
                  case hy =>
                    obtain ⟨⟨⟨y0, y1⟩, y2, y3⟩, hb⟩ := hW
                    go_simp
                    exact does_value rfl
                  simp only [Act.put, List.setIfInBounds_toArray, List.set]
                  refine wpU_taken (i := 40) rfl (by kernel_rfl) (by kernel_rfl) (by kernel_rfl) HUP.out ?_
                  apply Exists.intro
                  refine ⟨Or.inl ⟨rfl, fun W hW => ?hy⟩, ?_⟩
                  case hy =>
                    obtain ⟨⟨⟨y0, y1⟩, y2, y3⟩, hb⟩ := hW
                    go_simp
                    exact does_value rfl
                  simp only [Act.put, List.setIfInBounds_toArray, List.set]
                  refine wpU_taken (i := 41) rfl (by kernel_rfl) (by kernel_rfl) (by kernel_rfl) HUP.out ?_
                  apply Exists.intro
                  refine ⟨Or.inl ⟨rfl, fun W hW => ?hy⟩, ?_⟩
                  case hy =>
                    obtain ⟨⟨⟨y0, y1⟩, y2, y3⟩, hb⟩ := hW
                    go_simp
                    exact does_value rfl
                  simp only [Act.put, List.setIfInBounds_toArray, List.set]
                  refine wpU_taken (i := 42) rfl (by kernel_rfl) (by kernel_rfl) (by kernel_rfl) HUP.out ?_
                  apply Exists.intro
                  refine ⟨Or.inl ⟨rfl, fun W hW => ?hy⟩, ?_⟩
                  case hy =>
                    obtain ⟨⟨⟨y0, y1⟩, y2, y3⟩, hb⟩ := hW
                    go_simp
                    exact does_value rfl
                  simp only [Act.put, List.setIfInBounds_toArray, List.set]
                  refine wpU_taken (i := 43) rfl (by kernel_rfl) (by kernel_rfl) (by kernel_rfl) HUP.out ?_
                  apply Exists.intro
                  refine ⟨Or.inl ⟨rfl, fun W hW => ?hy⟩, ?_⟩
                  case hy =>
                    obtain ⟨⟨⟨y0, y1⟩, y2, y3⟩, hb⟩ := hW
                    have g2 := HG.out W hb
                    go_simp
                    exact does_value rfl
                  simp only [Act.put, List.setIfInBounds_toArray, List.set]
                  refine wpU_taken (i := 44) rfl (by kernel_rfl) (by kernel_rfl) (by kernel_rfl) HUP.out ?_
                  apply Exists.intro
                  refine ⟨Or.inl ⟨rfl, fun W hW => ?hy⟩, ?_⟩
                  case hy =>
                    obtain ⟨⟨⟨y0, y1⟩, y2, y3⟩, hb⟩ := hW
                    go_simp
                    exact does_call (HRH.out W hb)
                  simp only [Act.put, List.setIfInBounds_toArray, List.set]
                  refine wpU_taken (i := 45) rfl (by kernel_rfl) (by kernel_rfl) (by kernel_rfl) HUP.out ?_
                  apply Exists.intro
                  refine ⟨Or.inl ⟨rfl, fun W hW => ?hy⟩, ?_⟩
                  case hy =>
                    obtain ⟨⟨⟨y0, y1⟩, y2, y3⟩, hb⟩ := hW
                    go_simp
                    try simp only [beq_self_eq_true, bne_self_eq_false, Bool.not_true, Bool.not_false]
                    exact does_value rfl
                  simp only [Act.put, List.setIfInBounds_toArray, List.set]
                  refine wpU_taken (i := 46) rfl (by kernel_rfl) (by kernel_rfl) (by kernel_rfl) HUP.out ?_
                  apply Exists.intro
                  refine ⟨Or.inl ⟨rfl, fun W hW => ?hy⟩, ?_⟩
                  case hy =>
                    obtain ⟨⟨⟨y0, y1⟩, y2, y3⟩, hb⟩ := hW
                    go_simp
                    exact does_value rfl
                  simp only [Act.put, List.setIfInBounds_toArray, List.set]
                  refine wpU_taken (i := 47) rfl (by kernel_rfl) (by kernel_rfl) (by kernel_rfl) HUP.out ?_
                  apply Exists.intro
                  refine ⟨Or.inl ⟨rfl, fun W hW => ?hy⟩, ?_⟩
                  case hy =>
                    obtain ⟨⟨⟨y0, y1⟩, y2, y3⟩, hb⟩ := hW
                    go_simp
                    exact does_value rfl
                  simp only [Act.put, List.setIfInBounds_toArray, List.set]
                  refine wpU_taken (i := 48) rfl (by kernel_rfl) (by kernel_rfl) (by kernel_rfl) HUP.out ?_
                  apply Exists.intro
                  refine ⟨Or.inl ⟨rfl, fun W hW => ?hy⟩, ?_⟩
                  case hy =>
                    obtain ⟨⟨⟨y0, y1⟩, y2, y3⟩, hb⟩ := hW
                    go_simp
                    exact does_value rfl
                  simp only [Act.put, List.setIfInBounds_toArray, List.set]
                  refine wpU_taken (i := 49) rfl (by kernel_rfl) (by kernel_rfl) (by kernel_rfl) HUP.out ?_
                  apply Exists.intro
                  refine ⟨Or.inl ⟨rfl, fun W hW => ?hy⟩, ?_⟩
                  case hy =>
                    obtain ⟨⟨⟨y0, y1⟩, y2, y3⟩, hb⟩ := hW
                    go_simp
                    exact does_value rfl
                  simp only [Act.put, List.setIfInBounds_toArray, List.set]
                  refine wpU_taken (i := 50) rfl (by kernel_rfl) (by kernel_rfl) (by kernel_rfl) HUP.out ?_
                  apply Exists.intro
                  refine ⟨Or.inl ⟨rfl, fun W hW => ?hy⟩, ?_⟩
                  case hy =>
                    obtain ⟨⟨⟨y0, y1⟩, y2, y3⟩, hb⟩ := hW
                    go_simp
                    exact does_call (HM.out W hb)
                  simp only [Act.put, List.setIfInBounds_toArray, List.set]
                  refine wpU_taken (i := 51) rfl (by kernel_rfl) (by kernel_rfl) (by kernel_rfl) HUP.out ?_
                  apply Exists.intro
                  refine ⟨Or.inl ⟨rfl, fun W hW => ?hy⟩, ?_⟩
                  case hy =>
                    obtain ⟨⟨⟨y0, y1⟩, y2, y3⟩, hb⟩ := hW
                    go_simp
                    exact does_value rfl
                  simp only [Act.put, List.setIfInBounds_toArray, List.set]
                  refine wpU_taken (i := 52) rfl (by kernel_rfl) (by kernel_rfl) (by kernel_rfl) HUP.out ?_
                  apply Exists.intro
                  refine ⟨Or.inl ⟨rfl, fun W hW => ?hy⟩, ?_⟩
                  case hy =>
                    obtain ⟨⟨⟨y0, y1⟩, y2, y3⟩, hb⟩ := hW
                    go_simp
                    exact does_value rfl
                  simp only [Act.put, List.setIfInBounds_toArray, List.set]
                  refine wpU_taken (i := 53) rfl (by kernel_rfl) (by kernel_rfl) (by kernel_rfl) HUP.out ?_
                  apply Exists.intro
                  refine ⟨Or.inl ⟨rfl, fun W hW => ?hy⟩, ?_⟩
                  case hy =>
                    obtain ⟨⟨⟨y0, y1⟩, y2, y3⟩, hb⟩ := hW
                    go_simp
                    exact does_call (HRM.out W hb)
                  simp only [Act.put, List.setIfInBounds_toArray, List.set]
                  refine wpU_taken (i := 54) rfl (by kernel_rfl) (by kernel_rfl) (by kernel_rfl) HUP.out ?_
                  apply Exists.intro
                  refine ⟨Or.inl ⟨rfl, fun W hW => ?hy⟩, ?_⟩
                  case hy =>
                    obtain ⟨⟨⟨y0, y1⟩, y2, y3⟩, hb⟩ := hW
                    go_simp
                    try simp only [beq_self_eq_true, bne_self_eq_false, Bool.not_true, Bool.not_false]
                    exact does_value rfl
                  simp only [Act.put, List.setIfInBounds_toArray, List.set]
                  refine wpU_taken (i := 55) rfl (by kernel_rfl) (by kernel_rfl) (by kernel_rfl) HUP.out ?_
                  apply Exists.intro
                  refine ⟨Or.inl ⟨rfl, fun W hW => ?hy⟩, ?_⟩
                  case hy =>
                    obtain ⟨⟨⟨y0, y1⟩, y2, y3⟩, hb⟩ := hW
                    go_simp
                    exact does_value rfl
                  simp only [Act.put, List.setIfInBounds_toArray, List.set]
                  refine wpU_done (by kernel_rfl) ?_
                  intro W0' hW0
                  have HW0 := Lib.hid hW0
                  clear hW0 HCW
                  go_wp2_with fail
                  refine wp_region_U (C := fun W => K4 U rc' (.slice ae N ce) V rd' (.slice af lf cf) W ∧ Below wc.heap.size wc W) (by kernel_rfl) HUP.out (HUP.out W0' _ HW0.out (Below.refl _ _).drew) ?_
                  refine wpU_taken (i := 0) rfl (by kernel_rfl) (by kernel_rfl) (by kernel_rfl) HUP.out ?_
                  apply Exists.intro
                  refine ⟨Or.inl ⟨rfl, fun W hW => ?hy⟩, ?_⟩
                  case hy =>
                    obtain ⟨⟨⟨y0, y1⟩, y2, y3⟩, hb⟩ := hW
                    go_simp
                    exact does_value rfl
                  simp only [Act.put, List.setIfInBounds_toArray, List.set]
                  refine wpU_taken (i := 2) rfl (by kernel_rfl) (by kernel_rfl) (by kernel_rfl) HUP.out ?_
                  apply Exists.intro
                  refine ⟨Or.inl ⟨rfl, fun W hW => ?hy⟩, ?_⟩
                  case hy =>
                    obtain ⟨⟨⟨y0, y1⟩, y2, y3⟩, hb⟩ := hW
                    go_simp
                    exact does_value rfl
                  simp only [Act.put, List.setIfInBounds_toArray, List.set]
                  refine wpU_taken (i := 5) rfl (by kernel_rfl) (by kernel_rfl) (by kernel_rfl) HUP.out ?_
                  apply Exists.intro
                  refine ⟨Or.inl ⟨rfl, fun W hW => ?hy⟩, ?_⟩
                  case hy =>
                    obtain ⟨⟨⟨y0, y1⟩, y2, y3⟩, hb⟩ := hW
                    go_simp
                    exact does_value rfl
                  simp only [Act.put, List.setIfInBounds_toArray, List.set]
                  refine wpU_taken (i := 7) rfl (by kernel_rfl) (by kernel_rfl) (by kernel_rfl) HUP.out ?_
                  apply Exists.intro
                  refine ⟨Or.inl ⟨rfl, fun W hW => ?hy⟩, ?_⟩
                  case hy =>
                    obtain ⟨⟨⟨y0, y1⟩, y2, y3⟩, hb⟩ := hW
                    go_simp
                    exact does_value rfl
                  simp only [Act.put, List.setIfInBounds_toArray, List.set]
                  refine wpU_taken (i := 6) rfl (by kernel_rfl) (by kernel_rfl) (by kernel_rfl) HUP.out ?_
                  apply Exists.intro
                  refine ⟨Or.inl ⟨rfl, fun W hW => ?hy⟩, ?_⟩
                  case hy =>
                    obtain ⟨⟨⟨y0, y1⟩, y2, y3⟩, hb⟩ := hW
                    go_simp
                    exact does_value rfl
                  simp only [Act.put, List.setIfInBounds_toArray, List.set]
                  refine wpU_taken (i := 8) rfl (by kernel_rfl) (by kernel_rfl) (by kernel_rfl) HUP.out ?_
                  apply Exists.intro
                  refine ⟨Or.inl ⟨rfl, fun W hW => ?hy⟩, ?_⟩
                  case hy =>
                    obtain ⟨⟨⟨y0, y1⟩, y2, y3⟩, hb⟩ := hW
                    go_simp
                    exact does_value rfl
                  simp only [Act.put, List.setIfInBounds_toArray, List.set]
                  refine wpU_taken (i := 1) rfl (by kernel_rfl) (by kernel_rfl) (by kernel_rfl) HUP.out ?_
                  apply Exists.intro
                  refine ⟨Or.inl ⟨rfl, fun W hW => ?hy⟩, ?_⟩
                  case hy =>
                    obtain ⟨⟨⟨y0, y1⟩, y2, y3⟩, hb⟩ := hW
                    go_simp
                    exact does_call (HK1.out W hb)
                  simp only [Act.put, List.setIfInBounds_toArray, List.set]
                  refine wpU_taken (i := 3) rfl (by kernel_rfl) (by kernel_rfl) (by kernel_rfl) HUP.out ?_
                  apply Exists.intro
                  refine ⟨Or.inl ⟨rfl, fun W hW => ?hy⟩, ?_⟩
                  case hy =>
                    obtain ⟨⟨⟨y0, y1⟩, y2, y3⟩, hb⟩ := hW
                    go_simp
                    exact does_call (HK2.out W hb)
                  simp only [Act.put, List.setIfInBounds_toArray, List.set]
                  refine wpU_taken (i := 4) rfl (by kernel_rfl) (by kernel_rfl) (by kernel_rfl) HUP.out ?_
                  apply Exists.intro
                  refine ⟨Or.inl ⟨rfl, fun W hW => ?hy⟩, ?_⟩
                  case hy =>
                    have hkk := HKK.out
                    go_simp
                    exact does_value rfl
                  simp only [Act.put, List.setIfInBounds_toArray, List.set]
                  refine wpU_taken (i := 9) rfl (by kernel_rfl) (by kernel_rfl) (by kernel_rfl) HUP.out ?_
                  apply Exists.intro
                  refine ⟨Or.inl ⟨rfl, fun W hW => ?hy⟩, ?_⟩
                  case hy =>
                    obtain ⟨⟨⟨y0, y1⟩, y2, y3⟩, hb⟩ := hW
                    go_simp
                    exact does_call (HSB.out W hb)
                  simp only [Act.put, List.setIfInBounds_toArray, List.set]
                  refine wpU_taken (i := 10) rfl (by kernel_rfl) (by kernel_rfl) (by kernel_rfl) HUP.out ?_
                  apply Exists.intro
                  refine ⟨Or.inl ⟨rfl, fun W hW => ?hy⟩, ?_⟩
                  case hy =>
                    obtain ⟨⟨⟨y0, y1⟩, y2, y3⟩, hb⟩ := hW
                    go_simp
                    try simp only [beq_self_eq_true, bne_self_eq_false, Bool.not_true, Bool.not_false]
                    exact does_value rfl
                  simp only [Act.put, List.setIfInBounds_toArray, List.set]
                  refine wpU_done (by kernel_rfl) ?_
                  intro W1' hW1
                  have HA1 := Lib.hid (HC.out.next hg hW1.2); have HB1 := Lib.hid (HDD.out.next hg hW1.2)
                  have HX1 := Lib.hid (HX.out.next hW1.2); have HY1 := Lib.hid (HY.out.next hW1.2)
                  have g1' := HG1.out W1' hW1.2
                  clear hW1 HW0 HC HDD HX HY HR HAL HSA HCN HHA HRH HM HRM HSB HKK HK1 HK2 HG HG1 HUP
                  obtain ⟨hwx, nx, vx, hbx⟩ := HX1.out
                  obtain ⟨hwy, ny, vy, hby⟩ := HY1.out
                  obtain ⟨hn1, hn2, hn3, hn4, hn5⟩ := HN.out
                  have HBX := Lib.hid hbx; have HBY := Lib.hid hby
                  clear hbx hby HX1 HY1
                  have y0 := HA1.out.x.c0
                  have y1 := HA1.out.x.c1
                  have y2 := HB1.out.x.c0
                  have y3 := HB1.out.x.c1
                  have y0' : W1'.drew.cell? ⟨U, 0, none⟩ = some (.int .i64 rc') := y0
                  have y1' : W1'.drew.cell? ⟨U, 1, none⟩ = some (.slice ae N ce) := y1
                  have y2' : W1'.drew.cell? ⟨V, 0, none⟩ = some (.int .i64 rd') := y2
                  have y3' : W1'.drew.cell? ⟨V, 1, none⟩ = some (.slice af lf cf) := y3
                  have z0 := HBX.out.c0
                  have z1 := HBX.out.c1
                  have z2 := HBX.out.f0
                  have z3 := HBX.out.f1
                  have v0 := HBY.out.c0
                  have v1 := HBY.out.c1
                  have v2 := HBY.out.f0
                  have v3 := HBY.out.f1
                  have KA := Lib.hid (keep4d (keep4 (U := X) (x := .int .i64 rc') (y := .slice ae N ce) ⟨⟨y0, y1⟩, y2, y3⟩ hn1 hn3))
                  have KAB := Lib.hid (keep4d (keep4 (U := X + 1) (x := .int .i64 rd') (y := .slice af lf cf) (keep4 (U := X) (x := .int .i64 rc') (y := .slice ae N ce) ⟨⟨y0, y1⟩, y2, y3⟩ hn1 hn3) hn2 hn4))
                  go_wp2_with fail
                  go_region_held3 (fun Z => (Z.cell? ⟨U, 0, none⟩ = some (.int .i64 rc') ∧ Z.cell? ⟨U, 1, none⟩ = some (.slice ae N ce)) ∧ Z.cell? ⟨V, 0, none⟩ = some (.int .i64 rd') ∧ Z.cell? ⟨V, 1, none⟩ = some (.slice af lf cf))
                    (first | (with_reducible exact ⟨⟨y0', y1'⟩, y2', y3'⟩) | (with_reducible exact KA.out) | (with_reducible exact KAB.out))
                    (first | fail)
                  all_goals
                    obtain ⟨W2, hW2⟩ : ∃ W2, W2 = ((((W1'.setCell ⟨X, 0, none⟩ (.int .i64 rc')).setCell ⟨X, 1, none⟩ (.slice ae N ce)).setCell ⟨X + 1, 0, none⟩ (.int .i64 rd')).setCell ⟨X + 1, 1, none⟩ (.slice af lf cf)).drew := ⟨_, rfl⟩
                    obtain ⟨hT, hU2, hV2⟩ := after32 HA1.out HB1.out HDI.out hg HBX.out HBY.out hwx hwy HN.out W2 hW2
                    clear KA KAB y0 y1 y2 y3 y0' y1' y2' y3' z0 z1 z2 z3 v0 v1 v2 v3 HA1 HB1 HBX HBY g1'
                    simp only [← hW2]
                    clear hW2
                    have g5 := (hT.b.cell (p := ⟨b, o + j * 3 + 1, none⟩) hbl).trans HC1.out
                    cases hxo : x.other
                    · rw [hxo] at g5
                      have HT2 := Lib.hid hT
                      clear hT hU2 hV2
                      go_wp2_with fail
                      exact ⟨⟨j + 1, by omega, by go_num, HT2.out⟩, by simp [intOf]; omega⟩
                    · rw [hxo] at g5
                      obtain ⟨⟨hwx, nx, vx, hbx⟩, hwy, ny, vy, hby⟩ := hT.boxes
                      have HU2 := Lib.hid hU2; have HV2 := Lib.hid hV2
                      have HBX := Lib.hid hbx; have HBY := Lib.hid hby
                      clear hbx hby hU2 hV2 hT
                      have y0 := HU2.out.x.c0
                      have y1 := HU2.out.x.c1
                      have y2 := HV2.out.x.c0
                      have y3 := HV2.out.x.c1
                      have y0' : W2.drew.cell? ⟨U, 0, none⟩ = some (.int .i64 rc') := y0
                      have y1' : W2.drew.cell? ⟨U, 1, none⟩ = some (.slice ae N ce) := y1
                      have y2' : W2.drew.cell? ⟨V, 0, none⟩ = some (.int .i64 rd') := y2
                      have y3' : W2.drew.cell? ⟨V, 1, none⟩ = some (.slice af lf cf) := y3
                      have z0 := HBX.out.c0
                      have z1 := HBX.out.c1
                      have z2 := HBX.out.f0
                      have z3 := HBX.out.f1
                      have v0 := HBY.out.c0
                      have v1 := HBY.out.c1
                      have v2 := HBY.out.f0
                      have v3 := HBY.out.f1
                      have KA := Lib.hid (keep4d (keep4 (U := X) (x := .int .i64 rd') (y := .slice af lf cf) ⟨⟨y0, y1⟩, y2, y3⟩ hn1 hn3))
                      have KAB := Lib.hid (keep4d (keep4 (U := X + 1) (x := .int .i64 rc') (y := .slice ae N ce) (keep4 (U := X) (x := .int .i64 rd') (y := .slice af lf cf) ⟨⟨y0, y1⟩, y2, y3⟩ hn1 hn3) hn2 hn4))
                      go_wp2_with fail
                      go_region_held3 (fun Z => (Z.cell? ⟨U, 0, none⟩ = some (.int .i64 rc') ∧ Z.cell? ⟨U, 1, none⟩ = some (.slice ae N ce)) ∧ Z.cell? ⟨V, 0, none⟩ = some (.int .i64 rd') ∧ Z.cell? ⟨V, 1, none⟩ = some (.slice af lf cf))
                        (first | (with_reducible exact ⟨⟨y0', y1'⟩, y2', y3'⟩) | (with_reducible exact KA.out) | (with_reducible exact KAB.out))
                        (first | fail)
                      all_goals
                        go_wp2_with fail
                        obtain ⟨hT, -, -⟩ := after32 HV2.out HU2.out ⟨HDI.out.2.2, fun e => HDI.out.2.1 e.symm, HDI.out.1⟩ hg HBX.out HBY.out hwx hwy ⟨hn3, hn4, hn1, hn2, hn5⟩ _ rfl
                        exact ⟨⟨j + 1, by omega, by go_num, hT⟩, by simp [intOf]; omega⟩
        · obtain ⟨pa, qa, ra, fa, va, pb, qb, rb, fb, vb, rfl, rfl, hA, hB, hd, hne⟩ := hT
          have HA := Lib.hid hA.o
          clear hA hB hd HC HT
          go_wp2_with fail
          refine (knows_any _ HA.out.env).mono ?_
          rintro e w19 ⟨rfl, hb⟩
          have HA2 := Lib.hid (HA.out.next hg hb)
          clear hb HA
          go_wp2_with fail
          go_ret
          exact ⟨rfl, HA2.out.b⟩
    · exact absurd h (by simp [inR]; omega)
  · exact absurd h (by simp [inR]; omega)
end Go.Proofs.YtgmeomhddpmpbaaDoor.BitsW
