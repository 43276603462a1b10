/- Walk of the document's Right. -/
import Derived.Test.YtfhddbjojpmbcaaMach
import Derived.Test.YtfhddbjojpmbcaaRef1
namespace Go.Proofs.Ytfhddbjojpmbcaa.DfaW
set_option linter.unusedVariables false
open Go.RowKit Go.Maps Go.Proofs.Ytfhddbjojpmbcaa.PartM Go.Proofs.Ytfhddbjojpmbcaa.PartW

theorem mem_take_getD {l : List ByteArray} {i : Nat} (hi : i ≤ l.length) {x : ByteArray} : x ∈ l.take i ↔ ∃ k, k < i ∧ l.getD k ByteArray.empty = x := by
  rw [List.mem_take_iff_getElem]
  constructor
  · rintro ⟨k, hk, rfl⟩
    exact ⟨k, by omega, by simp [List.getD, show k < l.length by omega]⟩
  · rintro ⟨k, hk, rfl⟩
    exact ⟨k, by omega, by simp [List.getD, show k < l.length by omega]⟩
theorem ba_self (a : ByteArray) : (a.toList == a.toList) = true := by simp
theorem ba_ne {a b : ByteArray} (h : a ≠ b) : (a.toList == b.toList) = false := by
  rw [beq_eq_false_iff_ne]
  intro e
  rw [ByteArray.toList_eq, ByteArray.toList_eq] at e
  exact h (Base.ba_ext e)
/-- What the document's first loop has seen. -/
def NamesTo (l : List ByteArray) (i : Nat) : Prop := ∀ j, j < i → nameOk (l.getD j ByteArray.empty) = true ∧ ∀ k, k < j → l.getD k ByteArray.empty ≠ l.getD j ByteArray.empty
theorem NamesTo.ok {l : List ByteArray} : (∀ i, i < l.length → nameOk (l.getD i ByteArray.empty) = true ∧ l.getD i ByteArray.empty ∉ l.take i) ↔ NamesTo l l.length := by
  unfold NamesTo
  constructor
  · intro h j hj
    refine ⟨(h j hj).1, fun k hk e => (h j hj).2 ?_⟩
    rw [mem_take_getD (by omega)]
    exact ⟨k, hk, e⟩
  · intro h j hj
    refine ⟨(h j hj).1, fun hm => ?_⟩
    obtain ⟨k, hk, e⟩ := (mem_take_getD (by omega)).1 hm
    exact (h j hj).2 k hk e
/-- What its third loop has seen. -/
def RowsTo (m : Mc) (i : Nat) : Prop := ∀ j, j < i → RowOk (m.lb.length : Nat) m.wd (m.nx.getD j []) ∧ 0 ≤ m.lb.getD j 0 ∧ m.lb.getD j 0 ≤ (m.nm.length : Nat)
theorem ok_iff {m : Mc} : Ok m ↔ 1 ≤ m.lb.length ∧ m.lb.length ≤ 65536 ∧ m.nx.length = m.lb.length ∧ m.nm.length ≤ 64 ∧ (sameA m.of (PartM.nm (byKey m.of)) && (m.wd == (rk (byKey m.of) 256 : Nat))) = true ∧ NamesTo m.nm m.nm.length ∧ RowsTo m m.lb.length := by
  constructor
  · intro h
    refine ⟨h.lbs.1, h.lbs.2.1, by have := h.rws.1; omega, h.nms.1, by rw [h.cls, h.wd]; simp, NamesTo.ok.1 h.nms.2, fun j hj => ⟨h.rws.2 j (by have := h.rws.1; omega), h.lbs.2.2 j hj⟩⟩
  · rintro ⟨h1, h2, h3, h4, h5, h6, h7⟩
    simp only [Bool.and_eq_true, beq_iff_eq] at h5
    exact ⟨h5.1, h5.2, ⟨h4, NamesTo.ok.2 h6⟩, ⟨h1, h2, fun i hi => (h7 i hi).2⟩, ⟨by omega, fun j hj => (h7 j (by omega)).1⟩⟩

set_option maxRecDepth 100000 in
set_option maxHeartbeats 4000000 in
theorem refRightD_any {C : Array Value} {m : Mc} (w : World) (h : IsM w.heap.size w C m) :
    Calls Try.prog 25 #[.agg C] w fun e w' => Says e (Ok m) ∧ Below w.heap.size w w' := by
  have hx := Bx.new h
  have hb0 : Below w.heap.size w (w.alloc (.cells C 27)) := (Below.refl _ _).alloc (Nat.le_refl _) _
  obtain ⟨v1, x1, hv1⟩ := hx.nx
  obtain ⟨v2, x2, hv2⟩ := hx.lb
  obtain ⟨v3, x3, hv3⟩ := hx.nm
  have x0 := hx.wd
  obtain ⟨a1, c1, rfl, p1, p1', hc1⟩ := hv1.open
  obtain ⟨a2, c2, rfl, p2, p2', hc2⟩ := hv2.open
  obtain ⟨a3, c3, rfl, p3, p3', hc3⟩ := hv3.open
  have hs3 := hv3.2
  obtain ⟨n1, hn1⟩ : ∃ n, n = m.nx.length := ⟨_, rfl⟩
  obtain ⟨n2, hn2⟩ : ∃ n, n = m.lb.length := ⟨_, rfl⟩
  obtain ⟨n3, hn3⟩ : ∃ n, n = m.nm.length := ⟨_, rfl⟩
  have q1 : (n1 : Int) ≤ 9223372036854775807 := by unfold maxLen at p1'; omega
  have q2 : (n2 : Int) ≤ 9223372036854775807 := by unfold maxLen at p2'; omega
  have q3 : (n3 : Int) ≤ 9223372036854775807 := by unfold maxLen at p3'; omega
  have HO := Lib.hid (@ok_iff m)
  rw [← hn1, ← hn2, ← hn3] at HO
  rw [← hn1] at x1 hc1
  rw [← hn2] at x2 hc2
  rw [← hn3] at x3 hc3 hs3
  have HC1 := Lib.hid hc1; have HC2 := Lib.hid hc2; have HC3 := Lib.hid hc3; have HS3 := Lib.hid hs3
  have HNN := Lib.hid (show n2 = m.lb.length ∧ n3 = m.nm.length from ⟨hn2, hn3⟩)
  have HP := Lib.hid (fun w => refRight_any h.isA h.oflt m.wd w)
  obtain ⟨q, hq⟩ : ∃ q, q = (sameA m.of (PartM.nm (byKey m.of)) && (m.wd == (rk (byKey m.of) 256 : Nat))) := ⟨_, rfl⟩
  rw [← hq] at HP HO
  have HQ := Lib.hid hq
  have HX := Lib.hid hx
  have HB0 := Lib.hid hb0
  have HAR : Hid (∀ W, Below (w.heap.size + 1) (w.alloc (.cells C 27)) W → Ar W w.heap.size C 27) := Lib.hid fun W hW => (hW.block _ (by omega)).trans hx.ar
  clear h hx hb0 hq hv1 hv2 hv3 p1 p1' p2 p2' p3 p3' hc1 hc2 hc3 hs3 hn1 hn2 hn3
  by_cases y1 : 1 ≤ n2
  case neg =>
    go_enter Try.func25, Try.ntmps25
    go_wp2_with fail
    go_ret
    exact ⟨Says.no fun h => y1 (HO.out.1 h).1, HB0.out⟩
  by_cases y2 : n2 ≤ 65536
  case neg =>
    go_enter Try.func25, Try.ntmps25
    go_wp2_with fail
    go_ret
    exact ⟨Says.no fun h => y2 (HO.out.1 h).2.1, HB0.out⟩
  by_cases y3 : n1 = n2
  case neg =>
    have t0 : ((n1 : Int) != (n2 : Int)) = true := by simp; omega
    go_enter Try.func25, Try.ntmps25
    go_wp2_with fail
    go_ret
    exact ⟨Says.no fun h => y3 (HO.out.1 h).2.2.1, HB0.out⟩
  subst y3
  by_cases y4 : n3 ≤ 64
  case neg =>
    go_enter Try.func25, Try.ntmps25
    go_wp2_with fail
    go_ret
    exact ⟨Says.no fun h => y4 (HO.out.1 h).2.2.2.1, HB0.out⟩
  have HY := Lib.hid (show 1 ≤ n1 ∧ n1 ≤ 65536 ∧ n3 ≤ 64 from ⟨y1, y2, y4⟩)
  have t1 : decide ((n1 : Int) < 1) = false := by simp; omega
  have t2 : decide (65536 < (n1 : Int)) = false := by simp; omega
  have t3 : decide (64 < (n3 : Int)) = false := by simp; omega
  go_enter Try.func25, Try.ntmps25
  go_wp2_with (refine wpList_load_of_g rfl (.tmp 31) rfl rfl HX.out ?_)
  refine (HP.out _).mono ?_
  rintro e w1 ⟨rfl, hb1⟩
  have HB1 := Lib.hid hb1
  clear hb1
  obtain ⟨B, hB⟩ : ∃ B, B = w.heap.size := ⟨_, rfl⟩
  have HW0 := Lib.hid (show Below w.heap.size w (w.alloc (.cells C 27)) ∧ B < (w.alloc (.cells C 27)).heap.size from ⟨HB0.out, by simp; omega⟩)
  rw [← hB] at x1 x2 x3 x0 ⊢
  clear HB0 HX HAR hB
  generalize (w.alloc (.cells C 27)) = W0 at *
  have HX0 := Lib.hid x0; have HX1 := Lib.hid x1; have HX2 := Lib.hid x2; have HX3 := Lib.hid x3
  clear x0 x1 x2 x3
  have HF : Hid (∀ W, Below W0.heap.size W0 W → W.cell? ⟨B, 256, none⟩ = some (.int .i64 m.wd) ∧ W.cell? ⟨B, 257, none⟩ = some (.slice a1 n1 c1) ∧ W.cell? ⟨B, 258, none⟩ = some (.slice a2 n1 c2) ∧ W.cell? ⟨B, 259, none⟩ = some (.slice a3 n3 c3) ∧ Below w.heap.size w W) :=
    Lib.hid fun W hW => ⟨(hW.cell (p := ⟨B, _, none⟩) HW0.out.2).trans HX0.out, (hW.cell (p := ⟨B, _, none⟩) HW0.out.2).trans HX1.out, (hW.cell (p := ⟨B, _, none⟩) HW0.out.2).trans HX2.out, (hW.cell (p := ⟨B, _, none⟩) HW0.out.2).trans HX3.out, HW0.out.1.trans (hW.mono HW0.out.1.size)⟩
  clear HX0 HX1 HX2 HX3 HW0
  cases q with
  | false =>
    go_wp2_with fail
    go_ret
    refine ⟨Says.no fun h => ?_, (HF.out _ HB1.out).2.2.2.2⟩
    have := (HO.out.1 h).2.2.2.2.1
    cases this
  | true =>
    clear y1 y2 y4 t1 t2 t3
    go_wp2_with fail
    go_loopw [4] (fun i wr => ∃ k : Nat, k ≤ n3 ∧ i = .int .i64 k ∧ Hid (NamesTo m.nm k) ∧ Below W0.heap.size W0 wr) (fun i _ => n3 - (intOf i).toNat)
    case atStart => exact ⟨0, Nat.zero_le _, rfl, Lib.hid fun j hj => absurd hj (Nat.not_lt_zero _), HB1.out⟩
    case round =>
      obtain ⟨k, hk, rfl, HA, hb⟩ := hrel
      obtain ⟨x0, x1, x2, x3, hbw⟩ := HF.out _ hb
      have HBW := Lib.hid hbw
      clear HB1 hbw
      by_cases hlt : k < n3
      · obtain ⟨b3, o3, rfl, hb3, hc3⟩ := HC3.out k hlt
        have hc3' := (hb.cell (p := ⟨b3, o3 + k, none⟩) hb3).trans hc3
        have HN := Lib.hid (fun w => refName_any (m.nm.getD k ByteArray.empty) (HS3.out k hlt) w)
        obtain ⟨x, hx⟩ : ∃ x, x = m.nm.getD k ByteArray.empty := ⟨_, rfl⟩
        rw [← hx] at hc3' HN
        have HXE := Lib.hid hx
        have HB := Lib.hid hb
        have HLT := Lib.hid hlt
        clear hx hb hc3
        cases hok : nameOk x with
        | true =>
          have HOK := Lib.hid hok
          clear hok
          go_wp2_with fail
          refine (HN.out _).mono ?_
          rintro e w2 ⟨rfl, rfl⟩
          rw [HOK.out]
          go_wp2_with fail
          go_loopw [5] (fun i wr => ∃ j : Nat, j ≤ k ∧ i = .int .i64 j ∧ Hid (∀ i, i < j → m.nm.getD i ByteArray.empty ≠ x) ∧ Below W0.heap.size W0 wr) (fun i _ => k - (intOf i).toNat)
          case atStart => exact ⟨0, Nat.zero_le _, rfl, Lib.hid fun j hj => absurd hj (Nat.not_lt_zero _), HB.out⟩
          case round =>
            obtain ⟨j, hj, rfl, HD, hb⟩ := hrel
            clear x0 x1 x2 x3 hc3'
            by_cases hlj : j < k
            · obtain ⟨x0, x1, x2, x3, _⟩ := HF.out wr.drew hb.drew
              have hck : wr.drew.cell? ⟨b3, o3 + k, none⟩ = some (.string x) := by rw [HXE.out]; exact (hb.drew.cell (p := ⟨b3, o3 + k, none⟩) hb3).trans (HC3.out k HLT.out |>.elim fun b' h => h.elim fun o' h => by
                have e := h.1; simp only [Option.some.injEq, Addr.mk.injEq, and_true] at e; rw [e.1, e.2]; exact h.2.2)
              have hcj : wr.drew.cell? ⟨b3, o3 + j, none⟩ = some (.string (m.nm.getD j ByteArray.empty)) := (hb.drew.cell (p := ⟨b3, o3 + j, none⟩) hb3).trans (HC3.out j (by omega) |>.elim fun b' h => h.elim fun o' h => by
                have e := h.1; simp only [Option.some.injEq, Addr.mk.injEq, and_true] at e; rw [e.1, e.2]; exact h.2.2)
              obtain ⟨y, hy⟩ : ∃ y, y = m.nm.getD j ByteArray.empty := ⟨_, rfl⟩
              rw [← hy] at hcj
              have HYE := Lib.hid hy
              have HB2 := Lib.hid hb.drew
              have HLJ := Lib.hid hlj
              clear hy hb x0 x1 x2
              by_cases hxy : y = x
              · have t0 := ba_self x
                rw [hxy] at hcj
                have HXY := Lib.hid hxy
                clear hxy
                go_wp2_with fail
                go_region
                go_wp2_with fail
                go_ret
                refine ⟨Says.no fun h => ?_, (HF.out _ HB2.out).2.2.2.2⟩
                have := ((HO.out.1 h).2.2.2.2.2.1 k HLT.out).2 j HLJ.out
                rw [← HYE.out, ← HXE.out] at this
                exact this HXY.out
              · have t0 := ba_ne hxy
                have HXY := Lib.hid hxy
                clear hxy
                go_wp2_with fail
                go_region
                go_wp2_with fail
                refine ⟨⟨j + 1, HLJ.out, by go_num, Lib.hid fun i hi => ?_, HB2.out⟩, by have := HLJ.out; simp [intOf]; omega⟩
                by_cases e : i = j
                · subst e; rw [← HYE.out]; exact HXY.out
                · exact HD.out i (by omega)
            · have hjk : j = k := by omega
              have HDK := Lib.hid (show ∀ i, i < k → m.nm.getD i ByteArray.empty ≠ x by rw [← hjk]; exact HD.out)
              have HB2 := Lib.hid hb
              clear hjk hb
              go_wp2_with fail
              refine ⟨⟨k + 1, HLT.out, by go_num, Lib.hid fun i hi => ?_, HB2.out⟩, by have := HLT.out; simp [intOf]; omega⟩
              by_cases e : i = k
              · subst e; rw [← HXE.out]; exact ⟨HOK.out, HDK.out⟩
              · exact HA.out i (by omega)
        | false =>
          have HOK := Lib.hid hok
          clear hok
          go_wp2_with fail
          refine (HN.out _).mono ?_
          rintro e w2 ⟨rfl, rfl⟩
          rw [HOK.out]
          go_wp2_with fail
          go_ret
          refine ⟨Says.no fun h => ?_, HBW.out⟩
          have := ((HO.out.1 h).2.2.2.2.2.1 k HLT.out).1
          rw [← HXE.out, HOK.out] at this
          cases this
      · have hkL : k = n3 := by omega
        have HNM := Lib.hid (show NamesTo m.nm n3 by rw [← hkL]; exact HA.out)
        have HB := Lib.hid hb
        clear hb
        go_wp2_with fail
        clear x0 x1 x2 x3 hlt hk hkL HA HC3 HS3 HBW
        go_loopw [6] (fun i wr => ∃ k : Nat, k ≤ n1 ∧ i = .int .i64 k ∧ Hid (RowsTo m k) ∧ Below W0.heap.size W0 wr) (fun i _ => n1 - (intOf i).toNat)
        case atStart => exact ⟨0, Nat.zero_le _, rfl, Lib.hid fun j hj => absurd hj (Nat.not_lt_zero _), HB.out⟩
        case round =>
          obtain ⟨k, hk, rfl, HA, hb⟩ := hrel
          clear HB
          by_cases hlt : k < n1
          · obtain ⟨x0, x1, x2, x3, hbw⟩ := HF.out wr.drew hb.drew
            obtain ⟨b1, o1, vi, rfl, hb1, hc1, hv1⟩ := HC1.out k hlt
            obtain ⟨ar, cr, rfl, g1, g2, g3⟩ := hv1.open
            obtain ⟨b2, o2, rfl, hb2, hc2⟩ := HC2.out k hlt
            obtain ⟨r, hr⟩ : ∃ r, r = m.nx.getD k [] := ⟨_, rfl⟩
            obtain ⟨R, hR⟩ : ∃ R, R = r.length := ⟨_, rfl⟩
            obtain ⟨y, hy⟩ : ∃ y, y = m.lb.getD k 0 := ⟨_, rfl⟩
            have hmR : (R : Int) ≤ 9223372036854775807 := by unfold maxLen at g2; rw [← hr, ← hR] at g1; omega
            rw [← hr, ← hR] at g3 hc1
            rw [← hy] at hc2
            have hc1' := (hb.drew.cell (p := ⟨b1, o1 + k, none⟩) hb1).trans hc1
            have hc2' := (hb.drew.cell (p := ⟨b2, o2 + k, none⟩) hb2).trans hc2
            have HG := Lib.hid g3
            have HRR := Lib.hid (show r = m.nx.getD k [] ∧ R = r.length ∧ y = m.lb.getD k 0 from ⟨hr, hR, hy⟩)
            have HLT := Lib.hid hlt
            have HB := Lib.hid hb.drew
            have HBW := Lib.hid hbw
            have HC1K := Lib.hid (show b1 < W0.heap.size ∧ W0.cell? ⟨b1, o1 + k, none⟩ = some (.slice ar R cr) from ⟨hb1, hc1⟩)
            have HNO : Hid (∀ i, i < n1 → ¬ (RowOk (m.lb.length : Nat) m.wd (m.nx.getD i []) ∧ 0 ≤ m.lb.getD i 0 ∧ m.lb.getD i 0 ≤ (m.nm.length : Nat)) → ¬ Ok m) := Lib.hid fun i hi hn h => hn ((HO.out.1 h).2.2.2.2.2.2 i hi)
            clear hv1 g1 g2 g3 hr hR hy hb hc1 hc2 hb1 hb2 hbw
            by_cases z1 : (R : Int) = m.wd
            case neg =>
              have t1 : ((R : Int) != m.wd) = true := by simp [z1]
              have Z1 := Lib.hid z1
              clear z1
              go_wp2_with fail
              go_region
              go_wp2_with fail
              go_ret
              refine ⟨Says.no (HNO.out k HLT.out fun h => Z1.out ?_), HBW.out⟩
              rw [HRR.out.2.1, HRR.out.1]; exact h.1.1
            have t1 : ((R : Int) != m.wd) = false := by simp [z1]
            have Z1 := Lib.hid z1
            clear z1
            by_cases z2 : 0 ≤ y
            case neg =>
              have t2 : decide (y < 0) = true := by simp; omega
              have Z2 := Lib.hid z2
              clear z2
              go_wp2_with fail
              go_region
              go_wp2_with fail
              go_ret
              refine ⟨Says.no (HNO.out k HLT.out fun h => ?_), HBW.out⟩
              have h1 := Z2.out
              have h2 := h.2.1
              rw [← HRR.out.2.2] at h2
              omega
            have t2 : decide (y < 0) = false := by simp; omega
            have Z2 := Lib.hid z2
            clear z2
            by_cases z3 : y ≤ (n3 : Int)
            case neg =>
              have t3 : decide ((n3 : Int) < y) = true := by simp; omega
              have Z3 := Lib.hid z3
              clear z3
              go_wp2_with fail
              go_region
              go_wp2_with fail
              go_ret
              refine ⟨Says.no (HNO.out k HLT.out fun h => ?_), HBW.out⟩
              have h1 := Z3.out
              have h2 := h.2.2
              rw [← HRR.out.2.2, ← HNN.out.2] at h2
              omega
            have t3 : decide ((n3 : Int) < y) = false := by simp; omega
            have Z3 := Lib.hid z3
            clear z3
            go_wp2_with fail
            go_region
            go_wp2_with fail
            clear x0 x1 x2 x3 hc1' hc2' t1 t2 t3 hlt hk
            go_loopw [7] (fun i wr => ∃ j : Nat, j ≤ R ∧ i = .int .i64 j ∧ Hid (∀ i, i < j → 0 ≤ r.getD i 0 ∧ r.getD i 0 < (n1 : Int)) ∧ Below W0.heap.size W0 wr) (fun i _ => R - (intOf i).toNat)
            case atStart => exact ⟨0, Nat.zero_le _, rfl, Lib.hid fun j hj => absurd hj (Nat.not_lt_zero _), HB.out⟩
            case round =>
              obtain ⟨j, hj, rfl, HD, hb⟩ := hrel
              clear HB
              obtain ⟨x0, x1, x2, x3, hbw⟩ := HF.out _ hb
              rw [← Z1.out] at x0
              have hc1' := (hb.cell (p := ⟨b1, o1 + k, none⟩) HC1K.out.1).trans HC1K.out.2
              have HB := Lib.hid hb
              have HBW := Lib.hid hbw
              have hlt := HLT.out
              by_cases hlj : j < R
              · obtain ⟨b4, o4, rfl, hb4, hc4⟩ := HG.out j hlj
                have hc4' := (hb.cell (p := ⟨b4, o4 + j, none⟩) hb4).trans hc4
                obtain ⟨x, hx⟩ : ∃ x, x = r.getD j 0 := ⟨_, rfl⟩
                rw [← hx] at hc4'
                have HXE := Lib.hid hx
                have HLJ := Lib.hid hlj
                clear hx hb hbw hc4 hb4 x2 x3
                by_cases z1 : 0 ≤ x
                case neg =>
                  have t2 : decide (x < 0) = true := by simp; omega
                  go_wp2_with fail
                  go_ret
                  refine ⟨Says.no (HNO.out k HLT.out fun h => ?_), HBW.out⟩
                  have h2 := (h.1.2 j (by rw [← HRR.out.1, ← HRR.out.2.1]; exact HLJ.out)).1
                  rw [← HRR.out.1, ← HXE.out] at h2
                  omega
                have t2 : decide (x < 0) = false := by simp; omega
                by_cases z2 : x < (n1 : Int)
                case neg =>
                  have t3 : decide ((n1 : Int) ≤ x) = true := by simp; omega
                  go_wp2_with fail
                  go_ret
                  refine ⟨Says.no (HNO.out k HLT.out fun h => ?_), HBW.out⟩
                  have h2 := (h.1.2 j (by rw [← HRR.out.1, ← HRR.out.2.1]; exact HLJ.out)).2
                  rw [← HRR.out.1, ← HXE.out, ← HNN.out.1] at h2
                  omega
                have t3 : decide ((n1 : Int) ≤ x) = false := by simp; omega
                have Z12 := Lib.hid (show 0 ≤ x ∧ x < (n1 : Int) from ⟨z1, z2⟩)
                go_wp2_with fail
                refine ⟨⟨j + 1, HLJ.out, by go_num, Lib.hid fun i hi => ?_, HB.out⟩, by have := HLJ.out; simp [intOf]; omega⟩
                by_cases e : i = j
                · subst e; rw [← HXE.out]; exact Z12.out
                · exact HD.out i (by omega)
              · have hjR : j = R := by omega
                have HDR := Lib.hid (show ∀ i, i < R → 0 ≤ r.getD i 0 ∧ r.getD i 0 < (n1 : Int) by rw [← hjR]; exact HD.out)
                clear hjR hb hbw x1 x2 x3 hc1'
                go_wp2_with fail
                refine ⟨⟨k + 1, HLT.out, by go_num, Lib.hid fun i hi => ?_, HB.out⟩, by have := HLT.out; simp [intOf]; omega⟩
                by_cases e : i = k
                · subst e
                  rw [← HRR.out.1, ← HRR.out.2.2]
                  refine ⟨⟨by rw [← HRR.out.2.1]; exact Z1.out, fun i hi => ?_⟩, Z2.out, by rw [← HNN.out.2]; exact Z3.out⟩
                  rw [← HNN.out.1]
                  exact HDR.out i (by rw [HRR.out.2.1]; exact hi)
                · exact HA.out i (by omega)
          · have hkL : k = n1 := by omega
            have HRT := Lib.hid (show RowsTo m n1 by rw [← hkL]; exact HA.out)
            have HBW := Lib.hid (HF.out _ hb).2.2.2.2
            clear hb
            go_wp2_with fail
            go_ret
            exact ⟨Says.yes (HO.out.2 ⟨HY.out.1, HY.out.2.1, trivial, HY.out.2.2, trivial, HNM.out, HRT.out⟩), HBW.out⟩
end Go.Proofs.Ytfhddbjojpmbcaa.DfaW
