/- Walks of used and Used: the names that a machine tells. -/
import Derived.Test.YtlfmkiendaecaaaUnionL
import Derived.Test.YtlfmkiendaecaaaLabelUsed
import Derived.Test.YtlfmkiendaecaaaMach
namespace Go.Proofs.Ytlfmkiendaecaaa.DfaW
set_option linter.unusedVariables false
set_option linter.unusedSimpArgs false
open Go.RowKit Go.Maps Go.Proofs.Ytlfmkiendaecaaa.PartM Go.Proofs.Ytlfmkiendaecaaa.PartW Go.Proofs.Ytlfmkiendaecaaa.TxM
theorem LS.new1 (w : World) (u : Value) (l : List ByteArray) (t : TypeId) (h : TS w.heap.size w u l) :
    LS (w.alloc (.cells #[u] t)).heap.size (w.alloc (.cells #[u] t)) (.slice (some ⟨w.heap.size, 0, Option.none⟩) 1 1) [l] :=
  LS.new w [u] [l] t rfl (by unfold maxLen; simp) fun i hi => by
    obtain rfl : i = 0 := by simpa using hi
    exact ⟨u, rfl, h⟩
theorem lab_szs' {m : Mc} (h : Ok m) (k : Nat) : Szs (labTx m k) := fun x hx => by
  have := name_size (used_ok h (labTx_sub hx))
  omega
set_option maxRecDepth 100000 in
set_option maxHeartbeats 4000000 in
theorem used_any {C : Array Value} {m : Mc} (w : World) (h : IsM w.heap.size w C m) (hok : Ok m) :
    Calls Try.prog 24 #[.agg C] w fun e w' => ∃ v, e = .returned v ∧ RxT (fun k => k < w.heap.size) w' v (usedV m) ∧ Below w.heap.size w w' := by
  have hx := Bx.new h
  have hb0 : Below w.heap.size w (w.alloc (.cells C 27)) := (Below.refl _ _).alloc (Nat.le_refl _) _
  have HAR := Lib.hid hx.ar; have HI := Lib.hid h
  have HX := Lib.hid hx
  have HB0 := Lib.hid hb0
  have HO0 := Lib.hid (OS.nil (w.alloc (.cells C 27)) (w.heap.size + 1))
  obtain ⟨a1, a2, a3, c1, c2, c3, k1, k2, k3⟩ := h.slices
  have HK := Lib.hid (show C[258]? = some (.slice a2 m.lb.length c2) ∧ C[259]? = some (.slice a3 m.nm.length c3) from ⟨k2, k3⟩)
  have x2 := (hx.lbv k2).1
  have HOK := Lib.hid hok
  have hn65 := hok.lbs.2.1
  have hn64 := hok.nms.1
  obtain ⟨n, hn⟩ : ∃ n, n = m.lb.length := ⟨_, rfl⟩
  obtain ⟨n3, hn3⟩ : ∃ n, n = m.nm.length := ⟨_, rfl⟩
  have HN := Lib.hid (show n = m.lb.length ∧ n3 = m.nm.length from ⟨hn, hn3⟩)
  rw [← hn] at x2
  rw [← hn, ← hn3] at HK
  have hni : (n : Int) ≤ 65536 := by omega
  have hni3 : (n3 : Int) ≤ 64 := by omega
  clear h hx hb0 k1 k2 k3 hok hn65 hn64 hn hn3
  go_enter Try.func24, Try.ntmps24
  go_wp2_with fail
  clear x2
  obtain ⟨B, hB⟩ : ∃ B, B = w.heap.size := ⟨_, rfl⟩
  have HBE := Lib.hid hB
  have HS0 := Lib.hid (show (w.alloc (.cells C 27)).heap.size = B + 1 by rw [hB]; simp)
  obtain ⟨W0, hW0⟩ : ∃ W0, W0 = w.alloc (.cells C 27) := ⟨_, rfl⟩
  rw [← hW0] at HS0 HAR HB0 HO0 ⊢
  rw [← hB] at HAR HO0 HI HB0 ⊢
  clear hB hW0 HX
  go_loopw [3, 9] (fun u i wr => ∃ k : Nat, k ≤ n ∧ i = .int .i64 k ∧ OS wr (B + 1) u (labTx m k) ∧ Below (B + 1) W0 wr) (fun _ i _ => n - (intOf i).toNat)
  case atStart => exact ⟨0, Nat.zero_le _, rfl, HO0.out, Below.refl _ _⟩
  case round =>
    obtain ⟨k, hk, rfl, hO, hb⟩ := hrel
    have hb1 : Below B w wr := HB0.out.trans (hb.mono (Nat.le_succ _))
    have hX : Bx wr B C m := ⟨(hb.block B (Nat.lt_succ_self _)).trans HAR.out, (HI.out.below hb1).up (by rw [HBE.out]; exact hb1.size)⟩
    have hsz : B + 1 ≤ wr.heap.size := by have := hb.size; rw [HS0.out] at this; exact this
    have hlen : (labTx m k).length ≤ 65536 := by have := labTx_len m k; omega
    obtain ⟨au, cu, rfl, _, _⟩ := hO.len
    obtain ⟨L, hL⟩ : ∃ L, L = (labTx m k).length := ⟨_, rfl⟩
    rw [← hL] at hO ⊢
    have HO := Lib.hid hO; have HB := Lib.hid hb; have HLE := Lib.hid hL; have HSZ := Lib.hid hsz; have HLN := Lib.hid hlen; have HB1 := Lib.hid hb1
    obtain ⟨y2, hI⟩ := hX.lbv HK.out.1
    obtain ⟨y3, hT⟩ := hX.nmv HK.out.2
    clear hO hb hlen hL hX hsz hb1
    by_cases hlt : k < n
    · obtain ⟨b2, o2, rfl, hb2, hc2⟩ := hI.cell (i := k) (by rw [← HN.out.1]; exact hlt)
      have HLT := Lib.hid hlt
      by_cases hx0 : 0 < m.lb.getD k 0
      · have HE := Lib.hid (labTx_yes (by rw [← HN.out.1]; exact hlt) hx0)
        have hnm := HOK.out.nmAt (by rw [← HN.out.1]; exact hlt) hx0
        obtain ⟨t, ht⟩ : ∃ t : Nat, m.lb.getD k 0 = (t : Int) + 1 := ⟨(m.lb.getD k 0).toNat - 1, by omega⟩
        have htn : (m.lb.getD k 0).toNat - 1 = t := by omega
        rw [htn] at hnm
        have HNM := Lib.hid (show nmAt m (m.lb.getD k 0) = m.nm.getD t ByteArray.empty by unfold nmAt; rw [htn])
        obtain ⟨b3, o3, rfl, hb3, hc3⟩ := hT.cell (i := t) hnm
        rw [ht] at hc2
        rw [← HN.out.2] at hnm
        obtain ⟨x, hx⟩ : ∃ x, x = m.nm.getD t ByteArray.empty := ⟨_, rfl⟩
        rw [← hx] at hc3
        have HX3 := Lib.hid hx
        have t0 : ((t : Int) + 1 != 0) = true := by simp <;> omega
        have hw2 : IntKind.i64.wrap (t : Int) = t := by rw [IntKind.wrap_i64]; omega
        have hw1 : wrap64 ((t : Int) + 1 - 1) = t := by unfold wrap64; omega
        have HO2 := Lib.hid (HO.out.below ((Below.refl _ wr).alloc (Nat.le_refl _) (.cells #[.string x] 9)))
        have HB2 := Lib.hid (HB.out.trans ((Below.refl (B + 1) wr).alloc HSZ.out (.cells #[.string x] 9)))
        clear hI hT hx hx0 ht htn hb2 hb3
        go_wp2_with (at_builtin; refine wpList_append_text rfl (.tmp 15) (.tmp 22) rfl rfl HO2.out (by simp only [World.size_alloc]; exact Nat.le_trans HSZ.out (Nat.le_succ _)) ⟨wr.heap.size, 0, none⟩ 1 x rfl (by rw [World.cell?_alloc_new]; rfl) rfl (by have := HLN.out; omega) ?_; intro v' w5 hO5 hb5; have HO5 := Lib.hid hO5; have HB5 := Lib.hid hb5; clear hO5 hb5; go_frame)
        refine ⟨⟨k + 1, HLT.out, by go_num, ?_, HB2.out.trans HB5.out⟩, by have := HLT.out; simp [intOf]; omega⟩
        rw [HE.out, HNM.out, ← HX3.out]
        exact HO5.out
      · have hx1 : m.lb.getD k 0 = 0 := by have := (HOK.out.lbs.2.2 k (by rw [← HN.out.1]; exact hlt)).1; omega
        have HE := Lib.hid (labTx_no (by rw [← HN.out.1]; exact hlt) hx0)
        rw [hx1] at hc2
        clear hI hT hx0 hx1 hb2
        go_wp2_with fail
        refine ⟨⟨k + 1, HLT.out, by go_num, ?_, HB.out⟩, by have := HLT.out; simp [intOf]; omega⟩
        rw [HE.out]
        exact HO.out
    · have hkn : k = n := by omega
      have HE := Lib.hid (show labTx m k = usedL m by rw [hkn, HN.out.1, labTx_all])
      have hts := HO.out.is (lab_szs' HOK.out k)
      have HUC := Lib.hid (labUnion_any _ (LS.new1 wr (.slice au L cu) (labTx m k) 25 hts) (by have := HLN.out; simp; omega) (fun x hx => by
        have hx : x ∈ labTx m k := by simpa using hx
        have := name_size (used_ok HOK.out (labTx_sub hx)); unfold maxLen; omega))
      have HBU := Lib.hid (HB1.out.trans ((Below.refl B wr).alloc (by have := HSZ.out; omega) (.cells #[.slice au L cu] 25)))
      clear hkn hI hT hts
      go_wp2_with fail
      refine HUC.out.mono ?_
      rintro e w6 ⟨v', rfl, hr, hb⟩
      have HR := Lib.hid hr; have HBB := Lib.hid hb
      clear hr hb HUC
      go_wp2_with fail
      go_ret
      have e1 : ([labTx m k] : List (List ByteArray)).flatten = usedL m := by rw [HE.out]; simp
      have hw := HBE.out
      refine ⟨_, rfl, ?_, by rw [← hw]; exact HBU.out.trans (HBB.out.mono (by simp; have := HSZ.out; omega))⟩
      have := HR.out
      rw [e1, ← usedV_yes HOK.out] at this
      exact this.mono fun k hk => by simp; have := HSZ.out; rw [← hw] at hk; omega
set_option maxRecDepth 100000 in
set_option maxHeartbeats 4000000 in
theorem labUsed_any : UsedC 8 := fun {C m} w h => by
  have hx := Bx.new h
  have hb0 : Below w.heap.size w (w.alloc (.cells C 27)) := (Below.refl _ _).alloc (Nat.le_refl _) _
  have HX := Lib.hid hx
  have HB0 := Lib.hid hb0
  clear h hx hb0
  go_enter Try.func8, Try.ntmps8
  go_wp2_with (refine wpList_load_dfa rfl (.tmp 1) rfl rfl HX.out ?_)
  refine (RightD_any _ HX.out.is).mono ?_
  rintro e w1 ⟨hs, hb1⟩
  have HX1 := Lib.hid (HX.out.below hb1)
  have HB1 := Lib.hid (HB0.out.trans (hb1.mono HB0.out.size))
  clear hb1 HX HB0
  rcases hs.elim with ⟨rfl, hk⟩ | ⟨rfl, hk⟩
  · have HUC := Lib.hid (used_any w1 HX1.out.is hk)
    clear hs hk
    go_wp2_with (refine wpList_load_dfa rfl (.tmp 1) rfl rfl HX1.out ?_)
    refine HUC.out.mono ?_
    rintro e w2 ⟨v, rfl, hr, hb⟩
    have HR := Lib.hid (hr.mono (Y := fun k => k < w.heap.size) fun k hk => Nat.lt_of_lt_of_le hk HB1.out.size)
    have HBB := Lib.hid (HB1.out.trans (hb.mono HB1.out.size))
    clear hr hb HUC
    go_wp2_with fail
    go_ret
    exact ⟨_, rfl, HR.out, HBB.out⟩
  · have HE := Lib.hid (usedV_no hk)
    clear hs hk
    go_wp2_with fail
    go_ret
    refine ⟨_, rfl, ?_, HB1.out⟩
    rw [HE.out]
    exact (OS.nil w1 w.heap.size).rx (fun x hx => by cases hx) (fun k hk => hk)
end Go.Proofs.Ytlfmkiendaecaaa.DfaW
