/- Walks of numbered with numbers as keys, of normal, Norm. -/
import Derived.Test.YtfhddbjojpmbcaaNumMath
namespace Go.Proofs.Ytfhddbjojpmbcaa.DfaW
set_option linter.unusedVariables false
set_option linter.unusedSimpArgs false
open Go.RowKit Go.Maps Go.Proofs.Ytfhddbjojpmbcaa.PartM Go.Proofs.Ytfhddbjojpmbcaa.PartW
/-- The function that is handed over: a state's number. -/
theorem normal1_any {pb B : Nat} {t : TypeId} {v : Value} {l : List Int} {k : Nat} (W : World) (hp : Ar W pb #[v] t) (ho : IS B W v l) (hk : k < l.length) :
    Calls Try.prog 59 #[.int .i64 k, .pointer (some ⟨pb, 0, none⟩)] W fun e w' => e = .returned (.int .i64 (l.getD k 0)) ∧ W = w' := by
  obtain ⟨a, c, rfl, _, hm, hc⟩ := ho.open
  obtain ⟨n, hn⟩ : ∃ n, n = l.length := ⟨_, rfl⟩
  obtain ⟨b, o, rfl, _, hc⟩ := hc k hk
  have d1 : W.cell? ⟨pb, 0, none⟩ = some (.slice (some ⟨b, o, none⟩) l.length c) := Ar.at' hp 0
  rw [← hn] at d1 hk
  have hki : (n : Int) ≤ 9223372036854775807 := by unfold maxLen at hm; omega
  clear hp ho hn hm
  obtain ⟨x, hx⟩ : ∃ x, x = l.getD k 0 := ⟨_, rfl⟩
  rw [← hx] at hc ⊢
  clear hx
  go_enter Try.func59, Try.ntmps59
  go_wp2_with fail
  go_ret
  exact ⟨rfl, rfl⟩
theorem keysI {l : List Int} (h : I64 l) : KeysN Try.prog 3 l.length (fun b => .int .i64 (l.getD b 0)) (fun b => .int .i64 (l.getD b 0)) (blkE l) :=
  ⟨lawI, fun b hb => keyOf_int_mk Try.underlying3 (h _ (by rw [List.getD_eq_getElem?_getD, List.getElem?_eq_getElem hb]; exact List.getElem_mem _)), fun a b ha hb => by rw [blkE_iff]; simp⟩
/-- What a loop knows of the numbers that are given. -/
def NbL (w : World) (B A M n : Nat) (kt : TypeId) (KL : Nat → Lit) (E : Nat → Nat → Bool) (u i : Value) (wr : World) : Prop :=
  ∃ (k : Nat) (D : DataW Unit), k ≤ n ∧ i = .int .i64 k ∧ Ar wr A (fillN (fun i => (nm E i : Nat)) k n).toArray 3 ∧ OI wr B u (firstsI E k) ∧ wr.ownsMap Try.prog kt (plainElem Try.prog 3) M k D ∧ Hid (SeenN D n KL E k) ∧ Below w.heap.size w wr ∧ B ≤ wr.heap.size
set_option maxRecDepth 100000 in
set_option maxHeartbeats 4000000 in
theorem numberedI {w : World} {n : Nat} (p : Addr) {f : Nat → Int} {KL : Nat → Lit} {E : Nat → Nat → Bool} (hn : n ≤ 1048576) (hE : Eqv E) (hK : KeysN Try.prog 3 n (fun b => .int .i64 (f b)) KL E)
    (hclo : ∀ W, Below w.heap.size w W → ∀ b : Nat, b < n → Calls Try.prog 59 #[.int .i64 b, .pointer (some p)] W fun e W' => e = .returned (.int .i64 (f b)) ∧ W = W') :
    Calls Try.prog 58 #[.int .i64 n, .func (.func 59) #[] #[.pointer (some p)]] w fun e w' =>
      ∃ u v, e = .returned (.tuple #[u, v]) ∧ OI w' w.heap.size u (numsTo E n) ∧ OI w' w.heap.size v (firstsI E n) ∧ Below w.heap.size w w' := by
  have HK := Lib.hid hK
  have HE := Lib.hid hE
  have HCL := Lib.hid hclo
  have HNN := Lib.hid hn
  have hni : (n : Int) ≤ 1048576 := by omega
  have hmm := @run_makeMap Try.prog
  have hmk := fun w => makeI hn w
  have hm0 : ((w.alloc (.map #[] 0)).alloc (.cells (madeCells #[.int .i64 0] n) 3)).ownsMap Try.prog 3 (plainElem Try.prog 3) w.heap.size 0 (.map [] : DataW Unit) :=
    owns_map_heap (World.ownsMap_made (H := Unit) w Try.prog 3 (plainElem Try.prog 3)) (((Below.refl _ _).alloc (Nat.le_refl _) _).block _ (by simp))
  have hb0 : Below w.heap.size w ((w.alloc (.map #[] 0)).alloc (.cells (madeCells #[.int .i64 0] n) 3)) := ((Below.refl _ w).alloc (Nat.le_refl _) _).alloc (by simp) _
  have ha0 : Ar ((w.alloc (.map #[] 0)).alloc (.cells (madeCells #[.int .i64 0] n) 3)) (w.heap.size + 1) (fillN (fun i => (nm E i : Nat)) 0 n).toArray 3 := by
    have := Ar.new (w.alloc (.map #[] 0)) (madeCells #[.int .i64 0] n) 3
    rw [World.size_alloc] at this
    rw [← fillN_zero]; exact this
  have hs0 : ((w.alloc (.map #[] 0)).alloc (.cells (madeCells #[.int .i64 0] n) 3)).heap.size = w.heap.size + 2 := by simp
  have HM0 := Lib.hid hm0; have HB0 := Lib.hid hb0; have HA0 := Lib.hid ha0; have HS0 := Lib.hid hs0
  clear hK hE hclo hn hm0 hb0 ha0 hs0
  go_enter Try.func58, Try.ntmps58
  go_wp2_with fail
  clear hmm hmk
  generalize ((w.alloc (.map #[] 0)).alloc (.cells (madeCells #[.int .i64 0] n) 3)) = w0 at *
  obtain ⟨M, hM⟩ : ∃ M, M = w.heap.size := ⟨_, rfl⟩
  obtain ⟨A, hA⟩ : ∃ A, A = w.heap.size + 1 := ⟨_, rfl⟩
  obtain ⟨B, hB⟩ : ∃ B, B = w.heap.size + 2 := ⟨_, rfl⟩
  have HR := Lib.hid (show A = w.heap.size + 1 ∧ M = w.heap.size ∧ B = w.heap.size + 2 from ⟨hA, hM, hB⟩)
  rw [← hA] at HA0 ⊢
  rw [← hM] at HM0
  rw [← hM]
  go_loopw [5, 15] (fun u i wr => NbL w B A M n 3 KL E u i wr) (fun _ i _ => n - (intOf i).toNat)
  case atStart =>
    exact ⟨0, .map [], Nat.zero_le _, rfl, HA0.out, OI.nil _ _, HM0.out, Lib.hid (SeenN.none _ _ _), HB0.out, by rw [HS0.out, hB]; exact Nat.le_refl _⟩
  case round =>
    clear hM hA hB
    obtain ⟨k, D, hk, rfl, hA, hO, hM, HS, hb, hBs⟩ := hrel
    obtain ⟨au, cu, rfl, _, _⟩ := hO.len
    have hrk := rk_le (E := E) k
    by_cases hlt : k < n
    · have hkey := HK.out.key k hlt
      have HLT := Lib.hid hlt
      have hcall := HCL.out wr hb k hlt
      rw [firstsI_len] at hO ⊢
      have HCALL := Lib.hid hcall
      have hfs := fillN_set (fun i => (nm E i : Int)) hlt
      have HB := Lib.hid hb; have HBS := Lib.hid hBs; have HA := Lib.hid hA; have HM := Lib.hid hM
      have hfz := hA.frozen k
      obtain ⟨u, hck⟩ : ∃ u, wr.cell? ⟨A, k, none⟩ = some u := ⟨_, (Ar.at' hA k).trans (Array.getElem?_eq_getElem (by simp [fillN_len]; exact hlt))⟩
      by_cases hn : fst E k = k
      · obtain ⟨h1, h2⟩ := HS.out.new HK.out HE.out (hM.tidy lawI) hlt hn
        have HQ := Lib.hid (nm_first hn)
        have HFS := Lib.hid hfs
        have HS2 := Lib.hid h2
        have HFI := Lib.hid (show firstsI E (k + 1) = firstsI E k ++ [(k : Int)] by rw [firstsI_succ, if_pos hn])
        have HFL := Lib.hid (firstsI_len E k)
        have HO := Lib.hid hO
        obtain ⟨r, hr⟩ : ∃ r, r = rk E k := ⟨_, rfl⟩
        rw [← hr] at HQ HS2 HFL HO hrk ⊢
        have HRL := Lib.hid (show r ≤ 1048576 by have := HNN.out; omega)
        have hri : (r : Int) ≤ 1048576 := by have := HRL.out; omega
        have HWF := Lib.hid (wf_i64 (x := (r : Int)) (by omega) (by omega))
        clear h2 hn hr hrk hfs hO hb hM hA hcall hlt hBs hk hfz hck
        go_wp2_with fail
        refine HCALL.out.mono ?_
        rintro e w1 ⟨rfl, rfl⟩
        go_wp2_with (first | (at_lookup; refine wpList_lookup_own_ok_int _ rfl _ _ 86 rfl 3 3 .i64 lawI Try.underlying86 Try.underlying3 (zeroI _) M k D rfl HM.out _ _ rfl hkey ?_; intro c hat hwc; clear hat hwc; rw [h1]) | (at_mapUpdate; refine wpList_mapUpdate_own _ rfl _ _ _ 86 rfl 3 3 lawI Try.underlying86 _ M k D rfl HM.out (by have := HLT.out; have := HNN.out; unfold maxLen; omega) _ _ _ rfl rfl hkey _ [] (plainElem_int Try.underlying3 HWF.out) ?_; intro w4 hD4 hg4; have hb4 : Below B wr w4 → True := fun _ => trivial; clear hb4; have hA4 : Ar w4 A _ 3 := (hg4.block A HA.out.lt (by intro e; cases e; have := HR.out; omega)).trans HA.out; have hO4 : OI w4 B _ (firstsI E k) := own_keep HO.out (fun g hg => hg4.block g (own_at HO.out hg).2.2 (by intro e; cases e; have := (own_at HO.out hg).2.1; have := HR.out; omega)); have HA4 := Lib.hid hA4; have HO4 := Lib.hid hO4; have HD4 := Lib.hid hD4; have HBB4 := Lib.hid (HB.out.grown hg4 HB.out.size (fun j hj => by cases hj; have := HR.out; omega)); have HSZ4 := Lib.hid (Nat.le_trans HBS.out hg4.size); clear hA4 hO4 hD4 hg4) | (at_builtin; refine wpList_append_int rfl (.tmp 34) (.tmp 36) rfl rfl (HO4.out.below ((Below.refl _ w4).alloc (Nat.le_refl _) _)) (by simp only [World.size_alloc]; exact Nat.le_trans HSZ4.out (Nat.le_succ _)) ⟨w4.heap.size, 0, none⟩ 1 (k : Int) rfl (by rw [World.cell?_alloc_new]; rfl) rfl (by rw [HFL.out]; have := HRL.out; omega) ?_; intro v' w5 hO5 hb5; have hal5 := ((Below.refl B w4).alloc HSZ4.out (.cells #[.int .i64 (k : Int)] 3)).trans hb5; have hA5 : Ar w5 A _ 3 := (hal5.block A (by have := HR.out; omega)).trans HA4.out; have hfz5 := hA5.frozen k; obtain ⟨u5, hck5⟩ : ∃ u, w5.cell? ⟨A, k, none⟩ = some u := ⟨_, (Ar.at' hA5 k).trans (Array.getElem?_eq_getElem (by simp [fillN_len]; exact HLT.out))⟩; have HA5 := Lib.hid hA5; have HO5 := Lib.hid hO5; have HB5 := Lib.hid hal5; clear hA5 hO5 hb5 hal5))
        refine ⟨⟨k + 1, _, by have := HLT.out; omega, by go_num, ?_, ?_, ?_, HS2, ?_, ?_⟩, by have := HLT.out; simp [intOf]; omega⟩
        · rw [← HFS.out]
          have := HA5.out.set k (.int .i64 r)
          simp only [HQ.out]; exact this
        · rw [HFI.out]; exact own_set HO5.out (by have := HR.out; omega)
        · exact (owns_map_heap HD4.out (HB5.out.block M (by have := HR.out; omega))).setCell (by intro e; have := HR.out; have e : M = A := e; omega) _
        · exact below_set (HBB4.out.trans (HB5.out.mono (by have := HR.out; omega))) (by have := HR.out; omega)
        · have := HB5.out.size; have := HSZ4.out; simp [World.setCell]; omega
      · obtain ⟨h1, h3, h2⟩ := HS.out.old HK.out HE.out hlt hn
        have HFS := Lib.hid hfs
        have HS2 := Lib.hid h2
        have HAT := Lib.hid (h3 (.lit (.int .i64 0)))
        have HFI := Lib.hid (show firstsI E (k + 1) = firstsI E k by rw [firstsI_succ, if_neg hn])
        have HO := Lib.hid hO
        obtain ⟨r, hr⟩ : ∃ r, r = rk E k := ⟨_, rfl⟩
        rw [← hr] at HO ⊢
        clear h2 h3 hn hr hrk hfs hO hb hM hA hcall hlt hBs hk
        go_wp2_with fail
        refine HCALL.out.mono ?_
        rintro e w1 ⟨rfl, rfl⟩
        go_wp2_with (at_lookup; refine wpList_lookup_own_ok_int _ rfl _ _ 86 rfl 3 3 .i64 lawI Try.underlying86 Try.underlying3 (zeroI _) M k D rfl HM.out _ _ rfl hkey ?_; intro c hat hwc; have HC2 := Lib.hid (hat.symm.trans HAT.out); clear hat hwc; rw [h1])
        have hc := HC2.out
        simp only [DataW.lit.injEq, Lit.int.injEq, true_and] at hc
        refine ⟨⟨k + 1, _, by have := HLT.out; omega, by go_num, ?_, ?_, ?_, HS2, ?_, ?_⟩, by have := HLT.out; simp [intOf]; omega⟩
        · rw [← HFS.out, hc]; exact HA.out.set k _
        · rw [HFI.out]; exact own_set HO.out (by have := HR.out; omega)
        · exact (HM.out.mono (Nat.le_succ k)).setCell (by intro e; have := HR.out; have e : M = A := e; omega) _
        · exact below_set HB.out (by have := HR.out; omega)
        · have := HBS.out; simp [World.setCell]; omega
    · have hkn : k = n := by omega
      have HA := Lib.hid hA; have HO := Lib.hid hO; have HB := Lib.hid hb
      rw [firstsI_len] at hO ⊢
      clear hA hM hb
      go_wp2_with fail
      refine bodyPost_ret (v := .tuple #[.slice (some ⟨A, 0, none⟩) n n, .slice au (rk E k) cu]) (by simp [results, Try.results58, go_sem]) rfl ⟨_, _, rfl, ?_, ?_, HB.out⟩
      · have := HA.out
        rw [hkn] at this
        exact OI.of_fill this (by have := HR.out; omega) (by have := HNN.out; unfold maxLen; omega)
      · have := owns_base HO.out (show w.heap.size ≤ B by have := HR.out; omega)
        rw [hkn] at this ⊢
        unfold OI
        rw [firstsI_len] at this ⊢
        exact this
end Go.Proofs.Ytfhddbjojpmbcaa.DfaW
