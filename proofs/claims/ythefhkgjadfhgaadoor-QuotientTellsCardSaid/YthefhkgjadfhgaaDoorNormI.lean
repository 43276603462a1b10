/- Walks of normal, Norm, picked. -/
import Derived.Test.YthefhkgjadfhgaaDoorNumI
import Derived.Test.YthefhkgjadfhgaaDoorQuoC
namespace Go.Proofs.YthefhkgjadfhgaaDoor.DfaW
set_option linter.unusedVariables false
set_option linter.unusedSimpArgs false
open Go.RowKit Go.Maps Go.Proofs.YthefhkgjadfhgaaDoor.PartM Go.Proofs.YthefhkgjadfhgaaDoor.PartW
theorem normal_any {v : Value} {l : List Int} (w : World) (h : IS w.heap.size w v l) (h6 : I64 l) (hl : l.length ≤ 1048576) :
    Calls Tryd.prog 36 #[v] w fun e w' => ∃ u x, e = .returned (.tuple #[u, x]) ∧ OI w' w.heap.size u (normV l) ∧ OI w' w.heap.size x (firstsI (blkE l) l.length) ∧ Below w.heap.size w w' := by
  have hb0 : Below w.heap.size w (w.alloc (.cells #[v] 24)) := (Below.refl _ _).alloc (Nat.le_refl _) _
  have HN := Lib.hid (numberedI (w := w.alloc (.cells #[v] 24)) ⟨w.heap.size, 0, none⟩ hl (blkE_eqv l) (keysI h6) fun W hb b hb' => normal1_any (B := w.heap.size) W ((Ar.new w #[v] 24).below hb) (h.below (hb0.trans (hb.mono hb0.size))) hb')
  obtain ⟨a, c, rfl, _, hm, _⟩ := h.open
  obtain ⟨n, hn⟩ : ∃ n, n = l.length := ⟨_, rfl⟩
  have HNE := Lib.hid hn
  rw [← hn] at HN hb0 ⊢
  have HB0 := Lib.hid hb0
  clear h h6 hl hn hm hb0
  go_enter Tryd.func36, Tryd.ntmps36
  go_wp2_with fail
  refine HN.out.mono ?_
  rintro e w1 ⟨u, x, rfl, h1, h2, hb⟩
  have HB := Lib.hid (HB0.out.trans (hb.mono HB0.out.size))
  have H1 := Lib.hid (owns_base h1 HB0.out.size); have H2 := Lib.hid (owns_base h2 HB0.out.size)
  clear h1 h2 hb HN
  go_wp2_with fail
  refine bodyPost_ret (v := .tuple #[u, x]) (by simp [results, Tryd.results36, go_sem]) rfl ⟨_, _, rfl, ?_, H2.out, HB.out⟩
  unfold normV
  rw [← HNE.out]
  exact H1.out
theorem quoNorm_any : NormC 18 := fun {v l} w h h6 hl => by
  have HN := Lib.hid (normal_any w h h6 hl)
  clear h h6 hl
  go_enter Tryd.func18, Tryd.ntmps18
  go_wp2_with fail
  refine HN.out.mono ?_
  rintro e w1 ⟨u, x, rfl, h1, h2, hb⟩
  have HB := Lib.hid hb; have H1 := Lib.hid h1
  clear h1 h2 hb HN
  go_wp2_with fail
  go_ret
  exact ⟨_, rfl, H1.out, HB.out⟩
/-- What a loop knows of what is picked. -/
def PkL (w : World) (f : Nat → Int) (n : Nat) (i : Value) (wr : World) : Prop :=
  ∃ k : Nat, k ≤ n ∧ i = .int .i64 k ∧ Ar wr w.heap.size (fillN f k n).toArray 3 ∧ Below w.heap.size w wr
set_option maxRecDepth 100000 in
set_option maxHeartbeats 1000000 in
theorem picked_any {va vb : Value} {l ps : List Int} {f : Nat → Int} (w : World) (ha : IS w.heap.size w va l) (hb : IS w.heap.size w vb ps) (hn : ps.length ≤ 1048576)
    (hf : ∀ i, i < ps.length → ∃ k : Nat, ps.getD i 0 = k ∧ k < l.length ∧ l.getD k 0 = f i) :
    Calls Tryd.prog 27 #[va, vb] w fun e w' => ∃ v', e = .returned v' ∧ OI w' w.heap.size v' ((List.range ps.length).map f) ∧ Below w.heap.size w w' := by
  obtain ⟨a1, c1, rfl, _, hm1, hc1⟩ := ha.open
  obtain ⟨a2, c2, rfl, _, hm2, hc2⟩ := hb.open
  obtain ⟨n, hn'⟩ : ∃ n, n = ps.length := ⟨_, rfl⟩
  obtain ⟨L, hL⟩ : ∃ n, n = l.length := ⟨_, rfl⟩
  rw [← hn'] at hn hf hc2 ⊢
  rw [← hL] at hf hc1 ⊢
  have HF := Lib.hid hf; have HC1 := Lib.hid hc1; have HC2 := Lib.hid hc2; have HN := Lib.hid hn
  have hni : (n : Int) ≤ 1048576 := by omega
  have hLi : (L : Int) ≤ 9223372036854775807 := by unfold maxLen at hm1; omega
  have hmk := fun w => makeI hn w
  have HA0 := Lib.hid (show Ar (w.alloc (.cells (madeCells #[.int .i64 0] n) 3)) w.heap.size (fillN f 0 n).toArray 3 by rw [← fillN_zero]; exact Ar.new _ _ _)
  have HB0 := Lib.hid (show Below w.heap.size w (w.alloc (.cells (madeCells #[.int .i64 0] n) 3)) from (Below.refl _ _).alloc (Nat.le_refl _) _)
  clear ha hb hf hc1 hc2 hn hn' hL hm1 hm2
  go_enter Tryd.func27, Tryd.ntmps27
  go_wp2_with fail
  clear hmk
  go_loopw [13] (fun i wr => PkL w f n i wr) (fun i _ => n - (intOf i).toNat)
  case atStart => exact ⟨0, Nat.zero_le _, rfl, HA0.out, HB0.out⟩
  case round =>
    obtain ⟨k, hk, rfl, hA, hb⟩ := hrel
    by_cases hlt : k < n
    · obtain ⟨p, hp, hpl, hpf⟩ := HF.out k hlt
      obtain ⟨b2, o2, rfl, hb2, d2⟩ := HC2.out k hlt
      obtain ⟨b1, o1, rfl, hb1, d1⟩ := HC1.out p hpl
      rw [hp] at d2
      rw [hpf] at d1
      have e2 := (hb.cell (p := ⟨b2, o2 + k, none⟩) hb2).trans d2
      have e1 := (hb.cell (p := ⟨b1, o1 + p, none⟩) hb1).trans d1
      have hfs := fillN_set f hlt
      have hfz := hA.frozen k
      obtain ⟨u, hck⟩ : ∃ u, wr.cell? ⟨w.heap.size, k, none⟩ = some u := ⟨_, (Ar.at' hA k).trans (Array.getElem?_eq_getElem (by simp [fillN_len]; exact hlt))⟩
      have HA := Lib.hid hA; have HB := Lib.hid hb; have HLT := Lib.hid hlt; have HFS := Lib.hid hfs
      clear d1 d2 hp hpf hA hb hfs hb1 hb2
      go_wp2_with fail
      refine ⟨⟨k + 1, HLT.out, by go_num, ?_, below_set HB.out (Nat.le_refl _)⟩, by have := HLT.out; simp [intOf]; omega⟩
      rw [← HFS.out]; exact HA.out.set k _
    · obtain rfl : k = n := by omega
      have HA := Lib.hid hA; have HB := Lib.hid hb
      clear hA hb
      go_wp2_with fail
      go_ret
      exact ⟨_, rfl, OI.of_fill HA.out (Nat.le_refl _) (by have := HN.out; unfold maxLen; omega), HB.out⟩
end Go.Proofs.YthefhkgjadfhgaaDoor.DfaW
