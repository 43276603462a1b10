/- Walks of Tell, Name. -/
import Derived.Test.YthefhkgjadfhgaaDoorMach
namespace Go.Proofs.YthefhkgjadfhgaaDoor.DfaW
set_option linter.unusedVariables false
open Go.RowKit Go.Maps Go.Proofs.YthefhkgjadfhgaaDoor.PartM Go.Proofs.YthefhkgjadfhgaaDoor.PartW
set_option maxRecDepth 100000 in
set_option maxHeartbeats 2000000 in
theorem Run_any {C : Array Value} {m : Mc} {v : Value} {l : List Nat} (w : World) (h : IsM w.heap.size w C m) (hv : BS w.heap.size w v l) :
    Calls Tryd.prog 57 #[.agg C, v] w fun e w' => e = .returned (.int .i64 (runV m l)) ∧ Below w.heap.size w w' := by
  have hx := Bx.new h
  have hb0 : Below w.heap.size w (w.alloc (.cells C 27)) := (Below.refl _ _).alloc (Nat.le_refl _) _
  have HR := Lib.hid (RightD_any (w.alloc (.cells C 27)) hx.is)
  have HLT := Lib.hid (fun i (hi : i < l.length) => hv.lt hi)
  have HL2 := Lib.hid hv.2
  obtain ⟨a, cap, rfl, g1, g2, g3⟩ := hv.open
  have HG := Lib.hid g3
  obtain ⟨L, hL⟩ : ∃ L, L = l.length := ⟨_, rfl⟩
  have hmL : (L : Int) ≤ 9223372036854775807 := by unfold maxLen at g2; omega
  have HLL := Lib.hid hL
  rw [← hL] at HG HLT ⊢
  have HX := Lib.hid hx; have HB0 := Lib.hid hb0
  clear h hx hb0 hv g1 g2 g3 hL
  go_enter Tryd.func57, Tryd.ntmps57
  go_wp2_with (refine wpList_load_dfa rfl (.tmp 2) rfl rfl HX.out ?_)
  refine HR.out.mono ?_
  rintro e w1 ⟨hs, hb1⟩
  have HX1 := Lib.hid (HX.out.below hb1)
  have HB1 := Lib.hid (HB0.out.trans (hb1.mono HB0.out.size))
  rcases hs.elim with ⟨rfl, hn⟩ | ⟨rfl, hn⟩
  · have HK := Lib.hid hn
    clear hs hn hb1
    obtain ⟨n, hn⟩ : ∃ n, n = m.lb.length := ⟨_, rfl⟩
    have HN := Lib.hid hn
    have hn2 : (n : Int) ≤ 65536 := by have := HK.out.lbs.2.1; omega
    clear hn
    go_wp2_with fail
    go_loopw [5, 13] (fun s i wr => ∃ j : Nat, j ≤ L ∧ i = .int .i64 j ∧ s = .int .i64 (run m (l.take j) : Nat) ∧ Below w1.heap.size w1 wr) (fun _ i _ => L - (intOf i).toNat)
    case atStart => exact ⟨0, Nat.zero_le _, rfl, rfl, Below.refl _ _⟩
    case round =>
      obtain ⟨j, hj, rfl, rfl, hb⟩ := hrel
      by_cases hlt : j < L
      · obtain ⟨b, o, rfl, hb1, hc1⟩ := HG.out j hlt
        have hbw := HB1.out.trans (hb.mono HB1.out.size)
        have c1 := (hbw.cell (p := ⟨b, o + j, none⟩) hb1).trans hc1
        have hrl : run m (l.take j) < n := by rw [HN.out]; exact run_lt HK.out (fun b hb => HL2.out b (List.mem_of_mem_take hb)) 0 HK.out.zero
        have HS := Lib.hid (show run m (l.take (j + 1)) = step m (run m (l.take j)) (l.getD j 0) by rw [take_snoc l (by rw [← HLL.out]; exact hlt), run_snoc])
        obtain ⟨s, hs⟩ : ∃ s, s = run m (l.take j) := ⟨_, rfl⟩
        have hc := HLT.out j hlt
        obtain ⟨c, hcc⟩ : ∃ c, c = l.getD j 0 := ⟨_, rfl⟩
        rw [← hcc] at c1 hc HS
        rw [← hs] at hrl HS ⊢
        obtain ⟨b1, o1, c1', b2, o2, c2, r, y1, y2, y3, y3', y4, y5⟩ := read_step HX1.out HK.out hb.drew (show s < m.lb.length by rw [← HN.out]; exact hrl) hc
        rw [← HN.out] at y1
        obtain ⟨t, ht⟩ : ∃ t, t = step m s c := ⟨_, rfl⟩
        obtain ⟨f, hf⟩ : ∃ f, f = m.of c := ⟨_, rfl⟩
        rw [← ht] at y5 HS
        rw [← hf] at y3 y4 y5
        have hc2 : ¬ (256 : Int) ≤ (c : Int) := by omega
        have HB := Lib.hid hb
        have HLJ := Lib.hid hlt
        clear ht hf hs hcc hb hb1 hc1 hbw
        go_wp2_with fail
        go_region
        go_wp2_with fail
        exact ⟨⟨j + 1, HLJ.out, by go_num, by rw [HS.out], HB.out.drew⟩, by have := HLJ.out; simp [intOf]; omega⟩
      · have hjL : j = L := by omega
        have HE := Lib.hid (show runV m l = (run m (l.take j) : Nat) by rw [runV_yes HK.out, hjL, HLL.out, List.take_length])
        have HB := Lib.hid (HB1.out.trans (hb.mono HB1.out.size))
        clear hjL hb
        go_wp2_with fail
        go_ret
        exact ⟨Base.ret_int HE.out.symm, HB.out⟩
  · have HK := Lib.hid (runV_no (bs := l) hn)
    clear hs hn hb1
    go_wp2_with fail
    go_ret
    exact ⟨Base.ret_int HK.out.symm, HB1.out⟩

theorem run_ok {m : Mc} (h : Ok m) {l : List Nat} (hl : ∀ b ∈ l, b < 256) : run m l < m.lb.length := run_lt h hl 0 h.zero
set_option maxRecDepth 100000 in
set_option maxHeartbeats 2000000 in
theorem Tell_any {C : Array Value} {m : Mc} {v : Value} {l : List Nat} (w : World) (h : IsM w.heap.size w C m) (hv : BS w.heap.size w v l) :
    Calls Tryd.prog 34 #[.agg C, v] w fun e w' => e = .returned (.int .i64 (tellV m l)) ∧ Below w.heap.size w w' := by
  have hx := Bx.new h
  have hb0 : Below w.heap.size w (w.alloc (.cells C 27)) := (Below.refl _ _).alloc (Nat.le_refl _) _
  have HR := Lib.hid (Run_any (w.alloc (.cells C 27)) hx.is (hv.next hb0))
  have HL2 := Lib.hid hv.2
  obtain ⟨a, cap, rfl, _, _, _⟩ := hv.open
  have HX := Lib.hid hx; have HB0 := Lib.hid hb0
  clear h hx hb0 hv
  go_enter Tryd.func34, Tryd.ntmps34
  go_wp2_with (refine wpList_load_dfa rfl (.tmp 2) rfl rfl HX.out ?_)
  refine HR.out.mono ?_
  rintro e w1 ⟨rfl, hb1⟩
  have HX1 := Lib.hid (HX.out.below hb1)
  have HB1 := Lib.hid (HB0.out.trans (hb1.mono HB0.out.size))
  clear hb1
  by_cases hk : Ok m
  · have hs := run_ok hk HL2.out
    obtain ⟨v2, x2, hv2⟩ := HX1.out.lb
    obtain ⟨a2, c2, rfl, _, _, g⟩ := hv2.open
    obtain ⟨b2, o2, rfl, _, hc⟩ := g _ hs
    rw [(hk.lab hs).1] at hc
    have HE := Lib.hid (tellV_yes (bs := l) hk)
    rw [runV_yes hk]
    have hn2 : (m.lb.length : Int) ≤ 65536 := by have := hk.lbs.2.1; omega
    obtain ⟨n, hn⟩ : ∃ n, n = m.lb.length := ⟨_, rfl⟩
    obtain ⟨s, hs'⟩ : ∃ s, s = run m l := ⟨_, rfl⟩
    rw [← hn] at hs x2 hn2
    rw [← hs'] at hs hc HE ⊢
    obtain ⟨t, ht⟩ : ∃ t, t = lab m s := ⟨_, rfl⟩
    rw [← ht] at hc HE
    have t0 : ((s : Int) == -1) = false := by simp <;> omega
    clear hk hv2 g hn hs' ht
    go_wp2_with fail
    go_ret
    exact ⟨Base.ret_int HE.out.symm, HB1.out⟩
  · have HE := Lib.hid (tellV_no (bs := l) hk)
    rw [runV_no hk]
    clear hk
    go_wp2_with fail
    go_ret
    exact ⟨Base.ret_int HE.out.symm, HB1.out⟩
set_option maxRecDepth 100000 in
set_option maxHeartbeats 2000000 in
theorem Name_any' {C : Array Value} {m : Mc} {v : Value} {l : List Nat} (w : World) (h : IsM w.heap.size w C m) (hv : BS w.heap.size w v l) :
    Calls Tryd.prog 12 #[.agg C, v] w fun e w' => e = .returned (.string (nameV m l)) ∧ Below w.heap.size w w' := by
  have hx := Bx.new h
  have hb0 : Below w.heap.size w (w.alloc (.cells C 27)) := (Below.refl _ _).alloc (Nat.le_refl _) _
  have HR := Lib.hid (Tell_any (w.alloc (.cells C 27)) hx.is (hv.next hb0))
  have HL2 := Lib.hid hv.2
  obtain ⟨a, cap, rfl, _, _, _⟩ := hv.open
  have HX := Lib.hid hx; have HB0 := Lib.hid hb0
  clear h hx hb0 hv
  go_enter Tryd.func12, Tryd.ntmps12
  go_wp2_with (refine wpList_load_dfa rfl (.tmp 2) rfl rfl HX.out ?_)
  refine HR.out.mono ?_
  rintro e w1 ⟨rfl, hb1⟩
  have HX1 := Lib.hid (HX.out.below hb1)
  have HB1 := Lib.hid (HB0.out.trans (hb1.mono HB0.out.size))
  clear hb1
  by_cases hk : Ok m
  · have hs := (hk.lab (run_ok hk HL2.out)).2
    have HE := Lib.hid (nameV_yes (bs := l) hk)
    rw [tellV_yes hk]
    have hn2 : (m.nm.length : Int) ≤ 64 := by have := hk.nms.1; omega
    obtain ⟨t, ht⟩ : ∃ t, t = lab m (run m l) := ⟨_, rfl⟩
    rw [← ht] at hs HE ⊢
    cases t with
    | zero =>
      go_wp2_with fail
      go_ret
      exact ⟨by rw [HE.out]; rfl, HB1.out⟩
    | succ t =>
      obtain ⟨v2, x2, hv2⟩ := HX1.out.nm
      obtain ⟨a2, c2, rfl, _, _, g⟩ := hv2.open
      obtain ⟨b2, o2, rfl, _, hc⟩ := g t (by omega)
      have HN := Lib.hid (show nameOf m (t + 1) = m.nm.getD t ByteArray.empty from rfl)
      obtain ⟨y, hy⟩ : ∃ y, y = m.nm.getD t ByteArray.empty := ⟨_, rfl⟩
      rw [← hy] at hc HN
      obtain ⟨n, hn⟩ : ∃ n, n = m.nm.length := ⟨_, rfl⟩
      rw [← hn] at hs x2 hn2
      have hw1 : wrap64 ((t : Int) + 1 - 1) = t := by unfold wrap64; omega
      have hcast : ((t + 1 : Nat) : Int) = (t : Int) + 1 := by omega
      have t0 : (((t : Int) + 1) == 0) = false := by simp <;> omega
      rw [hcast]
      clear hk hv2 g hn ht hy
      go_wp2_with fail
      go_ret
      exact ⟨by rw [HE.out, HN.out]; rfl, HB1.out⟩
  · have HE := Lib.hid (nameV_no (bs := l) hk)
    rw [tellV_no hk]
    clear hk
    go_wp2_with fail
    go_ret
    exact ⟨by rw [HE.out]; rfl, HB1.out⟩
end Go.Proofs.YthefhkgjadfhgaaDoor.DfaW
