/- Walks of Tell, Name. -/
import Derived.Test.YtkghnjgioijgpaaRun
namespace Go.Proofs.Ytkghnjgioijgpaa.DfaW
set_option linter.unusedVariables false
open Go.RowKit Go.Maps Go.Proofs.Ytkghnjgioijgpaa.PartM Go.Proofs.Ytkghnjgioijgpaa.PartW

theorem run_ok {m : Mc} (h : Ok m) {l : List Nat} (hl : ∀ b ∈ l, b < 256) : run m l < m.lb.length := run_lt h hl 0 h.zero
set_option maxRecDepth 100000 in
set_option maxHeartbeats 2000000 in
theorem Tell_any {C : Array Value} {m : Mc} {v : Value} {l : List Nat} (w : World) (h : IsM w.heap.size w C m) (hv : BS w.heap.size w v l) :
    Calls Try.prog 15 #[.agg C, v] w fun e w' => e = .returned (.int .i64 (tellV m l)) ∧ Below w.heap.size w w' := by
  have hx := Bx.new h
  have hb0 : Below w.heap.size w (w.alloc (.cells C 27)) := (Below.refl _ _).alloc (Nat.le_refl _) _
  have HR := Lib.hid (Run_any (w.alloc (.cells C 27)) hx.is (hv.next hb0))
  have HL2 := Lib.hid hv.2
  obtain ⟨a, cap, rfl, _, _, _⟩ := hv.open
  have HX := Lib.hid hx; have HB0 := Lib.hid hb0
  clear h hx hb0 hv
  go_enter Try.func15, Try.ntmps15
  go_wp2_with (refine wpList_load_dfa rfl (.tmp 2) rfl rfl HX.out ?_)
  refine HR.out.mono ?_
  rintro e w1 ⟨rfl, hb1⟩
  have HX1 := Lib.hid (HX.out.below hb1)
  have HB1 := Lib.hid (HB0.out.trans (hb1.mono HB0.out.size))
  clear hb1
  by_cases hk : Ok m
  · have hs := run_ok hk HL2.out
    obtain ⟨v2, x2, hv2⟩ := HX1.out.lb
    obtain ⟨a2, c2, rfl, _, _, g⟩ := hv2.open
    obtain ⟨b2, o2, rfl, _, hc⟩ := g _ hs
    rw [(hk.lab hs).1] at hc
    have HE := Lib.hid (tellV_yes (bs := l) hk)
    rw [runV_yes hk]
    have hn2 : (m.lb.length : Int) ≤ 65536 := by have := hk.lbs.2.1; omega
    obtain ⟨n, hn⟩ : ∃ n, n = m.lb.length := ⟨_, rfl⟩
    obtain ⟨s, hs'⟩ : ∃ s, s = run m l := ⟨_, rfl⟩
    rw [← hn] at hs x2 hn2
    rw [← hs'] at hs hc HE ⊢
    obtain ⟨t, ht⟩ : ∃ t, t = lab m s := ⟨_, rfl⟩
    rw [← ht] at hc HE
    have t0 : ((s : Int) == -1) = false := by simp <;> omega
    clear hk hv2 g hn hs' ht
    go_wp2_with fail
    go_ret
    exact ⟨Base.ret_int HE.out.symm, HB1.out⟩
  · have HE := Lib.hid (tellV_no (bs := l) hk)
    rw [runV_no hk]
    clear hk
    go_wp2_with fail
    go_ret
    exact ⟨Base.ret_int HE.out.symm, HB1.out⟩
set_option maxRecDepth 100000 in
set_option maxHeartbeats 2000000 in
theorem Name_any' {C : Array Value} {m : Mc} {v : Value} {l : List Nat} (w : World) (h : IsM w.heap.size w C m) (hv : BS w.heap.size w v l) :
    Calls Try.prog 16 #[.agg C, v] w fun e w' => e = .returned (.string (nameV m l)) ∧ Below w.heap.size w w' := by
  have hx := Bx.new h
  have hb0 : Below w.heap.size w (w.alloc (.cells C 27)) := (Below.refl _ _).alloc (Nat.le_refl _) _
  have HR := Lib.hid (Tell_any (w.alloc (.cells C 27)) hx.is (hv.next hb0))
  have HL2 := Lib.hid hv.2
  obtain ⟨a, cap, rfl, _, _, _⟩ := hv.open
  have HX := Lib.hid hx; have HB0 := Lib.hid hb0
  clear h hx hb0 hv
  go_enter Try.func16, Try.ntmps16
  go_wp2_with (refine wpList_load_dfa rfl (.tmp 2) rfl rfl HX.out ?_)
  refine HR.out.mono ?_
  rintro e w1 ⟨rfl, hb1⟩
  have HX1 := Lib.hid (HX.out.below hb1)
  have HB1 := Lib.hid (HB0.out.trans (hb1.mono HB0.out.size))
  clear hb1
  by_cases hk : Ok m
  · have hs := (hk.lab (run_ok hk HL2.out)).2
    have HE := Lib.hid (nameV_yes (bs := l) hk)
    rw [tellV_yes hk]
    have hn2 : (m.nm.length : Int) ≤ 64 := by have := hk.nms.1; omega
    obtain ⟨t, ht⟩ : ∃ t, t = lab m (run m l) := ⟨_, rfl⟩
    rw [← ht] at hs HE ⊢
    cases t with
    | zero =>
      go_wp2_with fail
      go_ret
      exact ⟨by rw [HE.out]; rfl, HB1.out⟩
    | succ t =>
      obtain ⟨v2, x2, hv2⟩ := HX1.out.nm
      obtain ⟨a2, c2, rfl, _, _, g⟩ := hv2.open
      obtain ⟨b2, o2, rfl, _, hc⟩ := g t (by omega)
      have HN := Lib.hid (show nameOf m (t + 1) = m.nm.getD t ByteArray.empty from rfl)
      obtain ⟨y, hy⟩ : ∃ y, y = m.nm.getD t ByteArray.empty := ⟨_, rfl⟩
      rw [← hy] at hc HN
      obtain ⟨n, hn⟩ : ∃ n, n = m.nm.length := ⟨_, rfl⟩
      rw [← hn] at hs x2 hn2
      have hw1 : wrap64 ((t : Int) + 1 - 1) = t := by unfold wrap64; omega
      have hcast : ((t + 1 : Nat) : Int) = (t : Int) + 1 := by omega
      have t0 : (((t : Int) + 1) == 0) = false := by simp <;> omega
      rw [hcast]
      clear hk hv2 g hn ht hy
      go_wp2_with fail
      go_ret
      exact ⟨by rw [HE.out, HN.out]; rfl, HB1.out⟩
  · have HE := Lib.hid (nameV_no (bs := l) hk)
    rw [tellV_no hk]
    clear hk
    go_wp2_with fail
    go_ret
    exact ⟨by rw [HE.out]; rfl, HB1.out⟩
end Go.Proofs.Ytkghnjgioijgpaa.DfaW
