/- Walks: the document's Size, all, Right. -/
import Derived.Test.YtogdjgfgmdphgaaDoorLies
import Derived.Test.YtogdjgfgmdphgaaDoorOne
namespace Go.Proofs.YtogdjgfgmdphgaaDoor.TreeW
set_option linter.unusedVariables false
open Go.RowKit Go.Proofs.YtogdjgfgmdphgaaDoor.TreeM
theorem refSize_any : ∀ (m : Nat) (n : Nd) (l : List Tr) (a : Option Addr) (cap : Nat) (w : World), sizeL l + 1 ≤ m → sizeL l ≤ 1048576 → Lies 0 w.heap.size w (.slice a l.length cap) l →
    Calls Tryd.prog 10 #[NV n (.slice a l.length cap)] w fun e w' => e = .returned (.int .i64 ((sizeL l + 1 : Nat) : Int)) ∧ Below w.heap.size w w' := by
  intro m
  induction m with
  | zero => intro n l a cap w h; exact absurd h (by omega)
  | succ m ih =>
    intro n l a cap w hm hbig hL
    have hmx := Nat.le_trans (length_le l) hbig
    have HL := Lib.hid hL; clear hL
    obtain ⟨B, hB⟩ : ∃ B, B = w.heap.size := ⟨_, rfl⟩
    have HB := Lib.hid hB; clear hB
    have IH := Lib.hid ih; clear ih
    go_enter Tryd.func10, Tryd.ntmps10
    go_wp2_with fail
    rw [← HB.out]
    go_loopw [3, 4] (fun s i wr => ∃ k : Nat, k ≤ l.length ∧ i = .int .i64 k ∧ s = .int .i64 ((sizeL (l.take k) + 1 : Nat) : Int) ∧ NodeAt wr B 0 n (.slice a l.length cap) ∧ Below w.heap.size w wr) (fun _ i _ => l.length - (intOf i).toNat)
    case atStart =>
      refine ⟨0, Nat.zero_le _, rfl, rfl, ?_, (Below.refl _ _).alloc (Nat.le_refl _) _⟩
      rw [HB.out]; exact NodeAt.new _ _ _ _
    case round =>
      obtain ⟨k, hk, rfl, rfl, hN, hb⟩ := hrel
      have c5 := hN.c5
      by_cases hlt : k < l.length
      · obtain ⟨b, o, a', cap', rfl, -, h1, h2, h3, h4, hA, hK⟩ := HL.out.at k hlt
        have hA2 := hA.below h4 hb
        have d0 := hA2.c0; have d1 := hA2.c1; have d2 := hA2.c2; have d3 := hA2.c3; have d4 := hA2.c4; have d5 := hA2.c5; have d6 := hA2.c6; have d7 := hA2.c7
        have HS := Lib.hid (sizeL_take l k hlt)
        have HT := Lib.hid (size_at l k hlt)
        have HZ := Lib.hid (size_kids l[k])
        have HU := Lib.hid (sizeL_le l k)
        have HK := Lib.hid (hK.under hb)
        have HN := Lib.hid hN
        have hz := hb.size
        generalize l[k].kids = lk at *
        generalize l[k].nd = nk at *
        clear hA hK hA2
        go_wp2_with fail
        refine (IH.out nk lk a' cap' wr (by have := HT.out; have := HZ.out; omega) (by have := HT.out; have := HZ.out; omega) (HK.out.mono (Nat.le_refl _) hz)).mono ?_
        rintro e w1 ⟨rfl, hb1⟩
        have hN1 := HN.out.below HN.out.lt hb1
        have hb2 := hb.trans (hb1.mono hz)
        clear c5 d0 d1 d2 d3 d4 d5 d6 d7
        have c5 := hN1.c5
        have hx := HT.out
        have hy := HU.out
        have hw := HZ.out
        go_wp2_with fail
        refine ⟨⟨k + 1, by omega, by go_num, ?_, hN1, hb2⟩, by simp [intOf]; omega⟩
        rw [HS.out, hw]; congr 1; omega
      · have HE := Lib.hid (show sizeL (l.take k) = sizeL l by rw [List.take_of_length_le (by omega)])
        go_wp2_with fail
        go_ret
        exact ⟨Base.ret_int (by rw [HE.out]), hb⟩

set_option maxHeartbeats 1000000 in
theorem refAll_any : ∀ (m : Nat) (n : Nd) (l : List Tr) (a : Option Addr) (cap : Nat) (w : World), sizeL l + 1 ≤ m → sizeL l ≤ 1048576 → Lies 0 w.heap.size w (.slice a l.length cap) l →
    Calls Tryd.prog 34 #[NV n (.slice a l.length cap)] w fun e w' => e = .returned (.bool (allR (.mk n l))) ∧ Below w.heap.size w w' := by
  intro m
  induction m with
  | zero => intro n l a cap w h; exact absurd h (by omega)
  | succ m ih =>
    intro n l a cap w hm hbig hL
    have hmx := Nat.le_trans (length_le l) hbig
    have HL := Lib.hid hL; clear hL
    obtain ⟨B, hB⟩ : ∃ B, B = w.heap.size := ⟨_, rfl⟩
    have HB := Lib.hid hB; clear hB
    have IH := Lib.hid ih; clear ih
    have HR := Lib.hid (show allR (.mk n l) = (allRL l && okR n l.length) from allR_kids _)
    go_enter Tryd.func34, Tryd.ntmps34
    go_wp2_with fail
    rw [← HB.out]
    go_loopw [3] (fun i wr => ∃ k : Nat, k ≤ l.length ∧ i = .int .i64 k ∧ Hid (∀ i (h : i < l.length), i < k → allR l[i] = true) ∧ NodeAt wr B 0 n (.slice a l.length cap) ∧ Below w.heap.size w wr) (fun i _ => l.length - (intOf i).toNat)
    case atStart =>
      refine ⟨0, Nat.zero_le _, rfl, Lib.hid (fun i _ h => by omega), ?_, (Below.refl _ _).alloc (Nat.le_refl _) _⟩
      rw [HB.out]; exact NodeAt.new _ _ _ _
    case round =>
      obtain ⟨k, hk, rfl, HA, hN, hb⟩ := hrel
      have c5 := hN.c5
      by_cases hlt : k < l.length
      · obtain ⟨b, o, a', cap', rfl, -, h1, h2, h3, h4, hA, hK⟩ := HL.out.at k hlt
        have hA2 := hA.below h4 hb
        have d0 := hA2.c0; have d1 := hA2.c1; have d2 := hA2.c2; have d3 := hA2.c3; have d4 := hA2.c4; have d5 := hA2.c5; have d6 := hA2.c6; have d7 := hA2.c7
        have HT := Lib.hid (size_at l k hlt)
        have HZ := Lib.hid (size_kids l[k])
        have HE := Lib.hid (Tr.eta l[k])
        have HK := Lib.hid (hK.under hb)
        have HN := Lib.hid hN
        have hz := hb.size
        have HNX := Lib.hid (fun (h : allR l[k] = true) => (show ∀ i (h : i < l.length), i < k + 1 → allR l[i] = true from fun i hi h1 => by
          by_cases h2 : i = k
          · subst h2; exact h
          · exact HA.out i hi (by omega)))
        have HST := Lib.hid (fun (h : allR l[k] = false) => (show allR (.mk n l) = false by rw [HR.out, allRL_at l k hlt h]; rfl))
        generalize l[k] = tk at *
        generalize hlk : tk.kids = lk at *
        generalize hnk : tk.nd = nk at *
        clear hlk hnk hA hK hA2
        cases hv : allR tk
        · have HV := Lib.hid hv; clear hv
          go_wp2_with fail
          refine (IH.out nk lk a' cap' wr (by have := HT.out; have := HZ.out; omega) (by have := HT.out; have := HZ.out; omega) (HK.out.mono (Nat.le_refl _) hz)).mono ?_
          rintro e w1 ⟨rfl, hb1⟩
          rw [HE.out, HV.out]
          have hb2 := hb.trans (hb1.mono hz)
          go_wp2_with fail
          go_ret
          exact ⟨Base.ret_bool (HST.out HV.out).symm, hb2⟩
        · have HV := Lib.hid hv; clear hv
          go_wp2_with fail
          refine (IH.out nk lk a' cap' wr (by have := HT.out; have := HZ.out; omega) (by have := HT.out; have := HZ.out; omega) (HK.out.mono (Nat.le_refl _) hz)).mono ?_
          rintro e w1 ⟨rfl, hb1⟩
          rw [HE.out, HV.out]
          have hN1 := HN.out.below HN.out.lt hb1
          have hb2 := hb.trans (hb1.mono hz)
          clear c5 d0 d1 d2 d3 d4 d5 d6 d7
          have c5 := hN1.c5
          go_wp2_with fail
          refine ⟨⟨k + 1, by omega, by go_num, Lib.hid (HNX.out HV.out), hN1, hb2⟩, by simp [intOf]; omega⟩
      · have HV := Lib.hid (show allRL l = true from allRL_of l (fun i h => HA.out i h (by omega)))
        have HN := Lib.hid hN
        have hz := hb.size
        have c0 := hN.c0; have c1 := hN.c1; have c2 := hN.c2; have c3 := hN.c3; have c4 := hN.c4; have c6 := hN.c6; have c7 := hN.c7
        go_wp2_with fail
        refine (one_any n a l.length cap wr).mono ?_
        rintro e w1 ⟨rfl, hb1⟩
        have hb2 := hb.trans (hb1.mono hz)
        go_wp2_with fail
        go_ret
        exact ⟨Base.ret_bool (by rw [HR.out, HV.out]; rfl), hb2⟩

theorem refRight_any (n : Nd) (l : List Tr) (a : Option Addr) (cap : Nat) (w : World) (hbig : sizeL l ≤ 1048576) (hL : Lies 0 w.heap.size w (.slice a l.length cap) l) :
    Calls Tryd.prog 8 #[NV n (.slice a l.length cap)] w fun e w' => e = .returned (.bool (right (.mk n l))) ∧ Below w.heap.size w w' := by
  have hmx := Nat.le_trans (length_le l) hbig
  have HL := Lib.hid hL; clear hL
  obtain ⟨B, hB⟩ : ∃ B, B = w.heap.size := ⟨_, rfl⟩
  have HB := Lib.hid hB; clear hB
  have HR := Lib.hid (show right (.mk n l) = (decide (sizeL l + 1 ≤ 4096) && allR (.mk n l)) by unfold right; rw [size_mk])
  have hN0 := NodeAt.new w n (.slice a l.length cap) 28
  have hb0 := (Below.refl w.heap.size w).alloc (Nat.le_refl _) (.cells #[.int .i64 n.K, .int .u64 n.a, .int .u64 n.b, .int .u64 n.c, .int .u64 n.d, .slice a l.length cap, .int .i64 n.L, .int .i64 n.H] 28)
  have HN0 := Lib.hid hN0; have HB0 := Lib.hid hb0
  clear hN0 hb0
  obtain ⟨s, hs⟩ : ∃ s, s = sizeL l + 1 := ⟨_, rfl⟩
  have hcall : ∀ W, Lies 0 W.heap.size W (.slice a l.length cap) l → Calls Tryd.prog 10 #[NV n (.slice a l.length cap)] W fun e w' => e = .returned (.int .i64 (s : Int)) ∧ Below W.heap.size W w' := fun W hW => by
    rw [hs]; exact refSize_any _ n l a cap W (Nat.le_refl _) hbig hW
  rw [← hs] at HR
  have HC := Lib.hid hcall
  clear hcall hs
  by_cases hs : s ≤ 4096
  · have hd : decide ((s : Int) ≤ 4096) = true := by simp; omega
    go_enter Tryd.func8, Tryd.ntmps8
    go_wp2_with fail
    rw [← HB.out]
    refine (HC.out _ (HL.out.grow HB0.out)).mono ?_
    rintro e w1 ⟨rfl, hb1⟩
    have hN1 := HN0.out.below HN0.out.lt hb1
    have hL1 := (HL.out.grow HB0.out).grow hb1
    have hb2 := HB0.out.trans (hb1.mono HB0.out.size)
    have HL1 := Lib.hid hL1; clear hL1
    rw [← HB.out] at hN1
    have c0 := hN1.c0; have c1 := hN1.c1; have c2 := hN1.c2; have c3 := hN1.c3; have c4 := hN1.c4; have c5 := hN1.c5; have c6 := hN1.c6; have c7 := hN1.c7
    go_wp2_with fail
    refine (refAll_any _ n l a cap w1 (Nat.le_refl _) hbig HL1.out).mono ?_
    rintro e w2 ⟨rfl, hb3⟩
    go_wp2_with fail
    go_ret
    exact ⟨Base.ret_bool (by rw [HR.out]; simp; omega), hb2.trans (hb3.mono hb2.size)⟩
  · have hd : decide ((s : Int) ≤ 4096) = false := by simp; omega
    go_enter Tryd.func8, Tryd.ntmps8
    go_wp2_with fail
    refine (HC.out _ (HL.out.grow HB0.out)).mono ?_
    rintro e w1 ⟨rfl, hb1⟩
    have hb2 := HB0.out.trans (hb1.mono HB0.out.size)
    go_wp2_with fail
    go_ret
    exact ⟨Base.ret_bool (by rw [HR.out]; simp; omega), hb2⟩
end Go.Proofs.YtogdjgfgmdphgaaDoor.TreeW
