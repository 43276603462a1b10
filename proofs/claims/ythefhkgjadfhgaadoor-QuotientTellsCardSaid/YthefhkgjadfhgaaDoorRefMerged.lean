/- Walk of the document's merged: of each class the first one that is not told apart from it. -/
import Derived.Test.YthefhkgjadfhgaaDoorRefAlike
namespace Go.Proofs.YthefhkgjadfhgaaDoor.DfaW
set_option linter.unusedVariables false
set_option linter.unusedSimpArgs false
open Go.RowKit Go.Maps Go.Proofs.YthefhkgjadfhgaaDoor.PartM Go.Proofs.YthefhkgjadfhgaaDoor.PartW
def mergedL (m : Mc) (k : Nat) : List Int := (List.range k).map fun c => (fst (ckE m) c : Int)
theorem mergedL_len (m : Mc) (k : Nat) : (mergedL m k).length = k := by simp [mergedL]
theorem mergedL_succ (m : Mc) (k : Nat) : mergedL m (k + 1) = mergedL m k ++ [(fst (ckE m) k : Int)] := by unfold mergedL; rw [List.range_succ, List.map_append]; rfl
theorem mergedL_at (m : Mc) {k c : Nat} (hc : c < k) : (mergedL m k).getD c 0 = (fst (ckE m) c : Nat) := by simp [mergedL, List.getD, hc]
set_option maxRecDepth 100000 in
set_option maxHeartbeats 4000000 in
theorem merged_any {C : Array Value} {m : Mc} {d : Nat} (w : World) (h : IsM w.heap.size w C m) (hok : Ok m) (hd : m.wd = (d : Int)) :
    Calls Tryd.prog 22 #[.agg C] w fun e w' => ∃ v, e = .returned v ∧ OI w' w.heap.size v (mergedL m d) ∧ Below w.heap.size w w' := by
  have HX := Lib.hid (Bx.new h)
  have HB0 := Lib.hid (show Below w.heap.size w (w.alloc (.cells C 27)) from (Below.refl _ _).alloc (Nat.le_refl _) _)
  have HOK := Lib.hid hok; have HD := Lib.hid hd
  have hd6 : (d : Int) ≤ 256 := by have := rk_le (E := byKey m.of) 256; have := hok.wd; omega
  have HO0 : Hid (OI ((w.alloc (.cells C 27)).alloc (.cells #[] 3)) (w.alloc (.cells C 27)).heap.size (.slice (some ⟨w.heap.size + 1, 0, none⟩) 0 0) []) := Lib.hid (by
    have := OI.empty (w.alloc (.cells C 27))
    rw [World.size_alloc] at this ⊢; exact this)
  clear h hok hd
  go_enter Tryd.func22, Tryd.ntmps22
  go_wp2_with fail
  generalize w.alloc (.cells C 27) = w1 at *
  go_loopw [3, 4] (fun u i wr => ∃ k : Nat, k ≤ d ∧ i = .int .i64 k ∧ OI wr w1.heap.size u (mergedL m k) ∧ Below w1.heap.size w1 wr) (fun _ i _ => d - (intOf i).toNat)
  case atStart => exact ⟨0, Nat.zero_le _, rfl, HO0.out, (Below.refl _ _).alloc (Nat.le_refl _) _⟩
  case round =>
    obtain ⟨k, hk, rfl, ho, hb⟩ := hrel
    obtain ⟨au, cu, rfl, _, _⟩ := ho.len
    rw [mergedL_len] at ho ⊢
    have hbx := HX.out.below hb
    have x0 := hbx.wd
    rw [HD.out] at x0
    have HBX := Lib.hid hbx; have HB := Lib.hid hb; have HO := Lib.hid ho
    by_cases hlt : k < d
    · have HLT := Lib.hid hlt
      clear ho hb hbx
      go_wp2_with fail
      clear x0
      obtain ⟨f, hf⟩ : ∃ f, f = fst (ckE m) k := ⟨_, rfl⟩
      have hfk : f ≤ k := by rw [hf]; exact fst_le _ _
      have HF := Lib.hid hf
      have HFK := Lib.hid hfk
      clear hf hfk
      go_loopw [5] (fun i wi => ∃ j : Nat, j ≤ f ∧ i = .int .i64 j ∧ Below wr.heap.size wr wi) (fun i _ => f - (intOf i).toNat)
      case atStart => exact ⟨0, Nat.zero_le _, rfl, Below.refl _ _⟩
      case round =>
        rename World => wi
        obtain ⟨j, hj, rfl, hbi⟩ := hrel
        have HBI := Lib.hid hbi; have HJ := Lib.hid hj
        have HXI := Lib.hid (HBX.out.below hbi)
        have hj5 : (j : Int) ≤ 256 := by have := HFK.out; have := HLT.out; omega
        clear hbi hj
        go_wp2_with (refine wpList_load_dfa rfl (.tmp 1) rfl rfl HXI.out ?_)
        refine (alike_any wi HXI.out.is HOK.out (a := j) (b := k) (by rw [HD.out]; have := HJ.out; have := HFK.out; have := HLT.out; omega) (by rw [HD.out]; have := HLT.out; omega)).mono ?_
        rintro e w2 ⟨hs, hb2⟩
        have HB2 := Lib.hid (HBI.out.trans (hb2.mono HBI.out.size))
        clear hb2
        rcases hs.elim with ⟨rfl, hp⟩ | ⟨rfl, hp⟩
        · have hjf : f = j := by have := fst_min hp; have := HJ.out; rw [← HF.out] at *; omega
          clear hs hp
          subst hjf
          have HO2 := Lib.hid ((HO.out.below HB2.out).below ((Below.refl _ w2).alloc (Nat.le_refl _) (.cells #[.int .i64 (f : Int)] 3)))
          have hbt := HB.out.trans (HB2.out.mono HB.out.size)
          have HBA := Lib.hid (hbt.alloc hbt.size (.cells #[.int .i64 (f : Int)] 3))
          clear hbt
          go_wp2_with (at_builtin; refine wpList_append_int rfl (.tmp 20) (.tmp 22) rfl rfl HO2.out HBA.out.size ⟨w2.heap.size, 0, none⟩ 1 (f : Int) rfl (by rw [World.cell?_alloc_new]; rfl) rfl (by rw [mergedL_len]; omega) ?_; intro v' w6 hO6 hb6; have HO6 := Lib.hid hO6; have HB6 := Lib.hid (HBA.out.trans hb6); clear hO6 hb6; go_frame)
          refine ⟨⟨k + 1, HLT.out, by go_num, ?_, HB6.out⟩, by have := HLT.out; simp [intOf]; omega⟩
          rw [mergedL_succ, ← HF.out]; exact HO6.out
        · have HNE := Lib.hid (show j < f by
            have : j ≠ f := fun e => hp (by rw [e, HF.out]; exact fst_alike (ckE_eqv m) k)
            have := HJ.out; omega)
          clear hs hp
          go_wp2_with fail
          exact ⟨⟨j + 1, HNE.out, by go_num, HB2.out⟩, by have := HNE.out; simp [intOf]; omega⟩
    · have hkd : k = d := by omega
      have HE := Lib.hid hkd
      clear hkd ho hb hbx
      go_wp2_with fail
      go_ret
      refine ⟨_, rfl, ?_, HB0.out.trans (HB.out.mono HB0.out.size)⟩
      have := owns_base HO.out HB0.out.size
      rw [← HE.out]; exact this
end Go.Proofs.YthefhkgjadfhgaaDoor.DfaW
