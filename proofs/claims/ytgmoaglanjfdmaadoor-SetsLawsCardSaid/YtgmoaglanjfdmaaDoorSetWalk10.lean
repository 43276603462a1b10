/- Walks of layer 2: the document's Spans. -/
import Derived.Test.YtgmoaglanjfdmaaDoorSetWalk9
import Derived.Test.YtgmoaglanjfdmaaDoorSpanMath
namespace Go.Proofs.YtgmoaglanjfdmaaDoor.SetW
set_option linter.unusedVariables false
open Go.RowKit Go.Proofs.YtgmoaglanjfdmaaDoor.SetM

theorem infoPair : (Tryd.prog.info? 44).map (fun i => (i.zero, i.size, i.bytes)) = some (some (.agg #[.int .u8 0, .int .u8 0]), 2, 2) := by kernel_rfl
/-- Pieces as cells. -/
def pairCells (l : List (Nat × Nat)) : List Value := l.flatMap fun p => [u8 p.1, u8 p.2]
theorem pairCells_snoc (l : List (Nat × Nat)) (p : Nat × Nat) : pairCells (l ++ [p]) = pairCells l ++ [u8 p.1, u8 p.2] := by
  unfold pairCells; rw [List.flatMap_append]; simp
theorem pairCells_length (l : List (Nat × Nat)) : (pairCells l).length = l.length * 2 := by
  induction l with
  | nil => rfl
  | cons p l ih => show ([u8 p.1, u8 p.2] ++ pairCells l).length = _; rw [List.length_append, ih]; simp; omega
theorem refHas_int (f : Nat → Bool) (z : Int) (h0 : 0 ≤ z) (h : z < 256) (w : World) :
    Calls Tryd.prog 20 #[SV f, .int .i64 z] w fun e w' => e = .returned (.bool (f z.toNat)) ∧ Below w.heap.size w w' := by
  obtain ⟨n, rfl⟩ : ∃ n : Nat, z = n := ⟨z.toNat, by omega⟩
  exact refHas_any f n (by omega) w
theorem build2 (a b : Int) (w : World) : (Instr.build 44 #[(0, .int .u8 a), (1, .int .u8 b)]).run Tryd.prog w = .ok (.agg #[.int .u8 a, .int .u8 b]) w := run_build w 44 _ _ (by kernel_rfl)
theorem cell_two_new (w : World) (x y : Value) (t : TypeId) : ∀ j u, [x, y][j]? = some u → (w.alloc (.cells #[x, y] t)).cell? ((⟨w.heap.size, 0, none⟩ : Addr).add j) = some u := fun j u h => by
  rcases j with _ | _ | j
  · have : x = u := by simpa using h
    subst this
    rw [show ((⟨w.heap.size, 0, none⟩ : Addr).add 0) = ⟨w.heap.size, 0, none⟩ from rfl, World.cell?_alloc_new]; rfl
  · have : y = u := by simpa using h
    subst this
    rw [show ((⟨w.heap.size, 0, none⟩ : Addr).add (0 + 1)) = ⟨w.heap.size, 1, none⟩ from rfl, World.cell?_alloc_new]; rfl
  · simp at h
theorem spF_small {f : Nat → Bool} : (spF f 256).length ≤ 256 := spF_length f 256

set_option maxRecDepth 100000 in
set_option maxHeartbeats 2000000 in
theorem refSpans_any (f : Nat → Bool) (w : World) :
    Calls Tryd.prog 23 #[SV f] w fun e w' => ∃ v, e = .returned v ∧ w'.ownsRow w.heap.size 44 2 v (spF f 256).length (pairCells (spF f 256)) ∧ Below w.heap.size w w' := by
  obtain ⟨i0, hi, hz0, hz1, hz2⟩ := info_parts infoPair
  have hb2l := build2
  obtain ⟨B, hB⟩ : ∃ B, B = w.heap.size := ⟨_, rfl⟩
  have HB := Lib.hid hB
  obtain ⟨C, hC⟩ : ∃ C, C = w.heap.size + 1 := ⟨_, rfl⟩
  have HC := Lib.hid hC
  clear hB hC
  have hF := HoldsS.new w f 25
  have hb0 : Below w.heap.size w (w.alloc (.cells #[.int .u64 (wd f 0), .int .u64 (wd f 1), .int .u64 (wd f 2), .int .u64 (wd f 3)] 25)) := (Below.refl _ _).alloc (Nat.le_refl _) _
  have hown0 := World.ownsRow_made (w.alloc (.cells #[.int .u64 (wd f 0), .int .u64 (wd f 1), .int .u64 (wd f 2), .int .u64 (wd f 3)] 25)) #[] 0 (base := w.heap.size + 1) (e := 44) (size := 2) (by simp) (by decide) rfl
  have hbel0 : Below (w.heap.size + 1) (w.alloc (.cells #[.int .u64 (wd f 0), .int .u64 (wd f 1), .int .u64 (wd f 2), .int .u64 (wd f 3)] 25)) ((w.alloc (.cells #[.int .u64 (wd f 0), .int .u64 (wd f 1), .int .u64 (wd f 2), .int .u64 (wd f 3)] 25)).alloc (.cells #[] 44)) := (Below.refl _ _).alloc (by simp) _
  have hs0 : (w.alloc (.cells #[.int .u64 (wd f 0), .int .u64 (wd f 1), .int .u64 (wd f 2), .int .u64 (wd f 3)] 25)).heap.size = w.heap.size + 1 := World.size_alloc _ _
  rw [hs0] at hown0
  generalize hW : w.alloc (.cells #[.int .u64 (wd f 0), .int .u64 (wd f 1), .int .u64 (wd f 2), .int .u64 (wd f 3)] 25) = W1 at *
  have HW := Lib.hid hW
  have HS := Lib.hid hs0
  have HOWN := Lib.hid hown0
  have HBEL := Lib.hid hbel0
  have HF := Lib.hid hF
  have HB0 := Lib.hid hb0
  clear hW hs0 hown0 hbel0 hF hb0
  rw [← HB.out] at HF
  rw [← HC.out] at HS HOWN HBEL
  go_enter Tryd.func23, Tryd.ntmps23
  go_wp2_with fail
  rw [HW.out, ← HC.out, ← HB.out]
  go_loopw [3, 4, 5] (fun u lo i wr => ∃ k : Nat, k ≤ 256 ∧ i = .int .i64 k ∧ lo = .int .i64 (loF f k) ∧ wr.ownsRow C 44 2 u (spF f k).length (pairCells (spF f k)) ∧ Below C W1 wr) (fun _ _ i _ => 256 - (intOf i).toNat)
  case atStart =>
    exact ⟨0, Nat.zero_le _, rfl, rfl, by simpa [spF, pairCells] using HOWN.out, HBEL.out⟩
  case round =>
    obtain ⟨k, hk, rfl, rfl, hown, hb⟩ := hrel
    have hFr : HoldsS wr B f := HF.out.below (by rw [HS.out]; exact hb)
    by_cases hlt : k < 256
    · have c0 := hFr.c0; have c1 := hFr.c1; have c2 := hFr.c2; have c3 := hFr.c3
      go_wp2_with fail
      refine (refHas_any _ _ hlt _).mono ?_
      rintro e w1 ⟨rfl, hb1⟩
      have hown1 := owns_below hown hb1
      have hF1 := hFr.below hb1
      have hCr : C ≤ wr.heap.size := by have := hb.size; rw [HS.out] at this; exact this
      have hb2 := hb.trans (hb1.mono hCr)
      have hle := spF_length f k
      have hCw : C ≤ w1.heap.size := by have := hb2.size; rw [HS.out] at this; exact this
      clear c0 c1 c2 c3 hown hb hb1 hFr hCr
      cases hf : f k
      · have HN := Lib.hid (spF_no (f := f) (k := k) (by simp [isHi, hf])); have HL := Lib.hid (loF_no (f := f) (k := k) (by simp [isLo, hf])); clear hf
        go_wp2_with fail
        refine ⟨⟨k + 1, by omega, by go_num, by rw [HL.out], ?_, hb2⟩, by simp [intOf]; omega⟩
        rw [HN.out]; exact hown1
      · have l0 := loF_le f k
        have c0 := hF1.c0; have c1 := hF1.c1; have c2 := hF1.c2; have c3 := hF1.c3
        rcases (show (k = 0) ∨ (k ≠ 0 ∧ f (k - 1) = false) ∨ (k ≠ 0 ∧ f (k - 1) = true) by
            by_cases h : k = 0
            · exact .inl h
            · cases h2 : f (k - 1)
              · exact .inr (.inl ⟨h, rfl⟩)
              · exact .inr (.inr ⟨h, rfl⟩)) with hs | ⟨hs, hs2⟩ | ⟨hs, hs2⟩
        · have HL := Lib.hid (loF_yes (f := f) (k := k) (by subst hs; simp [isLo, hf]))
          have t0 : ((k : Int) == 0) = true := by simp [hs]
          have k0 : k ≤ 0 := by omega
          have lz : loF f (k + 1) ≤ k := loF_lt f k
          rcases (show (k = 255) ∨ (k ≠ 255 ∧ f (k + 1) = false) ∨ (k ≠ 255 ∧ f (k + 1) = true) by
              by_cases h : k = 255
              · exact .inl h
              · cases h2 : f (k + 1)
                · exact .inr (.inl ⟨h, rfl⟩)
                · exact .inr (.inr ⟨h, rfl⟩)) with he | ⟨he, he2⟩ | ⟨he, he2⟩
          · omega
          · have HN := Lib.hid (spF_yes (f := f) (k := k) (by simp [isHi, hf, he2]))
            have t1 : ((k : Int) == 255) = false := by simp; omega
            have k1 : k < 255 := by omega
            have HQ := Lib.hid (show f ((k : Int) + 1).toNat = false by rw [show ((k : Int) + 1).toNat = k + 1 by omega]; exact he2)
            clear hf he2 he hs
            go_wp2_with fail
            refine (refHas_int f _ (by omega) (by omega) _).mono ?_
            rintro e w3 ⟨rfl, hb5⟩
            rw [HQ.out]
            have hown3 := owns_below hown1 hb5
            have hb6 := hb2.trans (hb5.mono hCw)
            have hCw3 : C ≤ w3.heap.size := by have := hb6.size; rw [HS.out] at this; exact this
            clear hb5
            have HO := Lib.hid hown3
            generalize hlen : (spF f k).length = n at *
            have HLEN := Lib.hid hlen
            clear hlen
            go_wp2_with (first | (at_builtin; refine wpList_append_own _ rfl (.tmp 34) (.tmp 40) 41 rfl C 44 i0 (.agg #[.int .u8 0, .int .u8 0]) 2 2 Tryd.underlying41 hi hz0 hz1 hz2 rfl (by decide) _ _ _ rfl (hown3.alloc _) ⟨w3.heap.size, 0, none⟩ 1 1 [.int .u8 (k : Nat), .int .u8 k] rfl rfl (cell_two_new _ _ _ _) (by intro u hu; rcases List.mem_cons.1 hu with rfl | hu; rfl; rw [List.mem_singleton] at hu; subst hu; rfl) (by unfold maxLen; omega) (by omega) (Nat.le_trans hCw3 (by simp)) ?_; intro v' w4 hown4 hgrow4 _))
            refine ⟨⟨k + 1, by omega, by go_num, by rw [HL.out], ?_, ?_⟩, by simp [intOf]; omega⟩
            · rw [HN.out, HL.out, List.length_append, pairCells_snoc, HLEN.out]; exact hown4
            · exact (hb6.alloc hCw3 _).grown hgrow4 (Nat.le_trans hCw3 (by simp)) (fun j hj => (World.ownsRow.lt HO.out j hj).1)
          · have HN := Lib.hid (spF_no (f := f) (k := k) (by simp [isHi, hf, he, he2]))
            have t1 : ((k : Int) == 255) = false := by simp; omega
            have k1 : k < 255 := by omega
            have HQ := Lib.hid (show f ((k : Int) + 1).toNat = true by rw [show ((k : Int) + 1).toNat = k + 1 by omega]; exact he2)
            clear hf he2 he hs
            go_wp2_with fail
            refine (refHas_int f _ (by omega) (by omega) _).mono ?_
            rintro e w3 ⟨rfl, hb5⟩
            rw [HQ.out]
            have hown3 := owns_below hown1 hb5
            have hb6 := hb2.trans (hb5.mono hCw)
            have hCw3 : C ≤ w3.heap.size := by have := hb6.size; rw [HS.out] at this; exact this
            clear hb5
            go_wp2_with fail
            refine ⟨⟨k + 1, by omega, by go_num, by rw [HL.out], ?_, hb6⟩, by simp [intOf]; omega⟩
            rw [HN.out]; exact hown3
        · have HL := Lib.hid (loF_yes (f := f) (k := k) (by simp [isLo, hf, hs2]))
          have t0 : ((k : Int) == 0) = false := by simpa using hs
          have k0 : 1 ≤ k := by omega
          have HP := Lib.hid (show f ((k : Int) - 1).toNat = false by rw [show ((k : Int) - 1).toNat = k - 1 by omega]; exact hs2)
          have lz : loF f (k + 1) ≤ k := loF_lt f k
          rcases (show (k = 255) ∨ (k ≠ 255 ∧ f (k + 1) = false) ∨ (k ≠ 255 ∧ f (k + 1) = true) by
              by_cases h : k = 255
              · exact .inl h
              · cases h2 : f (k + 1)
                · exact .inr (.inl ⟨h, rfl⟩)
                · exact .inr (.inr ⟨h, rfl⟩)) with he | ⟨he, he2⟩ | ⟨he, he2⟩
          · have HN := Lib.hid (spF_yes (f := f) (k := k) (by subst he; simp [isHi, hf]))
            have t1 : ((k : Int) == 255) = true := by simp [he]
            have k1 : 255 ≤ k := by omega
            clear hf hs2 he hs
            go_wp2_with fail
            refine (refHas_int f _ (by omega) (by omega) _).mono ?_
            rintro e w2 ⟨rfl, hb3⟩
            rw [HP.out]
            have hown2 := owns_below hown1 hb3
            have hF2 := hF1.below hb3
            have hb4 := hb2.trans (hb3.mono hCw)
            have hCw2 : C ≤ w2.heap.size := by have := hb4.size; rw [HS.out] at this; exact this
            clear c0 c1 c2 c3 hb3
            have c0 := hF2.c0; have c1 := hF2.c1; have c2 := hF2.c2; have c3 := hF2.c3
            have HO := Lib.hid hown2
            generalize hlen : (spF f k).length = n at *
            have HLEN := Lib.hid hlen
            clear hlen
            go_wp2_with (first | (at_builtin; refine wpList_append_own _ rfl (.tmp 34) (.tmp 40) 41 rfl C 44 i0 (.agg #[.int .u8 0, .int .u8 0]) 2 2 Tryd.underlying41 hi hz0 hz1 hz2 rfl (by decide) _ _ _ rfl (hown2.alloc _) ⟨w2.heap.size, 0, none⟩ 1 1 [.int .u8 (k : Nat), .int .u8 k] rfl rfl (cell_two_new _ _ _ _) (by intro u hu; rcases List.mem_cons.1 hu with rfl | hu; rfl; rw [List.mem_singleton] at hu; subst hu; rfl) (by unfold maxLen; omega) (by omega) (Nat.le_trans hCw2 (by simp)) ?_; intro v' w4 hown4 hgrow4 _))
            refine ⟨⟨k + 1, by omega, by go_num, by rw [HL.out], ?_, ?_⟩, by simp [intOf]; omega⟩
            · rw [HN.out, HL.out, List.length_append, pairCells_snoc, HLEN.out]; exact hown4
            · exact (hb4.alloc hCw2 _).grown hgrow4 (Nat.le_trans hCw2 (by simp)) (fun j hj => (World.ownsRow.lt HO.out j hj).1)
          · have HN := Lib.hid (spF_yes (f := f) (k := k) (by simp [isHi, hf, he2]))
            have t1 : ((k : Int) == 255) = false := by simp; omega
            have k1 : k < 255 := by omega
            have HQ := Lib.hid (show f ((k : Int) + 1).toNat = false by rw [show ((k : Int) + 1).toNat = k + 1 by omega]; exact he2)
            clear hf hs2 he2 he hs
            go_wp2_with fail
            refine (refHas_int f _ (by omega) (by omega) _).mono ?_
            rintro e w2 ⟨rfl, hb3⟩
            rw [HP.out]
            have hown2 := owns_below hown1 hb3
            have hF2 := hF1.below hb3
            have hb4 := hb2.trans (hb3.mono hCw)
            have hCw2 : C ≤ w2.heap.size := by have := hb4.size; rw [HS.out] at this; exact this
            clear c0 c1 c2 c3 hb3
            have c0 := hF2.c0; have c1 := hF2.c1; have c2 := hF2.c2; have c3 := hF2.c3
            go_wp2_with fail
            refine (refHas_int f _ (by omega) (by omega) _).mono ?_
            rintro e w3 ⟨rfl, hb5⟩
            rw [HQ.out]
            have hown3 := owns_below hown2 hb5
            have hb6 := hb4.trans (hb5.mono hCw2)
            have hCw3 : C ≤ w3.heap.size := by have := hb6.size; rw [HS.out] at this; exact this
            clear hb5
            have HO := Lib.hid hown3
            generalize hlen : (spF f k).length = n at *
            have HLEN := Lib.hid hlen
            clear hlen
            go_wp2_with (first | (at_builtin; refine wpList_append_own _ rfl (.tmp 34) (.tmp 40) 41 rfl C 44 i0 (.agg #[.int .u8 0, .int .u8 0]) 2 2 Tryd.underlying41 hi hz0 hz1 hz2 rfl (by decide) _ _ _ rfl (hown3.alloc _) ⟨w3.heap.size, 0, none⟩ 1 1 [.int .u8 (k : Nat), .int .u8 k] rfl rfl (cell_two_new _ _ _ _) (by intro u hu; rcases List.mem_cons.1 hu with rfl | hu; rfl; rw [List.mem_singleton] at hu; subst hu; rfl) (by unfold maxLen; omega) (by omega) (Nat.le_trans hCw3 (by simp)) ?_; intro v' w4 hown4 hgrow4 _))
            refine ⟨⟨k + 1, by omega, by go_num, by rw [HL.out], ?_, ?_⟩, by simp [intOf]; omega⟩
            · rw [HN.out, HL.out, List.length_append, pairCells_snoc, HLEN.out]; exact hown4
            · exact (hb6.alloc hCw3 _).grown hgrow4 (Nat.le_trans hCw3 (by simp)) (fun j hj => (World.ownsRow.lt HO.out j hj).1)
          · have HN := Lib.hid (spF_no (f := f) (k := k) (by simp [isHi, hf, he, he2]))
            have t1 : ((k : Int) == 255) = false := by simp; omega
            have k1 : k < 255 := by omega
            have HQ := Lib.hid (show f ((k : Int) + 1).toNat = true by rw [show ((k : Int) + 1).toNat = k + 1 by omega]; exact he2)
            clear hf hs2 he2 he hs
            go_wp2_with fail
            refine (refHas_int f _ (by omega) (by omega) _).mono ?_
            rintro e w2 ⟨rfl, hb3⟩
            rw [HP.out]
            have hown2 := owns_below hown1 hb3
            have hF2 := hF1.below hb3
            have hb4 := hb2.trans (hb3.mono hCw)
            have hCw2 : C ≤ w2.heap.size := by have := hb4.size; rw [HS.out] at this; exact this
            clear c0 c1 c2 c3 hb3
            have c0 := hF2.c0; have c1 := hF2.c1; have c2 := hF2.c2; have c3 := hF2.c3
            go_wp2_with fail
            refine (refHas_int f _ (by omega) (by omega) _).mono ?_
            rintro e w3 ⟨rfl, hb5⟩
            rw [HQ.out]
            have hown3 := owns_below hown2 hb5
            have hb6 := hb4.trans (hb5.mono hCw2)
            have hCw3 : C ≤ w3.heap.size := by have := hb6.size; rw [HS.out] at this; exact this
            clear hb5
            go_wp2_with fail
            refine ⟨⟨k + 1, by omega, by go_num, by rw [HL.out], ?_, hb6⟩, by simp [intOf]; omega⟩
            rw [HN.out]; exact hown3
        · have HL := Lib.hid (loF_no (f := f) (k := k) (by simp [isLo, hf, hs, hs2]))
          have t0 : ((k : Int) == 0) = false := by simpa using hs
          have k0 : 1 ≤ k := by omega
          have HP := Lib.hid (show f ((k : Int) - 1).toNat = true by rw [show ((k : Int) - 1).toNat = k - 1 by omega]; exact hs2)
          have lz : loF f (k + 1) ≤ k := loF_lt f k
          rcases (show (k = 255) ∨ (k ≠ 255 ∧ f (k + 1) = false) ∨ (k ≠ 255 ∧ f (k + 1) = true) by
              by_cases h : k = 255
              · exact .inl h
              · cases h2 : f (k + 1)
                · exact .inr (.inl ⟨h, rfl⟩)
                · exact .inr (.inr ⟨h, rfl⟩)) with he | ⟨he, he2⟩ | ⟨he, he2⟩
          · have HN := Lib.hid (spF_yes (f := f) (k := k) (by subst he; simp [isHi, hf]))
            have t1 : ((k : Int) == 255) = true := by simp [he]
            have k1 : 255 ≤ k := by omega
            clear hf hs2 he hs
            go_wp2_with fail
            refine (refHas_int f _ (by omega) (by omega) _).mono ?_
            rintro e w2 ⟨rfl, hb3⟩
            rw [HP.out]
            have hown2 := owns_below hown1 hb3
            have hF2 := hF1.below hb3
            have hb4 := hb2.trans (hb3.mono hCw)
            have hCw2 : C ≤ w2.heap.size := by have := hb4.size; rw [HS.out] at this; exact this
            clear c0 c1 c2 c3 hb3
            have c0 := hF2.c0; have c1 := hF2.c1; have c2 := hF2.c2; have c3 := hF2.c3
            have HO := Lib.hid hown2
            generalize hlen : (spF f k).length = n at *
            have HLEN := Lib.hid hlen
            clear hlen
            go_wp2_with (first | (at_builtin; refine wpList_append_own _ rfl (.tmp 34) (.tmp 40) 41 rfl C 44 i0 (.agg #[.int .u8 0, .int .u8 0]) 2 2 Tryd.underlying41 hi hz0 hz1 hz2 rfl (by decide) _ _ _ rfl (hown2.alloc _) ⟨w2.heap.size, 0, none⟩ 1 1 [.int .u8 (loF f k : Nat), .int .u8 k] rfl rfl (cell_two_new _ _ _ _) (by intro u hu; rcases List.mem_cons.1 hu with rfl | hu; rfl; rw [List.mem_singleton] at hu; subst hu; rfl) (by unfold maxLen; omega) (by omega) (Nat.le_trans hCw2 (by simp)) ?_; intro v' w4 hown4 hgrow4 _))
            refine ⟨⟨k + 1, by omega, by go_num, by rw [HL.out], ?_, ?_⟩, by simp [intOf]; omega⟩
            · rw [HN.out, HL.out, List.length_append, pairCells_snoc, HLEN.out]; exact hown4
            · exact (hb4.alloc hCw2 _).grown hgrow4 (Nat.le_trans hCw2 (by simp)) (fun j hj => (World.ownsRow.lt HO.out j hj).1)
          · have HN := Lib.hid (spF_yes (f := f) (k := k) (by simp [isHi, hf, he2]))
            have t1 : ((k : Int) == 255) = false := by simp; omega
            have k1 : k < 255 := by omega
            have HQ := Lib.hid (show f ((k : Int) + 1).toNat = false by rw [show ((k : Int) + 1).toNat = k + 1 by omega]; exact he2)
            clear hf hs2 he2 he hs
            go_wp2_with fail
            refine (refHas_int f _ (by omega) (by omega) _).mono ?_
            rintro e w2 ⟨rfl, hb3⟩
            rw [HP.out]
            have hown2 := owns_below hown1 hb3
            have hF2 := hF1.below hb3
            have hb4 := hb2.trans (hb3.mono hCw)
            have hCw2 : C ≤ w2.heap.size := by have := hb4.size; rw [HS.out] at this; exact this
            clear c0 c1 c2 c3 hb3
            have c0 := hF2.c0; have c1 := hF2.c1; have c2 := hF2.c2; have c3 := hF2.c3
            go_wp2_with fail
            refine (refHas_int f _ (by omega) (by omega) _).mono ?_
            rintro e w3 ⟨rfl, hb5⟩
            rw [HQ.out]
            have hown3 := owns_below hown2 hb5
            have hb6 := hb4.trans (hb5.mono hCw2)
            have hCw3 : C ≤ w3.heap.size := by have := hb6.size; rw [HS.out] at this; exact this
            clear hb5
            have HO := Lib.hid hown3
            generalize hlen : (spF f k).length = n at *
            have HLEN := Lib.hid hlen
            clear hlen
            go_wp2_with (first | (at_builtin; refine wpList_append_own _ rfl (.tmp 34) (.tmp 40) 41 rfl C 44 i0 (.agg #[.int .u8 0, .int .u8 0]) 2 2 Tryd.underlying41 hi hz0 hz1 hz2 rfl (by decide) _ _ _ rfl (hown3.alloc _) ⟨w3.heap.size, 0, none⟩ 1 1 [.int .u8 (loF f k : Nat), .int .u8 k] rfl rfl (cell_two_new _ _ _ _) (by intro u hu; rcases List.mem_cons.1 hu with rfl | hu; rfl; rw [List.mem_singleton] at hu; subst hu; rfl) (by unfold maxLen; omega) (by omega) (Nat.le_trans hCw3 (by simp)) ?_; intro v' w4 hown4 hgrow4 _))
            refine ⟨⟨k + 1, by omega, by go_num, by rw [HL.out], ?_, ?_⟩, by simp [intOf]; omega⟩
            · rw [HN.out, HL.out, List.length_append, pairCells_snoc, HLEN.out]; exact hown4
            · exact (hb6.alloc hCw3 _).grown hgrow4 (Nat.le_trans hCw3 (by simp)) (fun j hj => (World.ownsRow.lt HO.out j hj).1)
          · have HN := Lib.hid (spF_no (f := f) (k := k) (by simp [isHi, hf, he, he2]))
            have t1 : ((k : Int) == 255) = false := by simp; omega
            have k1 : k < 255 := by omega
            have HQ := Lib.hid (show f ((k : Int) + 1).toNat = true by rw [show ((k : Int) + 1).toNat = k + 1 by omega]; exact he2)
            clear hf hs2 he2 he hs
            go_wp2_with fail
            refine (refHas_int f _ (by omega) (by omega) _).mono ?_
            rintro e w2 ⟨rfl, hb3⟩
            rw [HP.out]
            have hown2 := owns_below hown1 hb3
            have hF2 := hF1.below hb3
            have hb4 := hb2.trans (hb3.mono hCw)
            have hCw2 : C ≤ w2.heap.size := by have := hb4.size; rw [HS.out] at this; exact this
            clear c0 c1 c2 c3 hb3
            have c0 := hF2.c0; have c1 := hF2.c1; have c2 := hF2.c2; have c3 := hF2.c3
            go_wp2_with fail
            refine (refHas_int f _ (by omega) (by omega) _).mono ?_
            rintro e w3 ⟨rfl, hb5⟩
            rw [HQ.out]
            have hown3 := owns_below hown2 hb5
            have hb6 := hb4.trans (hb5.mono hCw2)
            have hCw3 : C ≤ w3.heap.size := by have := hb6.size; rw [HS.out] at this; exact this
            clear hb5
            go_wp2_with fail
            refine ⟨⟨k + 1, by omega, by go_num, by rw [HL.out], ?_, hb6⟩, by simp [intOf]; omega⟩
            rw [HN.out]; exact hown3
    · obtain rfl : k = 256 := by omega
      have HOWN2 := Lib.hid hown
      clear hown
      go_wp2_with fail
      go_ret
      refine ⟨_, rfl, owns_mono HOWN2.out (by rw [HC.out]; omega), ?_⟩
      exact HB0.out.trans (hb.mono (by rw [HC.out]; omega))
end Go.Proofs.YtgmoaglanjfdmaaDoor.SetW
