/- Walks of layer 2: the document's Bytes and Spans. -/
import Derived.Test.YtgmoaglanjfdmaaDoorSetWalk8
namespace Go.Proofs.YtgmoaglanjfdmaaDoor.SetW
set_option linter.unusedVariables false
open Go.RowKit Go.Proofs.YtgmoaglanjfdmaaDoor.SetM

theorem infoByte : (Tryd.prog.info? 5).map (fun i => (i.zero, i.size, i.bytes)) = some (some (.int .u8 0), 1, 1) := by kernel_rfl
/-- A byte as a value. -/
abbrev u8 (n : Nat) : Value := .int .u8 n

theorem owns_mono {W : World} {b b' : Nat} {e : TypeId} {size : Nat} {v : Value} {n : Nat} {xs : List Value} (h : W.ownsRow b e size v n xs) (hb : b' ≤ b) : W.ownsRow b' e size v n xs := by
  refine ⟨h.1, ?_⟩
  rcases h.2 with h2 | ⟨g, cap, cur, h1, h2, h3⟩
  · exact .inl h2
  · exact .inr ⟨g, cap, cur, h1, Nat.le_trans hb h2, h3⟩

theorem owns_below {W W' : World} {b : Nat} {e : TypeId} {size : Nat} {v : Value} {n : Nat} {xs : List Value} (h : W.ownsRow b e size v n xs) (hb : Below W.heap.size W W') : W'.ownsRow b e size v n xs :=
  h.kept (row := none) ⟨hb.os, hb.tape, hb.output, hb.size, fun k hk _ => hb.block k hk⟩ (by cases v.ownBlock <;> simp)

set_option maxRecDepth 100000 in
theorem refBytes_any (f : Nat → Bool) (w : World) :
    Calls Tryd.prog 24 #[SV f] w fun e w' => ∃ v, e = .returned v ∧ w'.ownsRow w.heap.size 5 1 v (elems f).length ((elems f).map u8) ∧ Below w.heap.size w w' := by
  obtain ⟨i0, hi, hz0, hz1, hz2⟩ := info_parts infoByte
  obtain ⟨B, hB⟩ : ∃ B, B = w.heap.size := ⟨_, rfl⟩
  have HB := Lib.hid hB
  obtain ⟨C, hC⟩ : ∃ C, C = w.heap.size + 1 := ⟨_, rfl⟩
  have HC := Lib.hid hC
  clear hB hC
  have hF := HoldsS.new w f 25
  have hb0 : Below w.heap.size w (w.alloc (.cells #[.int .u64 (wd f 0), .int .u64 (wd f 1), .int .u64 (wd f 2), .int .u64 (wd f 3)] 25)) := (Below.refl _ _).alloc (Nat.le_refl _) _
  have hown0 := World.ownsRow_made (w.alloc (.cells #[.int .u64 (wd f 0), .int .u64 (wd f 1), .int .u64 (wd f 2), .int .u64 (wd f 3)] 25)) #[] 0 (base := w.heap.size + 1) (e := 5) (size := 1) (by simp) (by decide) rfl
  have hbel0 : Below (w.heap.size + 1) (w.alloc (.cells #[.int .u64 (wd f 0), .int .u64 (wd f 1), .int .u64 (wd f 2), .int .u64 (wd f 3)] 25)) ((w.alloc (.cells #[.int .u64 (wd f 0), .int .u64 (wd f 1), .int .u64 (wd f 2), .int .u64 (wd f 3)] 25)).alloc (.cells #[] 5)) := (Below.refl _ _).alloc (by simp) _
  have hs0 : (w.alloc (.cells #[.int .u64 (wd f 0), .int .u64 (wd f 1), .int .u64 (wd f 2), .int .u64 (wd f 3)] 25)).heap.size = w.heap.size + 1 := World.size_alloc _ _
  rw [hs0] at hown0
  generalize hW : w.alloc (.cells #[.int .u64 (wd f 0), .int .u64 (wd f 1), .int .u64 (wd f 2), .int .u64 (wd f 3)] 25) = W1 at *
  have HW := Lib.hid hW
  have HS := Lib.hid hs0
  have HOWN := Lib.hid hown0
  have HBEL := Lib.hid hbel0
  have HF := Lib.hid hF
  have HB0 := Lib.hid hb0
  clear hW hs0 hown0 hbel0 hF hb0
  rw [← HB.out] at HF
  rw [← HC.out] at HS HOWN HBEL
  go_enter Tryd.func24, Tryd.ntmps24
  go_wp2_with fail
  rw [HW.out, ← HC.out, ← HB.out]
  go_loopw [3, 4] (fun u i wr => ∃ k : Nat, k ≤ 256 ∧ i = .int .i64 k ∧ wr.ownsRow C 5 1 u (upTo f k).length ((upTo f k).map u8) ∧ Below C W1 wr) (fun _ i _ => 256 - (intOf i).toNat)
  case atStart =>
    exact ⟨0, Nat.zero_le _, rfl, by simpa [upTo_zero] using HOWN.out, HBEL.out⟩
  case round =>
    obtain ⟨k, hk, rfl, hown, hb⟩ := hrel
    have hFr : HoldsS wr B f := HF.out.below (by rw [HS.out]; exact hb)
    by_cases hlt : k < 256
    · have c0 := hFr.c0; have c1 := hFr.c1; have c2 := hFr.c2; have c3 := hFr.c3
      go_wp2_with fail
      refine (refHas_any _ _ hlt _).mono ?_
      rintro e w1 ⟨rfl, hb1⟩
      have hown1 := owns_below hown hb1
      have hCr : C ≤ wr.heap.size := by have := hb.size; rw [HS.out] at this; exact this
      have hb2 := hb.trans (hb1.mono hCr)
      have hle := upTo_length f k
      have hC := HS.out
      have hCw : C ≤ w1.heap.size := by have := hb2.size; rw [hC] at this; exact this
      clear c0 c1 c2 c3 hC
      cases hf : f k
      · have HN := Lib.hid (upTo_no hf); clear hf
        go_wp2_with fail
        refine ⟨⟨k + 1, by omega, by go_num, ?_, hb2⟩, by simp [intOf]; omega⟩
        rw [HN.out]; exact hown1
      · have HN := Lib.hid (upTo_yes hf); clear hf
        have HOWN1 := Lib.hid hown1
        generalize hlen : (upTo f k).length = n at *
        have HLEN := Lib.hid hlen
        clear hlen
        go_wp2_with (first | (at_builtin; refine wpList_append_own _ rfl (.tmp 13) (.tmp 16) 22 rfl C 5 i0 (.int .u8 0) 1 1 Tryd.underlying22 hi hz0 hz1 hz2 rfl (by decide) _ _ _ rfl (hown1.alloc _) ⟨w1.heap.size, 0, none⟩ 1 1 [.int .u8 k] rfl rfl (cell_one_new _ _ _) (by intro u hu; rw [List.mem_singleton] at hu; subst hu; rfl) (by unfold maxLen; omega) (by omega) (Nat.le_trans hCw (by simp)) ?_; intro v' w4 hown4 hgrow4 _))
        refine ⟨⟨k + 1, by omega, by go_num, ?_, ?_⟩, by simp [intOf]; omega⟩
        · rw [HN.out, List.length_append, List.map_append, HLEN.out]; exact hown4
        · exact (hb2.alloc hCw _).grown hgrow4 (Nat.le_trans hCw (by simp)) (fun j hj => (World.ownsRow.lt HOWN1.out j hj).1)
    · obtain rfl : k = 256 := by omega
      have HOWN2 := Lib.hid hown
      clear hown
      go_wp2_with fail
      go_ret
      refine ⟨_, rfl, owns_mono HOWN2.out (by rw [HC.out]; omega), ?_⟩
      exact HB0.out.trans (hb.mono (by rw [HC.out]; omega))
end Go.Proofs.YtgmoaglanjfdmaaDoor.SetW
