/- Walk of fit: may a machine have these names? -/
import Derived.Test.YtlfmkiendaecaaaKnowsL
namespace Go.Proofs.Ytlfmkiendaecaaa.DfaW
set_option linter.unusedVariables false
set_option linter.unusedSimpArgs false
open Go.RowKit Go.Maps Go.Proofs.Ytlfmkiendaecaaa.PartM Go.Proofs.Ytlfmkiendaecaaa.PartW Go.Proofs.Ytlfmkiendaecaaa.TxM
/-- Nothing but its names can be wrong with this one. -/
def fitM (l : List ByteArray) : Mc := ⟨fun _ => 0, 1, [[0]], [0], l⟩
theorem fit_iff (l : List ByteArray) : Ok (fitM l) ↔ NamesOk l := by
  constructor
  · intro h; exact h.nms
  · intro h
    refine ⟨ex_cls.1, ?_, h, ⟨by simp [fitM], by simp [fitM], fun i hi => ?_⟩, ⟨by simp [fitM], fun j hj => ?_⟩⟩
    · show (1 : Int) = (rk (byKey fun (_ : Nat) => 0) 256 : Nat)
      rw [ex_cls.2]; rfl
    · obtain rfl : i = 0 := by simpa [fitM] using hi
      exact ⟨by simp [fitM], by simp [fitM]⟩
    · obtain rfl : j = 0 := by simpa [fitM] using hj
      refine ⟨rfl, fun i hi => ?_⟩
      obtain rfl : i = 0 := by simpa [fitM] using hi
      exact ⟨by simp [fitM], by simp [fitM]⟩
theorem rs_new1 (w : World) (u1 : Value) (l1 : List Int) (t : TypeId) (b : Nat) (hb : b = w.heap.size) (h1 : IS w.heap.size w u1 l1) :
    RS (w.alloc (.cells #[u1] t)).heap.size (w.alloc (.cells #[u1] t)) (.slice (some ⟨b, 0, none⟩) 1 1) [l1] := by
  subst hb
  have hb : Below w.heap.size w (w.alloc (.cells #[u1] t)) := (Below.refl _ _).alloc (Nat.le_refl _) _
  refine ⟨[u1], ⟨_, 1, rfl, Nat.le_refl _, by unfold maxLen; omega, fun i hi => ⟨w.heap.size, 0, rfl, by simp, ?_⟩⟩, rfl, fun i hi => ?_⟩
  · rw [World.cell?_alloc_new, Nat.zero_add]; simp
  · obtain rfl : i = 0 := by simpa using hi
    exact ⟨u1, rfl, (h1.below hb).up hb.size⟩
def fitW (w : World) : World := ((w.alloc (.cells #[.int .i64 0] 3)).alloc (.cells #[slN w.heap.size 1] 24)).alloc (.cells #[.int .i64 0] 3)
theorem fit_build (w : World) (v : Value) : (((Try.zeroCells27.setIfInBounds 256 (.int .i64 1)).setIfInBounds 257 (slN (w.heap.size + 1) 1)).setIfInBounds 258 (slN (w.heap.size + 1 + 1) 1)).setIfInBounds 259 v = mkC zA (.int .i64 1) (slN (w.heap.size + 1) 1) (slN (w.heap.size + 1 + 1) 1) v := by
  have hz := zA_is.size
  rw [zc, (set_hi hz _ _ _ _ _).1, (set_hi hz _ _ _ _ _).2.1, (set_hi hz _ _ _ _ _).2.2.1, (set_hi hz _ _ _ _ _).2.2.2]
theorem fitW_below (w : World) : Below w.heap.size w (fitW w) := by
  refine (((Below.refl _ w).alloc (Nat.le_refl _) _).alloc ?_ _).alloc ?_ _
  all_goals simp only [World.size_alloc]
  all_goals omega
theorem fit_is (w : World) {v : Value} {l : List ByteArray} (h : TS w.heap.size w v l) : IsM (fitW w).heap.size (fitW w) (mkC zA (.int .i64 1) (slN (w.heap.size + 1) 1) (slN (w.heap.size + 1 + 1) 1) v) (fitM l) := by
  have h1 := is_new w [0] 3 w.heap.size rfl (by decide)
  have r := rs_new1 _ _ _ 24 (w.heap.size + 1) (by simp) h1
  have h5 := is_new (l := [0]) (t := 3) (b := w.heap.size + 1 + 1) (hb := by simp) (hl := by decide) (w := (w.alloc (.cells #[.int .i64 0] 3)).alloc (.cells #[slN w.heap.size 1] 24))
  exact mkC_is (m := fitM l) zA_is (fun i _ => by show (0 : Nat) < 256; decide) (r.nx (al _ _)) h5 ((h.below (fitW_below w)).up (fitW_below w).size)
set_option maxRecDepth 100000 in
set_option maxHeartbeats 4000000 in
theorem fit_any {v : Value} {l : List ByteArray} (w : World) (h : TS w.heap.size w v l) : Calls Try.prog 29 #[v] w fun e w' => Says e (NamesOk l) ∧ Below w.heap.size w w' := by
  obtain ⟨a, cap, rfl, h1, h2, h3⟩ := h.open
  obtain ⟨L, hL⟩ : ∃ L, L = l.length := ⟨_, rfl⟩
  have HD := Lib.hid (fit_build w (.slice a l.length cap))
  have HI := Lib.hid (RightD_any (fitW w) (fit_is w h))
  have HB := Lib.hid (fitW_below w)
  rw [← hL] at HD HI ⊢
  clear h h1 h2 h3 hL
  go_enter Try.func29, Try.ntmps29
  go_wp2_with fail
  rw [HD.out]
  refine HI.out.mono ?_
  rintro e w1 ⟨hs, hb⟩
  have HB1 := Lib.hid (HB.out.trans (hb.mono HB.out.size))
  clear hb
  rcases hs.elim with ⟨rfl, hk⟩ | ⟨rfl, hk⟩
  · have HK := Lib.hid ((fit_iff l).1 hk)
    clear hs hk
    go_wp2_with fail
    go_ret
    exact ⟨Says.yes HK.out, HB1.out⟩
  · have HK := Lib.hid (fun x => hk ((fit_iff l).2 x))
    clear hs hk
    go_wp2_with fail
    go_ret
    exact ⟨Says.no HK.out, HB1.out⟩
end Go.Proofs.Ytlfmkiendaecaaa.DfaW
