/- Walks: Word. -/
import Derived.Test.YtogdjgfgmdphgaaDoorMake2
namespace Go.Proofs.YtogdjgfgmdphgaaDoor.TreeW
set_option linter.unusedVariables false
open Go.RowKit Go.Proofs.YtogdjgfgmdphgaaDoor.TreeM
open Go.Proofs.YtogdjgfgmdphgaaDoor.Base (BSl bytes_below)
/-- The leaves of a word. -/
def wordL (s : ByteArray) : List Tr := s.data.toList.map fun c => .mk (leaf (SetM.ofF [c])) []
theorem wordL_length (s : ByteArray) : (wordL s).length = s.size := by unfold wordL; simp
theorem wordL_at (s : ByteArray) (k : Nat) (h : k < s.size) (h' : k < (wordL s).length) : (wordL s)[k] = .mk (leaf (SetM.ofF [s[k]])) [] := by
  simp only [wordL, List.getElem_map]; rfl
theorem mx_word (s : ByteArray) : mxL (wordL s) = 0 := by
  have : mxL (wordL s) ≤ 0 := mxL_of _ fun i h => by
    rw [wordL_at s i (by rw [wordL_length] at h; exact h) h, mx, mxL_nil]; simp
  omega
theorem one_byte (w : World) (c : UInt8) : BSl (w.alloc (.cells #[.int .u8 (c.toNat : Int)] 5)) (.slice (some ⟨w.heap.size, 0, none⟩) 1 1) ⟨#[c]⟩ :=
  .inr ⟨w.heap.size, 0, 1, rfl, Nat.le_refl _, by unfold maxLen; omega, fun i hi => by
    have e : i = 0 := by simpa [ByteArray.size] using hi
    subst e
    rw [World.cell?_alloc_new]; rfl⟩
set_option maxHeartbeats 2000000 in
theorem Word_any (v : Value) (s : ByteArray) (w : World) (hv : BSl w v s) (hs : s.size ≤ 1048576) :
    Calls Tryd.prog 23 #[v] w (IsTree (listT 4 2 (wordL s)) w) := by
  have HV := Lib.hid hv
  obtain ⟨len, cap, a, hvv, hll⟩ : ∃ len cap a, v = .slice a len cap ∧ s.size = len := by
    rcases hv with ⟨_, h1, h2⟩ | ⟨b, o, cap, h1, h2, h3, _⟩
    · exact ⟨_, _, _, h1, by rw [h2]; rfl⟩
    · exact ⟨_, _, _, h1, rfl⟩
  subst hvv
  have hmx : len ≤ 1048576 := by omega
  have HLL := Lib.hid hll; clear hll hv hs
  obtain ⟨B, hB⟩ : ∃ B, B = w.heap.size := ⟨_, rfl⟩
  have HB := Lib.hid hB; clear hB
  have hb0 := (Below.refl w.heap.size w).alloc (Nat.le_refl _) (.cells #[.int .i64 0, .int .u64 0, .int .u64 0, .int .u64 0, .int .u64 0, .slice none 0 0, .int .i64 0, .int .i64 0] 28)
  have hO := zero_new w
  have hs1 : (w.alloc (.cells #[.int .i64 0, .int .u64 0, .int .u64 0, .int .u64 0, .int .u64 0, .slice none 0 0, .int .i64 0, .int .i64 0] 28)).heap.size = w.heap.size + 1 := by simp
  have HB0 := Lib.hid hb0; have HS1 := Lib.hid hs1; have HO := Lib.hid hO
  clear hb0 hs1 hO
  go_enter Tryd.func23, Tryd.ntmps23
  go_wp2_with fail
  have hb0 := HB0.out; have hO := HO.out; have hs1 := HS1.out
  clear HB0 HO HS1
  rw [← HB.out] at hO hs1 ⊢
  generalize (w.alloc (.cells #[.int .i64 0, .int .u64 0, .int .u64 0, .int .u64 0, .int .u64 0, .slice none 0 0, .int .i64 0, .int .i64 0] 28)) = W0 at *
  obtain ⟨i0, hi, hz0, hz1, hz2⟩ := info_parts' infoNode
  obtain ⟨wm, hmk, hown, hgr⟩ := run_make_full (P := Tryd.prog) W0 w.heap.size 26 28 i0 (NV zero (.slice none 0 0)) 8 Tryd.underlying26 hi hz0 hz1 .i64 .i64 len (by rw [hz2]; omega) (by unfold maxLen; omega) hb0.size
  have hgO : Open wm (B + 1) (len * 8) := by
    rcases hown.2 with ⟨h1, _⟩ | ⟨g, cp, cur, h1, _, h2, _, _, h3, _⟩
    · cases h1
    · simp only [Value.slice.injEq, Option.some.injEq, Addr.mk.injEq] at h1
      obtain ⟨⟨rfl, _, _⟩, _, rfl⟩ := h1
      rw [hs1] at h2
      exact ⟨cur, h2, h3⟩
  rw [hs1] at hmk
  have hgb : Below W0.heap.size W0 wm := (Below.refl _ _).grown hgr (Nat.le_refl _) (fun k e => by cases e)
  have hOR := hO.below hO.lt hgb
  have hb1 := hb0.trans (hgb.mono hb0.size)
  clear hb0 hO hown hgr hgb hi hz0 hz1 hz2
  have HB1 := Lib.hid hb1; have HOR := Lib.hid hOR; have HOG := Lib.hid hgO; have HS0 := Lib.hid hs1
  clear hb1 hOR hgO hs1
  rw [hmk]
  clear hmk
  simp only [Result.andThen_ok]
  go_wp2_with fail
  go_loopw [11] (fun i wr => ∃ k : Nat, k ≤ len ∧ i = .int .i64 k ∧ (Open wr B 8 ∧ Open wr (B + 1) (len * 8)) ∧ Row (B + 1) (wordL s) k wr ∧ Below w.heap.size w wr) (fun i _ => len - (intOf i).toNat)
  case atStart => exact ⟨0, Nat.zero_le _, rfl, ⟨HOR.out, HOG.out⟩, ⟨fun _ => undef, fun j _ h => by omega⟩, HB1.out⟩
  case round =>
    obtain ⟨k, hk, rfl, ⟨hO1, hO2⟩, hR, hb⟩ := hrel
    clear HB1 HOR HOG
    have hz := hb.size
    by_cases hlt : k < len
    · have hks : k < s.size := by rw [HLL.out]; exact hlt
      obtain ⟨b, o, rfl, hc⟩ : ∃ b o, a = some ⟨b, o, none⟩ ∧ wr.cell? ⟨b, o + k, none⟩ = some (.int .u8 (s[k].toNat : Int)) := by
        rcases HV.out with ⟨_, h1, h2⟩ | ⟨b, o, c, h1, _, _, h4⟩
        · subst h2; exact absurd hks (by simp)
        · simp only [Value.slice.injEq] at h1
          exact ⟨b, o, h1.1, bytes_below h4 hb k hks⟩
      have hlw : (wordL s).length = len := by rw [wordL_length]; exact HLL.out
      have HNX := Lib.hid (fun (W : World) (h : Row (B + 1) (wordL s) k W) (hO : Open W (B + 1) (len * 8)) => h.next (by rw [hlw]; exact hlt) (by rw [hlw]; exact hO) (n := leaf (SetM.ofF [s[k]])) (v := .slice none 0 0) (by rw [wordL_at s k hks]; rfl) (by rw [wordL_at s k hks]; exact .nil _ _ (fun _ => rfl)))
      have HC1 := Lib.hid (SetW.Of_any _ ⟨#[s[k]]⟩ _ (one_byte wr s[k]))
      have HC2 := Lib.hid (fun W => Bytes_any (SetM.ofF [s[k]]) W)
      generalize s[k] = ck at *
      have hx := (Below.refl wr.heap.size wr).alloc (Nat.le_refl _) (.cells #[.int .u8 (ck.toNat : Int)] 5)
      have HX := Lib.hid hx; clear hx
      have HO1 := Lib.hid hO1; have HO2 := Lib.hid hO2; have HR := Lib.hid hR
      clear hO1 hO2 hR
      go_wp2_with fail
      refine HC1.out.mono ?_
      rintro e w1 ⟨rfl, hb1⟩
      go_wp2_with fail
      refine (HC2.out _).mono ?_
      rintro e w2 ⟨rfl, hb2⟩
      have hbw := HX.out.trans ((hb1.trans (hb2.mono hb1.size)).mono HX.out.size)
      have hP1 := HO1.out.below HO1.out.lt hbw
      have hP2 := HO2.out.below HO2.out.lt hbw
      have HRN := Lib.hid (HNX.out w2 (HR.out.below HO2.out.lt hbw) hP2)
      have hb3 := hb.trans (hbw.mono hz)
      clear hb1 hb2 hbw hc
      obtain ⟨u0', e0⟩ := hP2.cell (k * 8) (by omega)
      obtain ⟨u1', e1⟩ := hP2.cell (k * 8 + 1) (by omega)
      obtain ⟨u2', e2⟩ := hP2.cell (k * 8 + 2) (by omega)
      obtain ⟨u3', e3⟩ := hP2.cell (k * 8 + 3) (by omega)
      obtain ⟨v4, e4⟩ := hP2.cell (k * 8 + 4) (by omega)
      obtain ⟨v5, e5⟩ := hP2.cell (k * 8 + 5) (by omega)
      obtain ⟨u6', e6⟩ := hP2.cell (k * 8 + 6) (by omega)
      obtain ⟨u7', e7⟩ := hP2.cell (k * 8 + 7) (by omega)
      have z0 := hP2.frozen (k * 8); have z1 := hP2.frozen (k * 8 + 1); have z2 := hP2.frozen (k * 8 + 2); have z3 := hP2.frozen (k * 8 + 3); have z4 := hP2.frozen (k * 8 + 4); have z5 := hP2.frozen (k * 8 + 5); have z6 := hP2.frozen (k * 8 + 6); have z7 := hP2.frozen (k * 8 + 7)
      have HP1 := Lib.hid hP1; have HP2 := Lib.hid hP2
      clear hP1 hP2
      go_wp2_with fail
      exact ⟨⟨k + 1, by omega, by go_num, ⟨HP1.out.put8 _ _ _ _, HP2.out.put8 _ _ _ _⟩, HRN.out, below_put8 hb3 (by rw [HB.out]; omega) _ _ _⟩, by simp [intOf]; omega⟩
    · have hlw : (wordL s).length = len := by rw [wordL_length]; exact HLL.out
      obtain rfl : k = len := by omega
      have hl : Lies 0 wr.heap.size wr (.slice (some ⟨B + 1, 0, none⟩) (wordL s).length k) (wordL s) := by
        by_cases h0 : 0 < (wordL s).length
        · have := Row.lies (lo := 0) (cap := 0) (l := wordL s) (by rw [hlw]; exact hR) h0 (Nat.zero_le _) hO2.lt (by rw [hlw]; unfold maxLen; omega)
          rw [hlw] at this ⊢; exact this
        · have e : wordL s = [] := List.length_eq_zero_iff.1 (by omega)
          rw [e]; exact .nil _ _ (fun h => by cases h)
      have hc := Cat_any (wordL s) (some ⟨B + 1, 0, none⟩) k wr (by rw [hlw]; omega) (by rw [mx_word]; omega) hl
      rw [hlw] at hc
      have HC := Lib.hid hc
      have HO1 := Lib.hid hO1
      clear hc hl hO1 hO2 hR
      go_wp2_with fail
      refine HC.out.mono ?_
      rintro e w1 ⟨a1, c1, rfl, hL1, hb1⟩
      have hO := HO1.out.below HO1.out.lt hb1
      have hb2 := hb.trans (hb1.mono hz)
      have hlo : B + 1 ≤ wr.heap.size := HO1.out.lt
      have hL2 := hL1.mono hlo (Nat.le_refl _)
      have HP1 := Lib.hid hO; have HL1 := Lib.hid hL2; have HB2 := Lib.hid hb2
      obtain ⟨u0', e0⟩ := hO.cell (0) (by omega)
      obtain ⟨u1', e1⟩ := hO.cell (1) (by omega)
      obtain ⟨u2', e2⟩ := hO.cell (2) (by omega)
      obtain ⟨u3', e3⟩ := hO.cell (3) (by omega)
      obtain ⟨u4', e4⟩ := hO.cell (4) (by omega)
      obtain ⟨u5', e5⟩ := hO.cell (5) (by omega)
      obtain ⟨u6', e6⟩ := hO.cell (6) (by omega)
      obtain ⟨u7', e7⟩ := hO.cell (7) (by omega)
      have z0 := hO.frozen (0); have z1 := hO.frozen (1); have z2 := hO.frozen (2); have z3 := hO.frozen (3); have z4 := hO.frozen (4); have z5 := hO.frozen (5); have z6 := hO.frozen (6); have z7 := hO.frozen (7)
      clear hO hL1 hL2 hb1 hb2 HC
      generalize listT 4 2 (wordL s) = t at *
      go_wp2_with fail
      have hq := put8_node HP1.out 0 (by omega) t.nd (.slice a1 t.kids.length c1)
      exact bodyPost_ret (v := NV t.nd (.slice a1 t.kids.length c1)) (by simp [results, Tryd.results23, go_sem, hq.c0, hq.c1, hq.c2, hq.c3, hq.c4, hq.c5, hq.c6, hq.c7]) rfl ⟨_, _, rfl, (HL1.out.fresh (w' := w) (n := t.nd) (by omega) (Nat.le_refl _)).mono (by rw [← HB.out]; exact Nat.le_refl _) (Nat.le_refl _), below_put8 (n := t.nd) HB2.out (by rw [HB.out]; exact Nat.le_refl _) _ _⟩
end Go.Proofs.YtogdjgfgmdphgaaDoor.TreeW
