/- Walk of TreeMakes. -/
import Derived.Test.YtogdjgfgmdphgaaDoorTreeParts
import Derived.Test.YtogdjgfgmdphgaaDoorWord
namespace Go.Proofs.YtogdjgfgmdphgaaDoor.TreeW
set_option linter.unusedVariables false
open Go.RowKit Go.Proofs.YtogdjgfgmdphgaaDoor.TreeM
open Go.Proofs.YtogdjgfgmdphgaaDoor.Base (BSl bytes_below)
theorem fm_at {α β : Type} (f : α → List β) (m : Nat) (hf : ∀ x, (f x).length = m) (ls : List α) (k c : Nat) (hk : k < ls.length) (hc : c < m) : (ls.flatMap f)[k * m + c]? = (f ls[k])[c]? := by
  induction ls generalizing k with
  | nil => simp at hk
  | cons q ls ih =>
    rw [List.flatMap_cons]
    cases k with
    | zero => rw [Nat.zero_mul, Nat.zero_add, List.getElem?_append_left (by rw [hf]; exact hc)]; rfl
    | succ k =>
      have e : (k + 1) * m = m + k * m := by rw [Nat.succ_mul, Nat.add_comm]
      rw [List.getElem?_append_right (by rw [hf, e]; omega), show (k + 1) * m + c - (f q).length = k * m + c by rw [hf, e]; omega, ih k (by simpa using hk)]
      rfl
theorem fm_len {α β : Type} (f : α → List β) (m : Nat) (hf : ∀ x, (f x).length = m) (ls : List α) : (ls.flatMap f).length = ls.length * m := by
  induction ls with
  | nil => simp
  | cons q ls ih => rw [List.flatMap_cons, List.length_append, ih, hf, List.length_cons, Nat.succ_mul, Nat.add_comm]
/-- A leaf's eight cells. -/
def lc (c : UInt8) : List Value := [.int .i64 3, .int .u64 (SetM.wd (SetM.ofF [c]) 0), .int .u64 (SetM.wd (SetM.ofF [c]) 1), .int .u64 (SetM.wd (SetM.ofF [c]) 2), .int .u64 (SetM.wd (SetM.ofF [c]) 3), .slice none 0 0, .int .i64 0, .int .i64 0]
theorem lies_word {W : World} {base : Nat} {ad : Option Addr} {len cap : Nat} {s : ByteArray} (h : W.ownsRow base 28 8 (.slice ad len cap) len (s.data.toList.flatMap lc)) (hl : s.size = len) : Lies 0 W.heap.size W (.slice ad (wordL s).length cap) (wordL s) := by
  have hw : (wordL s).length = len := by rw [wordL_length]; exact hl
  rw [hw]
  have h' := h
  rcases h.2 with ⟨e, h0⟩ | ⟨g, cp, cur, e, _, hh, hn, hm, _⟩
  · simp only [Value.slice.injEq] at e
    obtain ⟨rfl, rfl, rfl⟩ := e
    have e : wordL s = [] := List.length_eq_zero_iff.1 hw
    rw [e]; exact .nil _ _ (fun _ => rfl)
  · simp only [Value.slice.injEq] at e
    obtain ⟨rfl, _, rfl⟩ := e
    by_cases h0 : 0 < len
    · rw [← hw]
      refine .cons g 0 cap (wordL s) (fun _ => .slice none 0 0) (by omega) (by omega) hm (Nat.zero_le _) (Array.getElem?_eq_some_iff.1 hh).1 (fun i hi => ?_) (fun i hi => ?_)
      · have hi' : i < len := by omega
        have his : i < s.data.toList.length := by have : s.data.toList.length = s.size := by simp
                                                  omega
        rw [wordL_at s i (by omega) hi, Nat.zero_add]
        have hc : ∀ c, c < 8 → W.cell? ⟨g, i * 8 + c, none⟩ = (lc s.data.toList[i])[c]? := fun c hc => by
          rw [World.ownsRow.cellAt h' (i * 8 + c) (by omega)]
          exact fm_at lc 8 (fun _ => rfl) _ i c his hc
        exact ⟨hc 0 (by decide), hc 1 (by decide), hc 2 (by decide), hc 3 (by decide), hc 4 (by decide), hc 5 (by decide), hc 6 (by decide), hc 7 (by decide)⟩
      · rw [wordL_at s i (by omega) hi]; exact .nil _ _ (fun _ => rfl)
    · have e : wordL s = [] := List.length_eq_zero_iff.1 (by omega)
      obtain rfl : len = 0 := by omega
      rw [e]; exact .nil _ _ (fun h => by cases h)
theorem lc_new (W : World) (c : UInt8) (j : Nat) (u : Value) (h : (lc c)[j]? = some u) : (W.alloc (.cells #[.int .i64 3, .int .u64 (SetM.wd (SetM.ofF [c]) 0), .int .u64 (SetM.wd (SetM.ofF [c]) 1), .int .u64 (SetM.wd (SetM.ofF [c]) 2), .int .u64 (SetM.wd (SetM.ofF [c]) 3), .slice none 0 0, .int .i64 0, .int .i64 0] 28)).cell? ((⟨W.heap.size, 0, none⟩ : Addr).add j) = some u := by
  rw [addr_add, Nat.zero_add, World.cell?_alloc_new]; simpa [lc] using h
theorem own_under' {W W' : World} {base : Nat} {e : TypeId} {size : Nat} {v : Value} {n : Nat} {xs : List Value} (h : W.ownsRow base e size v n xs) (hb : Below W.heap.size W W') : W'.ownsRow base e size v n xs := by
  obtain ⟨h1, h2⟩ := h
  refine ⟨h1, ?_⟩
  rcases h2 with h2 | ⟨g, cap, cur, h3, h4, h5, h6⟩
  · exact .inl h2
  · exact .inr ⟨g, cap, cur, h3, h4, (hb.block g (Array.getElem?_eq_some_iff.1 h5).1).trans h5, h6⟩
theorem own_form' {W : World} {base : Nat} {e : TypeId} {size : Nat} {v : Value} {n : Nat} {xs : List Value} (h : W.ownsRow base e size v n xs) : ∃ ad cap, v = .slice ad n cap := by
  rcases h.2 with ⟨rfl, rfl⟩ | ⟨g, cap, cur, rfl, _⟩
  · exact ⟨none, 0, rfl⟩
  · exact ⟨_, cap, rfl⟩
theorem own_block {W : World} {base : Nat} {e : TypeId} {size : Nat} {v : Value} {n : Nat} {xs : List Value} (h : W.ownsRow base e size v n xs) : ∀ k, v.ownBlock = some k → base ≤ k := fun k hk => by
  rcases h.2 with ⟨rfl, _⟩ | ⟨g, cp, cur, rfl, hg, _⟩
  · simp [Value.ownBlock] at hk
  · simp [Value.ownBlock] at hk; omega
theorem take_snoc' (s : ByteArray) (k : Nat) (h : k < s.size) : s.data.toList.take (k + 1) = s.data.toList.take k ++ [s[k]] := by
  rw [List.take_succ_eq_append_getElem (by simpa using h)]; rfl
set_option maxRecDepth 100000 in
set_option maxHeartbeats 8000000 in
theorem TreeMakes_any (l : List Tr) (a : Option Addr) (cap : Nat) (v : Value) (s : ByteArray) (w : World) (he : Env w) (hmx : l.length ≤ 1048576) (hmy : mxL l ≤ 1048576) (hs : s.size ≤ 1048576) (hv : BSl w v s) (hL : Lies 0 w.heap.size w (.slice a l.length cap) l) :
    Calls Tryd.prog 5 #[.slice a l.length cap, v] w fun e w' => e = .returned (.bool true) ∧ Below w.heap.size w w' := by
  have HV := Lib.hid hv
  obtain ⟨len, capb, ab, hvv, hll⟩ : ∃ len cap a, v = .slice a len cap ∧ s.size = len := by
    rcases hv with ⟨_, h1, h2⟩ | ⟨b, o, cap, h1, h2, h3, _⟩
    · exact ⟨_, _, _, h1, by rw [h2]; rfl⟩
    · exact ⟨_, _, _, h1, rfl⟩
  subst hvv
  have hlm : len ≤ 1048576 := by omega
  have HLL := Lib.hid hll; have HS := Lib.hid hs
  have HE := Lib.hid he; have HL := Lib.hid hL
  clear hll hv hs he hL
  obtain ⟨i0, hi, hz0, hz1, hz2⟩ := info_parts' infoNode
  have hr0 : (w.alloc (.cells #[] 28)).ownsRow w.heap.size 28 8 (.slice (some ⟨w.heap.size, 0, none⟩) 0 0) 0 ((s.data.toList.take 0).flatMap lc) :=
    ⟨rfl, .inr ⟨_, 0, _, rfl, Nat.le_refl _, World.alloc_heap_new w _, Nat.le_refl _, by simp, rfl, rfl⟩⟩
  have HR0 := Lib.hid hr0; clear hr0
  go_enter Tryd.func5, Tryd.ntmps5
  go_wp2_with fail
  go_loopw [5, 6] (fun vv i wr => ∃ (k : Nat) (ad : Option Addr) (cp : Nat), k ≤ len ∧ i = .int .i64 k ∧ vv = .slice ad k cp ∧ wr.ownsRow w.heap.size 28 8 (.slice ad k cp) k ((s.data.toList.take k).flatMap lc) ∧ Below w.heap.size w wr) (fun _ i _ => len - (intOf i).toNat)
  case atStart => exact ⟨0, some ⟨w.heap.size, 0, none⟩, 0, Nat.zero_le _, rfl, rfl, HR0.out, (Below.refl _ _).alloc (Nat.le_refl _) _⟩
  case round =>
    obtain ⟨k, ad, cp, hk, rfl, rfl, hrow, hb⟩ := hrel
    have hz := hb.size
    by_cases hlt : k < len
    · have hks : k < s.size := by rw [HLL.out]; exact hlt
      obtain ⟨b, o, rfl, hc⟩ : ∃ b o, ab = some ⟨b, o, none⟩ ∧ wr.cell? ⟨b, o + k, none⟩ = some (.int .u8 (s[k].toNat : Int)) := by
        rcases HV.out with ⟨_, h1, h2⟩ | ⟨b, o, c, h1, _, _, h4⟩
        · subst h2; exact absurd hks (by simp)
        · simp only [Value.slice.injEq] at h1
          exact ⟨b, o, h1.1, bytes_below h4 hb k hks⟩
      have HSN := Lib.hid (take_snoc' s k hks)
      have HC1 := Lib.hid (SetW.refOf_any _ ⟨#[s[k]]⟩ _ (one_byte wr s[k]))
      have HC2 := Lib.hid (fun W => RBytes_any (SetM.ofF [s[k]]) W)
      generalize s[k] = ck at *
      have hx := (Below.refl wr.heap.size wr).alloc (Nat.le_refl _) (.cells #[.int .u8 (ck.toNat : Int)] 5)
      have HX := Lib.hid hx; clear hx
      have HROW := Lib.hid hrow; have HB := Lib.hid hb
      clear hrow hb
      go_wp2_with fail
      refine HC1.out.mono ?_
      rintro e w1 ⟨rfl, hb1⟩
      go_wp2_with fail
      refine (HC2.out _).mono ?_
      rintro e w2 ⟨rfl, hb2⟩
      have hbw := HX.out.trans ((hb1.trans (hb2.mono hb1.size)).mono HX.out.size)
      have hrow2 := own_under' HROW.out hbw
      have hb3 := HB.out.trans (hbw.mono hz)
      have hxl := (Below.refl w2.heap.size w2).alloc (Nat.le_refl _) (.cells #[.int .i64 3, .int .u64 (SetM.wd (SetM.ofF [ck]) 0), .int .u64 (SetM.wd (SetM.ofF [ck]) 1), .int .u64 (SetM.wd (SetM.ofF [ck]) 2), .int .u64 (SetM.wd (SetM.ofF [ck]) 3), .slice none 0 0, .int .i64 0, .int .i64 0] 28)
      have hrow3 := own_under' hrow2 hxl
      have hb4 := hb3.trans (hxl.mono hb3.size)
      have HROW3 := Lib.hid hrow3; have HB4 := Lib.hid hb4
      clear hb1 hb2 hbw hrow2 hb3 hxl hrow3 hb4 hc
      go_wp2_with (at_builtin; refine wpList_append_own _ rfl _ _ 26 rfl w.heap.size 28 i0 _ 8 80 Tryd.underlying26 hi hz0 hz1 hz2 rfl (by decide) _ _ _ rfl HROW3.out ⟨w2.heap.size, 0, none⟩ 1 1 (lc ck) rfl rfl (lc_new w2 ck) (fun u hu => by simp [lc] at hu; rcases hu with rfl | rfl | rfl | rfl | rfl | rfl | rfl | rfl <;> rfl) (by unfold maxLen; omega) (by omega) HB4.out.size ?_; intro v' w3 h1 h2 _; obtain ⟨ad', cp', rfl⟩ := own_form' h1)
      have hg := (Below.refl w.heap.size _).grown h2 HB4.out.size (own_block HROW3.out)
      refine ⟨⟨k + 1, ad', cp', by omega, by go_num, rfl, ?_, HB4.out.trans hg⟩, by simp [intOf]; omega⟩
      rw [HSN.out, List.flatMap_append]
      simpa using h1
    · obtain rfl : k = len := by omega
      have hfull : s.data.toList.take k = s.data.toList := List.take_of_length_le (by have := HLL.out; have e : s.data.toList.length = s.size := by simp
                                                                                      omega)
      rw [hfull] at hrow
      have hwl : (wordL s).length = k := by rw [wordL_length]; exact HLL.out
      have HLW := Lib.hid (lies_word hrow HLL.out)
      have HL0 := Lib.hid ((HL.out.under hb).mono (Nat.le_refl _) hz)
      have HE0 := Lib.hid (HE.out.grow hb)
      have HV0 := Lib.hid (HV.out.below hb)
      have HB0 := Lib.hid hb
      have hwy : mxL (wordL s) ≤ 1048576 := by rw [mx_word]; omega
      have HCAT := Lib.hid (fun W (h : Lies 0 W.heap.size W (.slice a l.length cap) l) => Cat_any l a cap W (by omega) (by omega) h)
      have HALT := Lib.hid (fun W (h : Lies 0 W.heap.size W (.slice a l.length cap) l) => Alt_any l a cap W (by omega) (by omega) h)
      have HRCAT := Lib.hid (fun W (h : Lies 0 W.heap.size W (.slice a l.length cap) l) => (RCat_any l a cap W _ (fun b h => h.2) hmx h).mono fun _ _ h => h.made (fun b h => h.2))
      have HRALT := Lib.hid (fun W (h : Lies 0 W.heap.size W (.slice a l.length cap) l) => (RAlt_any l a cap W _ (fun b h => h.2) hmx h).mono fun _ _ h => h.made (fun b h => h.2))
      have HWORD := Lib.hid (fun W (h : BSl W (.slice ab k capb) s) => Word_any (.slice ab k capb) s W h HS.out)
      have HRCW := Lib.hid (fun W (h : Lies 0 W.heap.size W (.slice ad (wordL s).length cp) (wordL s)) => (by
        have h := (RCat_any (wordL s) ad cp W _ (fun b h => h.2) (by omega) h).mono fun _ _ h => h.made (fun b h => h.2)
        rw [hwl] at h; exact h : Calls Tryd.prog 20 #[.slice ad k cp] W (Made (listT 4 2 (wordL s)).nd (listT 4 2 (wordL s)).kids W)))
      have HEQ := Lib.hid (fun (t : Tr) b1 k1 b2 k2 W (h : Lies 0 W.heap.size W (.slice b1 t.kids.length k1) t.kids) (h' : Lies 0 W.heap.size W (.slice b2 t.kids.length k2) t.kids) => (by
        have := RSame_any t.nd t.kids b1 k1 t.nd t.kids b2 k2 W h h'
        rw [eqT_self] at this
        exact this : Calls Tryd.prog 11 #[NV t.nd (.slice b1 t.kids.length k1), NV t.nd (.slice b2 t.kids.length k2)] W fun e w' => e = .returned (.bool true) ∧ Below W.heap.size W w'))
      have HK := Lib.hid (fun W h => knows_any W h)
      clear hrow hb hfull hwl hwy HE HL HV HLL
      generalize listT 4 2 l = t4 at *
      generalize listT 5 1 l = t5 at *
      generalize listT 4 2 (wordL s) = tw at *
      go_wp2_with fail
      refine (HCAT.out _ HL0.out).mono ?_
      rintro e w1 ⟨a1, c1, rfl, hl1, hb1⟩
      have HL1 := Lib.hid (HL0.out.grow hb1); have HE1 := Lib.hid (HE0.out.grow hb1); have HV1 := Lib.hid (HV0.out.below hb1); have HLW1 := Lib.hid (HLW.out.grow hb1); have HB1 := Lib.hid (HB0.out.trans (hb1.mono HB0.out.size)); have HT1 := Lib.hid (hl1.mono (Nat.zero_le _) (Nat.le_refl _))
      clear hl1 hb1 HL0 HE0 HV0 HLW HB0
      go_wp2_with fail
      refine (HRCAT.out _ HL1.out).mono ?_
      rintro e w2 ⟨a2, c2, rfl, hl2, hb2⟩
      have HL2 := Lib.hid (HL1.out.grow hb2); have HE2 := Lib.hid (HE1.out.grow hb2); have HV2 := Lib.hid (HV1.out.below hb2); have HLW2 := Lib.hid (HLW1.out.grow hb2); have HB2 := Lib.hid (HB1.out.trans (hb2.mono HB1.out.size)); have HT2 := Lib.hid (HT1.out.grow hb2); have HU2 := Lib.hid hl2
      clear hl2 hb2 HL1 HE1 HV1 HLW1 HB1 HT1
      go_wp2_with fail
      refine (HEQ.out t4 a1 c1 a2 c2 _ HT2.out HU2.out).mono ?_
      rintro e w3 ⟨rfl, hb3⟩
      have HL3 := Lib.hid (HL2.out.grow hb3); have HE3 := Lib.hid (HE2.out.grow hb3); have HV3 := Lib.hid (HV2.out.below hb3); have HLW3 := Lib.hid (HLW2.out.grow hb3); have HB3 := Lib.hid (HB2.out.trans (hb3.mono HB2.out.size))
      clear hb3 HL2 HE2 HV2 HLW2 HB2 HT2 HU2
      go_wp2_with fail
      refine (HALT.out _ HL3.out).mono ?_
      rintro e w4 ⟨a4, c4, rfl, hl4, hb4⟩
      have HL4 := Lib.hid (HL3.out.grow hb4); have HE4 := Lib.hid (HE3.out.grow hb4); have HV4 := Lib.hid (HV3.out.below hb4); have HLW4 := Lib.hid (HLW3.out.grow hb4); have HB4 := Lib.hid (HB3.out.trans (hb4.mono HB3.out.size)); have HT4 := Lib.hid (hl4.mono (Nat.zero_le _) (Nat.le_refl _))
      clear hl4 hb4 HL3 HE3 HV3 HLW3 HB3
      go_wp2_with fail
      refine (HRALT.out _ HL4.out).mono ?_
      rintro e w5 ⟨a5, c5, rfl, hl5, hb5⟩
      have HE5 := Lib.hid (HE4.out.grow hb5); have HV5 := Lib.hid (HV4.out.below hb5); have HLW5 := Lib.hid (HLW4.out.grow hb5); have HB5 := Lib.hid (HB4.out.trans (hb5.mono HB4.out.size)); have HT5 := Lib.hid (HT4.out.grow hb5); have HU5 := Lib.hid hl5
      clear hl5 hb5 HL4 HE4 HV4 HLW4 HB4 HT4
      go_wp2_with fail
      refine (HEQ.out t5 a4 c4 a5 c5 _ HT5.out HU5.out).mono ?_
      rintro e w6 ⟨rfl, hb6⟩
      have HE6 := Lib.hid (HE5.out.grow hb6); have HV6 := Lib.hid (HV5.out.below hb6); have HLW6 := Lib.hid (HLW5.out.grow hb6); have HB6 := Lib.hid (HB5.out.trans (hb6.mono HB5.out.size))
      clear hb6 HE5 HV5 HLW5 HB5 HT5 HU5
      go_wp2_with fail
      refine (HWORD.out _ HV6.out).mono ?_
      rintro e w7 ⟨a7, c7, rfl, hl7, hb7⟩
      have HE7 := Lib.hid (HE6.out.grow hb7); have HLW7 := Lib.hid (HLW6.out.grow hb7); have HB7 := Lib.hid (HB6.out.trans (hb7.mono HB6.out.size)); have HT7 := Lib.hid (hl7.mono (Nat.zero_le _) (Nat.le_refl _))
      clear hl7 hb7 HE6 HV6 HLW6 HB6
      go_wp2_with fail
      refine (HRCW.out _ HLW7.out).mono ?_
      rintro e w8 ⟨a8, c8, rfl, hl8, hb8⟩
      have HE8 := Lib.hid (HE7.out.grow hb8); have HB8 := Lib.hid (HB7.out.trans (hb8.mono HB7.out.size)); have HT8 := Lib.hid (HT7.out.grow hb8); have HU8 := Lib.hid hl8
      clear hl8 hb8 HE7 HLW7 HB7 HT7
      go_wp2_with fail
      refine (HEQ.out tw a7 c7 a8 c8 _ HT8.out HU8.out).mono ?_
      rintro e w9 ⟨rfl, hb9⟩
      have HE9 := Lib.hid (HE8.out.grow hb9); have HB9 := Lib.hid (HB8.out.trans (hb9.mono HB8.out.size))
      clear hb9 HE8 HB8 HT8 HU8
      go_wp2_with fail
      refine (HK.out _ HE9.out).mono ?_
      rintro e w10 ⟨rfl, hb10⟩
      have HB10 := Lib.hid (HB9.out.trans (hb10.mono HB9.out.size))
      clear hb10
      go_wp2_with fail
      go_ret
      exact ⟨rfl, HB10.out⟩
end Go.Proofs.YtogdjgfgmdphgaaDoor.TreeW
