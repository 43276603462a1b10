/- Walks of Names and Only. -/
import Derived.Test.YtlfmkiendaecaaaNamedL
import Derived.Test.YtlfmkiendaecaaaFit
import Derived.Test.YtlfmkiendaecaaaUsedL
namespace Go.Proofs.Ytlfmkiendaecaaa.DfaW
set_option linter.unusedVariables false
set_option linter.unusedSimpArgs false
open Go.RowKit Go.Maps Go.Proofs.Ytlfmkiendaecaaa.PartM Go.Proofs.Ytlfmkiendaecaaa.PartW Go.Proofs.Ytlfmkiendaecaaa.TxM
open Classical in
/-- Is a name not in l? -/
noncomputable def missP (l : List ByteArray) (x : ByteArray) : Bool := !decide (x ∈ l)
theorem miss_any {m : Mc} {l : List ByteArray} (h : Ok m) : (usedV m).any (missP l) = true ↔ ¬ AllIn m l := by
  rw [List.any_eq_true]
  constructor
  · rintro ⟨x, hx, hp⟩ ha
    have := ha x ((mem_usedV h).1 hx)
    simp [missP, this] at hp
  · intro hn
    apply Classical.byContradiction
    intro hc
    refine hn fun x hx => ?_
    apply Classical.byContradiction
    intro hx2
    exact hc ⟨x, (mem_usedV h).2 hx, by simp [missP, hx2]⟩
theorem miss1_any {pb : Nat} {t : TypeId} {a : Option Addr} {c : Nat} {l : List ByteArray} (x : ByteArray) (W : World) (hp : Ar W pb #[.slice a l.length c] t) (hl : TS W.heap.size W (.slice a l.length c) l) :
    Calls Try.prog 30 (#[.string x] ++ #[.pointer (some ⟨pb, 0, none⟩)]) W fun e w' => e = .returned (.bool (missP l x)) ∧ W = w' := by
  have hC := ContainsS_pre hl l.length c (Nat.le_refl _) x
  rw [List.take_length] at hC
  have HC := Lib.hid hC
  obtain ⟨n, hn⟩ : ∃ n, n = l.length := ⟨_, rfl⟩
  have d1 := Ar.at' hp 0
  have d1' : W.cell? ⟨pb, 0, none⟩ = some (.slice a l.length c) := d1
  rw [← hn] at d1' HC
  clear hp hl d1 hn hC
  simp only [List.push_toArray, List.append_toArray, List.cons_append, List.nil_append]
  go_enter Try.func30, Try.ntmps30
  go_wp2_with fail
  refine HC.out.mono ?_
  rintro e w1 ⟨⟨b, rfl, hb⟩, rfl⟩
  have HM := Lib.hid (show missP l x = !b by
    unfold missP
    cases b with
    | true => simp [hb.1 rfl]
    | false =>
      have hn : x ∉ l := fun h => by have := hb.2 h; cases this
      simp [hn])
  clear hb HC
  cases b with
  | true =>
    go_wp2_with fail
    go_ret
    exact ⟨by rw [HM.out]; rfl, rfl⟩
  | false =>
    go_wp2_with fail
    go_ret
    exact ⟨by rw [HM.out]; rfl, rfl⟩
theorem contF_any {B : Nat} {a : Option Addr} {n c : Nat} {zs : List ByteArray} (W : World) (h : TS B W (.slice a n c) zs) {g : Nat} {lb : Array Value} {p : ByteArray → Bool} (eg : ∀ args w, (callFunc g args).run Try.prog w = .ok (.enter g args) w) (hp : PredAt Try.prog g lb Value.string p W) :
    Calls Try.prog 32 #[.slice a n c, .func (.func g) #[] lb] W fun e w' => e = .returned (.bool (zs.any p)) ∧ Below W.heap.size W w' := by
  obtain ⟨a', cap', he, h1, h2, h3⟩ := h.open
  simp only [Value.slice.injEq] at he
  obtain ⟨rfl, rfl, rfl⟩ := he
  rcases Nat.eq_zero_or_pos zs.length with h0 | h0
  · obtain rfl := List.length_eq_zero_iff.1 h0
    exact (Try.slices_ContainsFunc_empty_f32 (α := ByteArray) a c _ W).mono fun e w' ⟨h, hw⟩ => ⟨h, by rw [hw]; exact Below.refl _ _⟩
  · obtain ⟨b, o, rfl, hb, hc⟩ := TS.cells (cap := c) h3 h0
    refine (Try.slices_ContainsFunc_f32 Value.string p g lb eg b o zs.length c zs W hp (Nat.le_refl _) (by unfold maxLen at h2; omega) (fun j hj => by rw [hc j hj]; simp [List.getD, hj])).mono fun e w' ⟨h, q, hw⟩ => ⟨by rw [h, List.take_length], by rw [hw]; exact below_drewN (Below.refl _ _) q⟩
set_option maxRecDepth 100000 in
set_option maxHeartbeats 8000000 in
theorem labNames_any : NamesC 13 := fun {C m v l X} w hm hl hX => by
  obtain ⟨a, cap, rfl, g1, g2, _⟩ := hl.is.open
  obtain ⟨L, hL⟩ : ∃ L, L = l.length := ⟨_, rfl⟩
  have hx := ((Bx.new hm.is).alloc (.cells #[.slice a L cap] 25)).alloc (.cells Try.zeroCells27 27)
  have hp : Ar (((w.alloc (.cells C 27)).alloc (.cells #[.slice a L cap] 25)).alloc (.cells Try.zeroCells27 27)) (w.heap.size + 1) #[.slice a L cap] 25 := by
    have := Ar.new (w.alloc (.cells C 27)) #[.slice a L cap] 25
    rw [World.size_alloc] at this; exact this.alloc _
  have hz : Ar (((w.alloc (.cells C 27)).alloc (.cells #[.slice a L cap] 25)).alloc (.cells Try.zeroCells27 27)) (w.heap.size + 1 + 1) Try.zeroCells27 27 := by
    have := Ar.new ((w.alloc (.cells C 27)).alloc (.cells #[.slice a L cap] 25)) Try.zeroCells27 27
    simp only [World.size_alloc] at this; exact this
  have hb0 : Below w.heap.size w (((w.alloc (.cells C 27)).alloc (.cells #[.slice a L cap] 25)).alloc (.cells Try.zeroCells27 27)) := (((Below.refl _ _).alloc (Nat.le_refl _) _).alloc (by simp) _).alloc (by simp; omega) _
  have hs0 : (((w.alloc (.cells C 27)).alloc (.cells #[.slice a L cap] 25)).alloc (.cells Try.zeroCells27 27)).heap.size = w.heap.size + 3 := by simp
  have HSZ := Lib.hid hl.is.szs
  have HA := Lib.hid hm.is.isA; have HAF := Lib.hid hm.is.oflt
  have HZO := Lib.hid (IsM.one (zero_is w)); have HZS := Lib.hid zc_size
  rw [← hL] at hl ⊢
  have HLE := Lib.hid hL
  have HXX := Lib.hid hX; have HM := Lib.hid hm; have HL := Lib.hid hl
  have HX := Lib.hid hx; have HP := Lib.hid hp; have HZ := Lib.hid hz; have HB0 := Lib.hid hb0; have HS0 := Lib.hid hs0
  clear hm hl hX hx hp hz hb0 hs0 g1 g2 hL
  go_enter Try.func13, Try.ntmps13
  obtain ⟨B, hB⟩ : ∃ B, B = w.heap.size := ⟨_, rfl⟩
  have HBE := Lib.hid hB
  go_wp2_with (refine wpList_load_dfa rfl (.tmp 2) rfl rfl HX.out ?_)
  refine (RightD_any _ HX.out.is).mono ?_
  rintro e w1 ⟨hs, hb1⟩
  have HX1 := Lib.hid (HX.out.below hb1); have HZ1 := Lib.hid (HZ.out.below hb1); have HP1 := Lib.hid (HP.out.below hb1)
  have HB1 := Lib.hid (HB0.out.trans (hb1.mono HB0.out.size))
  have HS1 := Lib.hid (show w.heap.size + 3 ≤ w1.heap.size by have := hb1.size; rw [HS0.out] at this; exact this)
  clear hb1 HX HZ HB0 HS0 HP
  rcases hs.elim with ⟨rfl, hk⟩ | ⟨rfl, hk⟩
  case inr =>
    have HE := Lib.hid (names_no (l := l) hk)
    clear hs hk hB
    go_wp2_with (refine wpList_store_dfa rfl (.tmp 4) (.tmp 10) rfl rfl rfl HZ1.out HZS.out HZS.out HZO.out ?_; simp only [Act.put])
    refine bodyPost_ret (res_kept rfl rfl rfl (HZ1.out.row _) HZS.out) rfl ⟨_, by rw [HE.out.1]; rfl, by rw [HE.out.2]; exact zero_rx _ _, below_row HB1.out (by omega) _⟩
  have HOK := Lib.hid hk
  have d1 := Ar.at' HP1.out 0
  have d1' : w1.cell? ⟨w.heap.size + 1, 0, none⟩ = some (.slice a L cap) := d1
  clear hs hk d1 hB
  go_wp2_with fail
  clear d1'
  refine (fit_any w1 (HL.out.next HB1.out).is).mono ?_
  rintro e w2 ⟨hs, hb2⟩
  have HX2 := Lib.hid (HX1.out.below hb2); have HZ2 := Lib.hid (HZ1.out.below hb2); have HP2 := Lib.hid (HP1.out.below hb2)
  have HB2 := Lib.hid (HB1.out.trans (hb2.mono HB1.out.size))
  have HS2 := Lib.hid (show w.heap.size + 3 ≤ w2.heap.size by have := hb2.size; have := HS1.out; omega)
  clear hb2 HX1 HZ1 HB1 HS1 HP1
  rcases hs.elim with ⟨rfl, hk⟩ | ⟨rfl, hk⟩
  case inr =>
    have HE := Lib.hid (names_arg HOK.out hk)
    clear hs hk
    go_wp2_with (refine wpList_store_dfa rfl (.tmp 4) (.tmp 14) rfl rfl rfl HZ2.out HZS.out HZS.out HZO.out ?_; simp only [Act.put])
    refine bodyPost_ret (res_kept rfl rfl rfl (HZ2.out.row _) HZS.out) rfl ⟨_, by rw [HE.out.1]; rfl, by rw [HE.out.2]; exact zero_rx _ _, below_row HB2.out (by omega) _⟩
  have HNO := Lib.hid hk
  clear hs hk
  go_wp2_with (refine wpList_load_dfa rfl (.tmp 2) rfl rfl HX2.out ?_)
  refine (used_any w2 HX2.out.is HOK.out).mono ?_
  rintro e w3 ⟨u, rfl, hu, hb3⟩
  obtain ⟨au, cu, rfl, _, _, _⟩ := hu.is.open
  have hx3 := HX2.out.below hb3; have hz3 := HZ2.out.below hb3; have hp3 := HP2.out.below hb3
  have hb3' := HB2.out.trans (hb3.mono HB2.out.size)
  have hs3 : w.heap.size + 3 ≤ w3.heap.size := by have := hb3.size; have := HS2.out; omega
  have hl3 := HL.out.next hb3'
  have hcf := contF_any w3 hu.is (g := 30) (lb := #[.pointer (some ⟨w.heap.size + 1, 0, none⟩)]) (p := missP l) (enters_of Try.func30 (by kernel_rfl) rfl) (fun W x hW => by
    unfold FnGives
    refine (miss1_any (t := 25) (a := a) (c := cap) x W ?_ ?_).mono fun e w' ⟨h, hw⟩ => ⟨h, 0, hw.symm⟩
    · rw [← HLE.out]; exact hp3.below hW
    · rw [← HLE.out]; exact (hl3.next hW).is)
  obtain ⟨lu, hlu⟩ : ∃ n, n = (usedV m).length := ⟨_, rfl⟩
  rw [← hlu] at hcf ⊢
  obtain ⟨mb, hmb⟩ : ∃ b, b = (usedV m).any (missP l) := ⟨_, rfl⟩
  rw [← hmb] at hcf
  have HCF := Lib.hid hcf
  have HMB := Lib.hid (show mb = true ↔ ¬ AllIn m l by rw [hmb]; exact miss_any HOK.out)
  have HX3 := Lib.hid hx3; have HZ3 := Lib.hid hz3; have HP3 := Lib.hid hp3; have HB3 := Lib.hid hb3'; have HS3 := Lib.hid hs3
  clear hx3 hz3 hp3 hb3' hs3 hl3 hcf hlu hmb hu hb3 HX2 HZ2 HP2 HB2 HS2
  go_wp2_with fail
  refine HCF.out.mono ?_
  rintro e w4 ⟨rfl, hb4⟩
  have HX4 := Lib.hid (HX3.out.below hb4); have HZ4 := Lib.hid (HZ3.out.below hb4); have HP4 := Lib.hid (HP3.out.below hb4)
  have HB4 := Lib.hid (HB3.out.trans (hb4.mono HB3.out.size))
  have HS4 := Lib.hid (show w.heap.size + 3 ≤ w4.heap.size by have := hb4.size; have := HS3.out; omega)
  clear hb4 HX3 HZ3 HB3 HS3 HP3 HCF
  cases mb with
  | true =>
    have HE := Lib.hid (names_none HOK.out HNO.out (HMB.out.1 rfl))
    go_wp2_with (refine wpList_store_dfa rfl (.tmp 4) (.tmp 20) rfl rfl rfl HZ4.out HZS.out HZS.out HZO.out ?_; simp only [Act.put])
    refine bodyPost_ret (res_kept rfl rfl rfl (HZ4.out.row _) HZS.out) rfl ⟨_, by rw [HE.out.1]; rfl, by rw [HE.out.2]; exact zero_rx _ _, below_row HB4.out (by omega) _⟩
  | false =>
    have hall : AllIn m l := by
      apply Classical.byContradiction
      intro hn
      have := HMB.out.2 hn; cases this
    have HE := Lib.hid (names_yes HOK.out HNO.out hall)
    have HPL := Lib.hid (plF_named hall)
    have hna := named_any w4 HX4.out.is HOK.out (HL.out.next HB4.out).is HNO.out.1
    have HNA := Lib.hid hna
    have d1 := Ar.at' HP4.out 0
    have d1' : w4.cell? ⟨w.heap.size + 1, 0, none⟩ = some (.slice a L cap) := d1
    clear hall hna d1
    go_wp2_with (refine wpList_load_dfa rfl (.tmp 2) rfl rfl HX4.out ?_)
    clear d1'
    refine HNA.out.mono ?_
    rintro e w5 ⟨v1, v2, u, rfl, hown, hb5⟩
    have hz5 := HZ4.out.below hb5
    have his := hown.is HA.out HAF.out HSZ.out m.wd
    have hrx := hown.rx (X := fun k => X k ∨ k = w.heap.size + 1 + 1) HA.out HAF.out HSZ.out (fun k hk => by
      have := HS4.out
      rcases hk with hk | hk
      · have := HXX.out k hk; omega
      · omega) m.wd
    rw [HPL.out] at hrx
    have HDS := Lib.hid his.size; have HDO := Lib.hid his.one
    have HRX := Lib.hid hrx; have HZ5 := Lib.hid hz5
    have HB5 := Lib.hid (HB4.out.trans (hb5.mono HB4.out.size))
    clear hown hb5 hz5 his hrx HNA
    go_wp2_with (refine wpList_store_dfa rfl (.tmp 4) (.tmp 23) rfl rfl rfl HZ5.out HZS.out HDS.out HDO.out ?_; simp only [Act.put])
    refine bodyPost_ret (res_kept rfl rfl rfl (HZ5.out.row _) HDS.out) rfl ⟨_, by rw [HE.out.1]; rfl, ?_, below_row HB5.out (by omega) _⟩
    rw [HE.out.2]
    exact (HRX.out.row (.inr rfl) _).mono fun k hk => .inl hk
end Go.Proofs.Ytlfmkiendaecaaa.DfaW
