/- Walks: Same, the document's and the program's. -/
import Derived.Test.YtogdjgfgmdphgaaDoorLies
namespace Go.Proofs.YtogdjgfgmdphgaaDoor.TreeW
set_option linter.unusedVariables false
open Go.RowKit Go.Proofs.YtogdjgfgmdphgaaDoor.TreeM
theorem ne_nd {n n' : Nd} {l l' : List Tr} (h : n ≠ n') : eqT (.mk n l) (.mk n' l') = false := eqT_no fun e => h (by injection e)
theorem ne_kids {n n' : Nd} {l l' : List Tr} (h : l ≠ l') : eqT (.mk n l) (.mk n' l') = false := eqT_no fun e => h (by injection e)
theorem ne_at {l l' : List Tr} {k : Nat} (h : k < l.length) (h' : k < l'.length) (hv : eqT l[k] l'[k] = false) : l ≠ l' := fun e => by
  subst e; rw [eqT_self] at hv; cases hv
theorem eq_all {l l' : List Tr} (hl : l.length = l'.length) (h : ∀ i (h : i < l.length) (h' : i < l'.length), eqT l[i] l'[i] = true) : l = l' :=
  List.ext_getElem hl fun i h1 h2 => by have := h i h1 h2; simpa [eqT] using this
theorem nd_parts (n n' : Nd) : n.K ≠ n'.K ∨ (n.K = n'.K ∧ (n.a == n'.a && (n.b == n'.b && (n.c == n'.c && n.d == n'.d))) = false) ∨ (n.K = n'.K ∧ (n.a == n'.a && (n.b == n'.b && (n.c == n'.c && n.d == n'.d))) = true ∧ n.L ≠ n'.L) ∨
    (n.K = n'.K ∧ (n.a == n'.a && (n.b == n'.b && (n.c == n'.c && n.d == n'.d))) = true ∧ n.L = n'.L ∧ n.H ≠ n'.H) ∨ n = n' := by
  obtain ⟨K, a, b, c, d, L, H⟩ := n
  obtain ⟨K', a', b', c', d', L', H'⟩ := n'
  by_cases h1 : K = K'
  · by_cases h2 : (a == a' && (b == b' && (c == c' && d == d'))) = true
    · by_cases h3 : L = L'
      · by_cases h4 : H = H'
        · refine .inr (.inr (.inr (.inr ?_)))
          simp at h2
          obtain ⟨r1, r2, r3, r4⟩ := h2
          subst h1 r1 r2 r3 r4 h3 h4; rfl
        · exact .inr (.inr (.inr (.inl ⟨h1, h2, h3, h4⟩)))
      · exact .inr (.inr (.inl ⟨h1, h2, h3⟩))
    · exact .inr (.inl ⟨h1, by simpa using h2⟩)
  · exact .inl h1
theorem nd_set {n n' : Nd} (h : (n.a == n'.a && (n.b == n'.b && (n.c == n'.c && n.d == n'.d))) = false) : n ≠ n' := fun e => by subst e; simp at h

set_option maxHeartbeats 4000000 in
theorem refSame_any : ∀ (m : Nat) (n : Nd) (l : List Tr) (a : Option Addr) (cap : Nat) (n' : Nd) (l' : List Tr) (a' : Option Addr) (cap' : Nat) (w : World), sizeL l + 1 ≤ m → Lies 0 w.heap.size w (.slice a l.length cap) l → Lies 0 w.heap.size w (.slice a' l'.length cap') l' →
    Calls Tryd.prog 11 #[NV n (.slice a l.length cap), NV n' (.slice a' l'.length cap')] w fun e w' => e = .returned (.bool (eqT (.mk n l) (.mk n' l'))) ∧ Below w.heap.size w w' := by
  intro m
  induction m with
  | zero => intro n l a cap n' l' a' cap' w h; exact absurd h (by omega)
  | succ m ih =>
    intro n l a cap n' l' a' cap' w hm hL hL'
    have hmx := len_small hL.len
    have hmx' := len_small hL'.len
    have HL := Lib.hid hL; have HL' := Lib.hid hL'; clear hL hL'
    obtain ⟨B, hB⟩ : ∃ B, B = w.heap.size := ⟨_, rfl⟩
    have HB := Lib.hid hB; clear hB
    have IH := Lib.hid ih; clear ih
    have hq := SetW.eqSet n.a n.b n.c n.d n'.a n'.b n'.c n'.d
    have hN0 := (NodeAt.new w n (.slice a l.length cap) 28).below (by simp) ((Below.refl _ _).alloc (Nat.le_refl _) (.cells #[.int .i64 n'.K, .int .u64 n'.a, .int .u64 n'.b, .int .u64 n'.c, .int .u64 n'.d, .slice a' l'.length cap', .int .i64 n'.L, .int .i64 n'.H] 28))
    have hN1 := NodeAt.new (w.alloc (.cells #[.int .i64 n.K, .int .u64 n.a, .int .u64 n.b, .int .u64 n.c, .int .u64 n.d, .slice a l.length cap, .int .i64 n.L, .int .i64 n.H] 28)) n' (.slice a' l'.length cap') 28
    rw [World.size_alloc] at hN1
    have hb0 := ((Below.refl w.heap.size w).alloc (Nat.le_refl _) (.cells #[.int .i64 n.K, .int .u64 n.a, .int .u64 n.b, .int .u64 n.c, .int .u64 n.d, .slice a l.length cap, .int .i64 n.L, .int .i64 n.H] 28)).alloc (by simp) (.cells #[.int .i64 n'.K, .int .u64 n'.a, .int .u64 n'.b, .int .u64 n'.c, .int .u64 n'.d, .slice a' l'.length cap', .int .i64 n'.L, .int .i64 n'.H] 28)
    have HN0 := Lib.hid hN0; have HN1 := Lib.hid hN1; have HB0 := Lib.hid hb0
    clear hN0 hN1 hb0
    rcases nd_parts n n' with h | ⟨h1, h2⟩ | ⟨h1, h2, h3⟩ | ⟨h1, h2, h3, h4⟩ | rfl
    · have HV := Lib.hid (show eqT (.mk n l) (.mk n' l') = false from ne_nd (fun e => h (by rw [e])))
      have t1 : (n.K != n'.K) = true := by simpa using h
      clear h
      go_enter Tryd.func11, Tryd.ntmps11
      go_wp2_with fail
      go_ret
      exact ⟨Base.ret_bool HV.out.symm, HB0.out⟩
    · have HV := Lib.hid (show eqT (.mk n l) (.mk n' l') = false from ne_nd (nd_set h2))
      have t1 : (n.K != n'.K) = false := by simpa using h1
      clear h1
      go_enter Tryd.func11, Tryd.ntmps11
      go_wp2_with fail
      go_ret
      exact ⟨Base.ret_bool HV.out.symm, HB0.out⟩
    · have HV := Lib.hid (show eqT (.mk n l) (.mk n' l') = false from ne_nd (fun e => h3 (by rw [e])))
      have t1 : (n.K != n'.K) = false := by simpa using h1
      have t3 : (n.L != n'.L) = true := by simpa using h3
      clear h1 h3
      go_enter Tryd.func11, Tryd.ntmps11
      go_wp2_with fail
      go_ret
      exact ⟨Base.ret_bool HV.out.symm, HB0.out⟩
    · have HV := Lib.hid (show eqT (.mk n l) (.mk n' l') = false from ne_nd (fun e => h4 (by rw [e])))
      have t1 : (n.K != n'.K) = false := by simpa using h1
      have t3 : (n.L != n'.L) = false := by simpa using h3
      have t4 : (n.H != n'.H) = true := by simpa using h4
      clear h1 h3 h4
      go_enter Tryd.func11, Tryd.ntmps11
      go_wp2_with fail
      go_ret
      exact ⟨Base.ret_bool HV.out.symm, HB0.out⟩
    · by_cases hll : l.length = l'.length
      · have t5 : ((l.length : Int) != (l'.length : Int)) = false := by simp; omega
        have HLL := Lib.hid hll; clear hll
        go_enter Tryd.func11, Tryd.ntmps11
        go_wp2_with fail
        have hN0 := HN0.out; have hN1 := HN1.out; have hb0 := HB0.out
        clear HN0 HN1 HB0
        rw [← HB.out] at hN0 hN1 ⊢
        generalize ((w.alloc (.cells #[.int .i64 n.K, .int .u64 n.a, .int .u64 n.b, .int .u64 n.c, .int .u64 n.d, .slice a l.length cap, .int .i64 n.L, .int .i64 n.H] 28)).alloc (.cells #[.int .i64 n.K, .int .u64 n.a, .int .u64 n.b, .int .u64 n.c, .int .u64 n.d, .slice a' l'.length cap', .int .i64 n.L, .int .i64 n.H] 28)) = W0 at *
        go_loopw [5] (fun i wr => ∃ k : Nat, k ≤ l.length ∧ i = .int .i64 k ∧ Hid (∀ i (h : i < l.length) (h' : i < l'.length), i < k → eqT l[i] l'[i] = true) ∧ NodeAt wr B 0 n (.slice a l.length cap) ∧ NodeAt wr (B + 1) 0 n (.slice a' l'.length cap') ∧ Below w.heap.size w wr) (fun i _ => l.length - (intOf i).toNat)
        case atStart => exact ⟨0, Nat.zero_le _, rfl, Lib.hid (fun i _ _ h => by omega), hN0, hN1, hb0⟩
        case round =>
          obtain ⟨k, hk, rfl, HA, hNa, hNb, hb⟩ := hrel
          clear hN0 hN1 hb0
          have c5 := hNa.c5
          by_cases hlt : k < l.length
          · have hlt' : k < l'.length := by have := HLL.out; omega
            have dlt' : decide (k < l'.length) = true := by simpa using hlt'
            obtain ⟨b, o, ak, capk, rfl, -, h1, h2, h3, h4, hA, hK⟩ := HL.out.at k hlt
            obtain ⟨b', o', ak', capk', rfl, -, h1', h2', h3', h4', hA', hK'⟩ := HL'.out.at k hlt'
            have hA2 := hA.below h4 hb
            have hA2' := hA'.below h4' hb
            have HT := Lib.hid (size_at l k hlt)
            have HZ := Lib.hid (size_kids l[k])
            have HE := Lib.hid (Tr.eta l[k]); have HE' := Lib.hid (Tr.eta l'[k])
            have HK := Lib.hid (hK.under hb.drew); have HK' := Lib.hid (hK'.under hb.drew)
            have hz := hb.size
            have HNX := Lib.hid (fun (h : eqT l[k] l'[k] = true) => (show ∀ i (h : i < l.length) (h' : i < l'.length), i < k + 1 → eqT l[i] l'[i] = true from fun i hi hi' h1 => by
              by_cases h2 : i = k
              · subst h2; exact h
              · exact HA.out i hi hi' (by omega)))
            have HST := Lib.hid (fun (h : eqT l[k] l'[k] = false) => (show eqT (.mk n l) (.mk n l') = false from ne_kids (ne_at hlt hlt' h)))
            generalize l[k] = tk at *
            generalize hlk : tk.kids = lk at *
            generalize hnk : tk.nd = nk at *
            generalize l'[k] = tk' at *
            generalize hlk' : tk'.kids = lk' at *
            generalize hnk' : tk'.nd = nk' at *
            clear hlk hnk hlk' hnk' hA hK hA' hK'
            go_wp2_with fail
            have hNad := (hNa.keep (w' := wr.drew) fun _ => rfl); have hNbd := (hNb.keep (w' := wr.drew) fun _ => rfl); have hbd := hb.drew
            have hAd := (hA2.keep (w' := wr.drew) fun _ => rfl); have hAd' := (hA2'.keep (w' := wr.drew) fun _ => rfl)
            have hzd : w.heap.size ≤ wr.drew.heap.size := hz
            clear c5 hNa hNb hb hA2 hA2' hz
            have a5 := hNad.c5; have b5 := hNbd.c5
            have d0 := hAd.c0; have d1 := hAd.c1; have d2 := hAd.c2; have d3 := hAd.c3; have d4 := hAd.c4; have d5 := hAd.c5; have d6 := hAd.c6; have d7 := hAd.c7
            have e0 := hAd'.c0; have e1 := hAd'.c1; have e2 := hAd'.c2; have e3 := hAd'.c3; have e4 := hAd'.c4; have e5 := hAd'.c5; have e6 := hAd'.c6; have e7 := hAd'.c7
            go_still_tail 10, (by kernel_rfl)
            change wpList _ _ _ _ _ wr.drew
            generalize wr.drew = wd at *
            cases hv : eqT tk tk'
            · have HV := Lib.hid hv; clear hv
              go_wp2_with fail
              refine (IH.out nk lk ak capk nk' lk' ak' capk' wd (by have := HT.out; have := HZ.out; omega) (HK.out.mono (Nat.le_refl _) hzd) (HK'.out.mono (Nat.le_refl _) hzd)).mono ?_
              rintro e w1 ⟨rfl, hb1⟩
              rw [HE.out, HE'.out, HV.out]
              have hb2 := hbd.trans (hb1.mono hzd)
              go_wp2_with fail
              go_ret
              exact ⟨Base.ret_bool (HST.out HV.out).symm, hb2⟩
            · have HV := Lib.hid hv; clear hv
              go_wp2_with fail
              refine (IH.out nk lk ak capk nk' lk' ak' capk' wd (by have := HT.out; have := HZ.out; omega) (HK.out.mono (Nat.le_refl _) hzd) (HK'.out.mono (Nat.le_refl _) hzd)).mono ?_
              rintro e w1 ⟨rfl, hb1⟩
              rw [HE.out, HE'.out, HV.out]
              have hb2 := hbd.trans (hb1.mono hzd)
              have hN1 := hNad.below hNad.lt hb1
              have hN2 := hNbd.below hNbd.lt hb1
              clear a5 b5 d0 d1 d2 d3 d4 d5 d6 d7 e0 e1 e2 e3 e4 e5 e6 e7 hNad hNbd hAd hAd'
              have c5 := hN1.c5
              go_wp2_with fail
              exact ⟨⟨k + 1, by omega, by go_num, Lib.hid (HNX.out HV.out), hN1, hN2, hb2⟩, by simp [intOf]; omega⟩
          · have HV := Lib.hid (show eqT (.mk n l) (.mk n l') = true from eqT_yes (by rw [eq_all HLL.out (fun i h h' => HA.out i h h' (by omega))]))
            go_wp2_with fail
            go_ret
            exact ⟨Base.ret_bool HV.out.symm, hb⟩
      · have HV := Lib.hid (show eqT (.mk n l) (.mk n l') = false from ne_kids (fun e => hll (by rw [e])))
        have t5 : ((l.length : Int) != (l'.length : Int)) = true := by simp; omega
        go_enter Tryd.func11, Tryd.ntmps11
        go_wp2_with fail
        go_ret
        exact ⟨Base.ret_bool HV.out.symm, HB0.out⟩

/-- What is said of Same, at trees of up to m nodes on the left. -/
def SameTo (m : Nat) : Prop := ∀ (n : Nd) (l : List Tr) (a : Option Addr) (cap : Nat) (n' : Nd) (l' : List Tr) (a' : Option Addr) (cap' : Nat) (w : World), sizeL l + 1 ≤ m → Lies 0 w.heap.size w (.slice a l.length cap) l → Lies 0 w.heap.size w (.slice a' l'.length cap') l' →
    Calls Tryd.prog 16 #[NV n (.slice a l.length cap), NV n' (.slice a' l'.length cap')] w fun e w' => e = .returned (.bool (eqT (.mk n l) (.mk n' l'))) ∧ Below w.heap.size w w'
set_option maxHeartbeats 2000000 in
theorem eqF_any (m : Nat) (ih : SameTo m) (n : Nd) (l : List Tr) (a : Option Addr) (cap : Nat) (l' : List Tr) (a' : Option Addr) (cap' : Nat) (w : World) (hm : sizeL l ≤ m) (hL : Lies 0 w.heap.size w (.slice a l.length cap) l) (hL' : Lies 0 w.heap.size w (.slice a' l'.length cap') l') :
    Calls Tryd.prog 36 #[.slice a l.length cap, .slice a' l'.length cap', .func (.func 16) #[] #[]] w fun e w' => e = .returned (.bool (eqT (.mk n l) (.mk n l'))) ∧ Below w.heap.size w w' := by
  have hmx := len_small hL.len
  have hmx' := len_small hL'.len
  have HL := Lib.hid hL; have HL' := Lib.hid hL'; clear hL hL'
  have IH := Lib.hid ih; clear ih
  by_cases hll : l.length = l'.length
  · have t5 : ((l.length : Int) != (l'.length : Int)) = false := by simp; omega
    have HLL := Lib.hid hll; clear hll
    go_enter Tryd.func36, Tryd.ntmps36
    go_wp2_with fail
    go_loopw [17] (fun i wr => ∃ k : Nat, k ≤ l.length ∧ i = .int .i64 k ∧ Hid (∀ i (h : i < l.length) (h' : i < l'.length), i < k → eqT l[i] l'[i] = true) ∧ Below w.heap.size w wr) (fun i _ => l.length - (intOf i).toNat)
    case atStart => exact ⟨0, Nat.zero_le _, rfl, Lib.hid (fun i _ _ h => by omega), Below.refl _ _⟩
    case round =>
      obtain ⟨k, hk, rfl, HA, hb⟩ := hrel
      by_cases hlt : k < l.length
      · have hlt' : k < l'.length := by have := HLL.out; omega
        have dlt' : decide (k < l'.length) = true := by simpa using hlt'
        obtain ⟨b, o, ak, capk, rfl, -, h1, h2, h3, h4, hA, hK⟩ := HL.out.at k hlt
        obtain ⟨b', o', ak', capk', rfl, -, h1', h2', h3', h4', hA', hK'⟩ := HL'.out.at k hlt'
        have hA2 := hA.below h4 hb
        have hA2' := hA'.below h4' hb
        have HT := Lib.hid (size_at l k hlt)
        have HZ := Lib.hid (size_kids l[k])
        have HE := Lib.hid (Tr.eta l[k]); have HE' := Lib.hid (Tr.eta l'[k])
        have HK := Lib.hid (hK.under hb); have HK' := Lib.hid (hK'.under hb)
        have hz := hb.size
        have HNX := Lib.hid (fun (h : eqT l[k] l'[k] = true) => (show ∀ i (h : i < l.length) (h' : i < l'.length), i < k + 1 → eqT l[i] l'[i] = true from fun i hi hi' h1 => by
          by_cases h2 : i = k
          · subst h2; exact h
          · exact HA.out i hi hi' (by omega)))
        have HST := Lib.hid (fun (h : eqT l[k] l'[k] = false) => (show eqT (.mk n l) (.mk n l') = false from ne_kids (ne_at hlt hlt' h)))
        generalize l[k] = tk at *
        generalize hlk : tk.kids = lk at *
        generalize hnk : tk.nd = nk at *
        generalize l'[k] = tk' at *
        generalize hlk' : tk'.kids = lk' at *
        generalize hnk' : tk'.nd = nk' at *
        clear hlk hnk hlk' hnk' hA hK hA' hK'
        have hg2 : ∀ p, (wr.alloc (.cells #[.int .i64 nk.K, .int .u64 nk.a, .int .u64 nk.b, .int .u64 nk.c, .int .u64 nk.d, .slice ak lk.length capk, .int .i64 nk.L, .int .i64 nk.H] 28)).cell? ⟨b', p, none⟩ = wr.cell? ⟨b', p, none⟩ := fun p => ((Below.refl wr.heap.size wr).alloc (Nat.le_refl _) _).cell (p := ⟨b', p, none⟩) (by show b' < _; omega)
        have d0 := hA2.c0; have d1 := hA2.c1; have d2 := hA2.c2; have d3 := hA2.c3; have d4 := hA2.c4; have d5 := hA2.c5; have d6 := hA2.c6; have d7 := hA2.c7
        have e0 := hA2'.c0; have e1 := hA2'.c1; have e2 := hA2'.c2; have e3 := hA2'.c3; have e4 := hA2'.c4; have e5 := hA2'.c5; have e6 := hA2'.c6; have e7 := hA2'.c7
        have hb0 := (hb.alloc hz (.cells #[.int .i64 nk.K, .int .u64 nk.a, .int .u64 nk.b, .int .u64 nk.c, .int .u64 nk.d, .slice ak lk.length capk, .int .i64 nk.L, .int .i64 nk.H] 28)).alloc (by simp; omega) (.cells #[.int .i64 nk'.K, .int .u64 nk'.a, .int .u64 nk'.b, .int .u64 nk'.c, .int .u64 nk'.d, .slice ak' lk'.length capk', .int .i64 nk'.L, .int .i64 nk'.H] 28)
        have hx := ((Below.refl wr.heap.size wr).alloc (Nat.le_refl _) (.cells #[.int .i64 nk.K, .int .u64 nk.a, .int .u64 nk.b, .int .u64 nk.c, .int .u64 nk.d, .slice ak lk.length capk, .int .i64 nk.L, .int .i64 nk.H] 28)).alloc (by simp) (.cells #[.int .i64 nk'.K, .int .u64 nk'.a, .int .u64 nk'.b, .int .u64 nk'.c, .int .u64 nk'.d, .slice ak' lk'.length capk', .int .i64 nk'.L, .int .i64 nk'.H] 28)
        have HB0 := Lib.hid hb0; have HX := Lib.hid hx
        clear hb0 hx
        have HC := Lib.hid (IH.out nk lk ak capk nk' lk' ak' capk' _ (by have := HT.out; have := HZ.out; omega) ((HK.out.mono (Nat.le_refl _) hz).grow HX.out) ((HK'.out.mono (Nat.le_refl _) hz).grow HX.out))
        rw [HE.out, HE'.out] at HC
        cases hv : eqT tk tk'
        · have HV := Lib.hid hv; clear hv
          go_wp2_with fail
          refine HC.out.mono ?_
          rintro e w1 ⟨rfl, hb1⟩
          rw [HV.out]
          have hb2 := HB0.out.trans (hb1.mono HB0.out.size)
          clear d0 d1 d2 d3 d4 d5 d6 d7 e0 e1 e2 e3 e4 e5 e6 e7 hA2 hA2' hg2
          go_wp2_with fail
          go_ret
          exact ⟨Base.ret_bool (HST.out HV.out).symm, hb2⟩
        · have HV := Lib.hid hv; clear hv
          go_wp2_with fail
          refine HC.out.mono ?_
          rintro e w1 ⟨rfl, hb1⟩
          rw [HV.out]
          have hb2 := HB0.out.trans (hb1.mono HB0.out.size)
          clear d0 d1 d2 d3 d4 d5 d6 d7 e0 e1 e2 e3 e4 e5 e6 e7 hA2 hA2' hg2
          go_wp2_with fail
          exact ⟨⟨k + 1, by omega, by go_num, Lib.hid (HNX.out HV.out), hb2⟩, by simp [intOf]; omega⟩
      · have HV := Lib.hid (show eqT (.mk n l) (.mk n l') = true from eqT_yes (by rw [eq_all HLL.out (fun i h h' => HA.out i h h' (by omega))]))
        go_wp2_with fail
        go_ret
        exact ⟨Base.ret_bool HV.out.symm, hb⟩
  · have HV := Lib.hid (show eqT (.mk n l) (.mk n l') = false from ne_kids (fun e => hll (by rw [e])))
    have t5 : ((l.length : Int) != (l'.length : Int)) = true := by simp; omega
    go_enter Tryd.func36, Tryd.ntmps36
    go_wp2_with fail
    go_ret
    exact ⟨Base.ret_bool HV.out.symm, Below.refl _ _⟩

set_option maxHeartbeats 4000000 in
theorem Same_to : ∀ m, SameTo m := by
  intro m
  induction m with
  | zero => intro n l a cap n' l' a' cap' w h; exact absurd h (by omega)
  | succ m ih =>
    intro n l a cap n' l' a' cap' w hm hL hL'
    have hmx := len_small hL.len
    have hmx' := len_small hL'.len
    have HL := Lib.hid hL; have HL' := Lib.hid hL'; clear hL hL'
    obtain ⟨B, hB⟩ : ∃ B, B = w.heap.size := ⟨_, rfl⟩
    have HB := Lib.hid hB; clear hB
    have IH := Lib.hid ih; clear ih
    have hq := SetW.eqSet n.a n.b n.c n.d n'.a n'.b n'.c n'.d
    have hN0 := (NodeAt.new w n (.slice a l.length cap) 28).below (by simp) ((Below.refl _ _).alloc (Nat.le_refl _) (.cells #[.int .i64 n'.K, .int .u64 n'.a, .int .u64 n'.b, .int .u64 n'.c, .int .u64 n'.d, .slice a' l'.length cap', .int .i64 n'.L, .int .i64 n'.H] 28))
    have hN1 := NodeAt.new (w.alloc (.cells #[.int .i64 n.K, .int .u64 n.a, .int .u64 n.b, .int .u64 n.c, .int .u64 n.d, .slice a l.length cap, .int .i64 n.L, .int .i64 n.H] 28)) n' (.slice a' l'.length cap') 28
    rw [World.size_alloc] at hN1
    have hb0 := ((Below.refl w.heap.size w).alloc (Nat.le_refl _) (.cells #[.int .i64 n.K, .int .u64 n.a, .int .u64 n.b, .int .u64 n.c, .int .u64 n.d, .slice a l.length cap, .int .i64 n.L, .int .i64 n.H] 28)).alloc (by simp) (.cells #[.int .i64 n'.K, .int .u64 n'.a, .int .u64 n'.b, .int .u64 n'.c, .int .u64 n'.d, .slice a' l'.length cap', .int .i64 n'.L, .int .i64 n'.H] 28)
    have HN0 := Lib.hid hN0; have HN1 := Lib.hid hN1; have HB0 := Lib.hid hb0
    clear hN0 hN1 hb0
    rcases nd_parts n n' with h | ⟨h1, h2⟩ | ⟨h1, h2, h3⟩ | ⟨h1, h2, h3, h4⟩ | rfl
    · have HV := Lib.hid (show eqT (.mk n l) (.mk n' l') = false from ne_nd (fun e => h (by rw [e])))
      have t1 : (n.K != n'.K) = true := by simpa using h
      clear h
      go_enter Tryd.func16, Tryd.ntmps16
      go_wp2_with fail
      go_ret
      exact ⟨Base.ret_bool HV.out.symm, HB0.out⟩
    · have HV := Lib.hid (show eqT (.mk n l) (.mk n' l') = false from ne_nd (nd_set h2))
      have t1 : (n.K != n'.K) = false := by simpa using h1
      clear h1
      go_enter Tryd.func16, Tryd.ntmps16
      go_wp2_with fail
      go_ret
      exact ⟨Base.ret_bool HV.out.symm, HB0.out⟩
    · have HV := Lib.hid (show eqT (.mk n l) (.mk n' l') = false from ne_nd (fun e => h3 (by rw [e])))
      have t1 : (n.K != n'.K) = false := by simpa using h1
      have t3 : (n.L != n'.L) = true := by simpa using h3
      clear h1 h3
      go_enter Tryd.func16, Tryd.ntmps16
      go_wp2_with fail
      go_ret
      exact ⟨Base.ret_bool HV.out.symm, HB0.out⟩
    · have HV := Lib.hid (show eqT (.mk n l) (.mk n' l') = false from ne_nd (fun e => h4 (by rw [e])))
      have t1 : (n.K != n'.K) = false := by simpa using h1
      have t3 : (n.L != n'.L) = false := by simpa using h3
      have t4 : (n.H != n'.H) = true := by simpa using h4
      clear h1 h3 h4
      go_enter Tryd.func16, Tryd.ntmps16
      go_wp2_with fail
      go_ret
      exact ⟨Base.ret_bool HV.out.symm, HB0.out⟩
    · have hgo := fun W h h' => eqF_any m IH.out n l a cap l' a' cap' W (by omega) h h'
      have HGO := Lib.hid hgo; clear hgo
      go_enter Tryd.func16, Tryd.ntmps16
      go_wp2_with fail
      refine (HGO.out _ (HL.out.grow HB0.out) (HL'.out.grow HB0.out)).mono ?_
      rintro e w1 ⟨rfl, hb1⟩
      have hb2 := HB0.out.trans (hb1.mono HB0.out.size)
      go_wp2_with fail
      go_ret
      exact ⟨rfl, hb2⟩
theorem Same_any (n : Nd) (l : List Tr) (a : Option Addr) (cap : Nat) (n' : Nd) (l' : List Tr) (a' : Option Addr) (cap' : Nat) (w : World) (hL : Lies 0 w.heap.size w (.slice a l.length cap) l) (hL' : Lies 0 w.heap.size w (.slice a' l'.length cap') l') :
    Calls Tryd.prog 16 #[NV n (.slice a l.length cap), NV n' (.slice a' l'.length cap')] w fun e w' => e = .returned (.bool (eqT (.mk n l) (.mk n' l'))) ∧ Below w.heap.size w w' :=
  Same_to _ n l a cap n' l' a' cap' w (Nat.le_refl _) hL hL'
theorem RSame_any (n : Nd) (l : List Tr) (a : Option Addr) (cap : Nat) (n' : Nd) (l' : List Tr) (a' : Option Addr) (cap' : Nat) (w : World) (hL : Lies 0 w.heap.size w (.slice a l.length cap) l) (hL' : Lies 0 w.heap.size w (.slice a' l'.length cap') l') :
    Calls Tryd.prog 11 #[NV n (.slice a l.length cap), NV n' (.slice a' l'.length cap')] w fun e w' => e = .returned (.bool (eqT (.mk n l) (.mk n' l'))) ∧ Below w.heap.size w w' :=
  refSame_any _ n l a cap n' l' a' cap' w (Nat.le_refl _) hL hL'
end Go.Proofs.YtogdjgfgmdphgaaDoor.TreeW
