/- Walk of changed: a machine in memory of its own, with other names, and each label changed. -/
import Derived.Test.YtlfmkiendaecaaaOwnL
import Derived.Test.YtlfmkiendaecaaaRegions
import Derived.Test.YtlfmkiendaecaaaRefPlus
import Derived.Test.YtlfmkiendaecaaaRefNormL
namespace Go.Proofs.Ytlfmkiendaecaaa.DfaW
set_option linter.unusedVariables false
set_option linter.unusedSimpArgs false
open Go.Proofs.Ytlfmkiendaecaaa.RegionU (Up wpW_taken wpW_takenY wpW_one wpW_two wpW_done1 wpW_done2 wpW_done3 wpW_have wp_region_W)
open Go.RowKit Go.Maps Go.Proofs.Ytlfmkiendaecaaa.PartM Go.Proofs.Ytlfmkiendaecaaa.PartW Go.Proofs.Ytlfmkiendaecaaa.TxM
/-- What lay in W0 lies. -/
def KB (W0 : World) (W : World) : Prop := Below W0.heap.size W0 W
theorem KB.up (W0 : World) : Up (KB W0) := fun W W' h hr => Below.trans h (hr.mono h.size)
/-- A list of the call's own; a box; a slice of one thing. -/
def IT (b : Nat) (l : List Int) (u : Value) (W : World) : Prop := OI W b u l
theorem IT.up (b : Nat) (l : List Int) (u : Value) : Up (IT b l u) := fun W W' h hr => OI.below h hr
def BT (n : Nat) (Z : Array Value) (u : Value) (W : World) : Prop := ∃ b, u = .pointer (some ⟨b, 0, none⟩) ∧ Ar W b Z 27 ∧ n ≤ b
theorem BT.up (n : Nat) (Z : Array Value) (u : Value) : Up (BT n Z u) := fun W W' ⟨b, h1, h2, h3⟩ hr => ⟨b, h1, h2.below hr, h3⟩
def S1 (n : Nat) (t : TypeId) (x : Value) (u : Value) (W : World) : Prop := ∃ b, u = .slice (some ⟨b, 0, none⟩) 1 1 ∧ Ar W b #[x] t ∧ n ≤ b
theorem S1.up (n : Nat) (t : TypeId) (x : Value) (u : Value) : Up (S1 n t x u) := fun W W' ⟨b, h1, h2, h3⟩ hr => ⟨b, h1, h2.below hr, h3⟩
theorem alloc_b (w : World) (o : Obj) : Below w.heap.size w (w.alloc o) := (Below.refl _ _).alloc (Nat.le_refl _) _
theorem res_one {fn : Func} {p : Tmp} (hf : fn.results = #[.cell p 27]) {tmps : Array Value} {b : Nat} {w : World} {C : Array Value} (hb : tmps.getD p undef = .pointer (some ⟨b, 0, none⟩)) (h : Ar w b C 27) (hs : C.size = 260) :
    (results fn tmps).run Try.prog w = .ok (.agg C) w := by
  have hb' : tmps[p]?.getD undef = .pointer (some ⟨b, 0, none⟩) := by simpa using hb
  simp [results, hf, hb', asAddr, Result.andThen, loadVarD h hs]
theorem own_grown {w w' : World} {b B2 n bk i : Nat} {v v2 y : Value} {vs : List Value} {ls : List Int} (ho : w.ownsRow b 24 1 v n vs) (ho2 : OI w B2 v2 ls) (hg : w.grownBy w' v2.ownBlock) (hbk : bk < b) : (w'.setCell ⟨bk, i, none⟩ y).ownsRow b 24 1 v n vs :=
  own_keep ho fun g e => (Below.heap_setCell _ ⟨bk, i, none⟩ _ g (by have := (own_at ho e).2.1; intro e2; have e2 : g = bk := e2; omega)).trans (hg.block g (own_at ho e).2.2 (fun e2 => own_other ho ho2 (by decide) e e2.symm))
theorem own_cell {w : World} {b bk i n : Nat} {e : TypeId} {v y : Value} {vs : List Value} (ho : w.ownsRow b e 1 v n vs) (hbk : bk < b) : (w.setCell ⟨bk, i, none⟩ y).ownsRow b e 1 v n vs :=
  own_keep ho fun g h => Below.heap_setCell _ ⟨bk, i, none⟩ _ g (by have := (own_at ho h).2.1; intro e2; have e2 : g = bk := e2; omega)
def ChL (W5 : World) (bk : Nat) (C : Array Value) (m : Mc) (u : Value) (f : Int → Int) (n : Nat) (i : Value) (wr : World) : Prop :=
  ∃ (k : Nat) (v1 v2 : Value), k ≤ n ∧ i = .int .i64 k ∧ Kept W5 wr bk W5.heap.size (ofC C) m.wd v1 v2 u (m.nx.take k) (lbsTo m f k) ∧ ∃ vs, wr.ownsRow W5.heap.size 24 1 v1 k vs ∧ Dis vs
set_option maxRecDepth 100000 in
set_option maxHeartbeats 8000000 in
theorem changed_any {C : Array Value} {m : Mc} {v : Value} {l : List ByteArray} {g : FuncId} {lb : Array Value} {f : Int → Int} (w : World) (h : IsM w.heap.size w C m) (hok : Ok m) (hv : TS w.heap.size w v l) (hl : l.length ≤ 64)
    (eg : ∀ args w, (callFunc g args).run Try.prog w = .ok (.enter g args) w)
    (hf : ∀ W, Below w.heap.size w W → ∀ x ∈ m.lb, Calls Try.prog g (#[.int .i64 x] ++ lb) W fun e w' => e = .returned (.int .i64 (f x)) ∧ W = w') :
    Calls Try.prog 39 #[.agg C, v, .func (.func g) #[] lb] w fun e w' => ∃ v1 v2 u, e = .returned (.agg (mkC (ofC C) (.int .i64 m.wd) v1 v2 u)) ∧ Own w' w.heap.size v1 v2 u m.nx (m.lb.map f) l ∧ Below w.heap.size w w' := by
  obtain ⟨a, cap, rfl, g1, g2, _⟩ := hv.open
  have hx := (Bx.new h).alloc (.cells Try.zeroCells27 27)
  have hz : Ar ((w.alloc (.cells C 27)).alloc (.cells Try.zeroCells27 27)) (w.heap.size + 1) Try.zeroCells27 27 := by
    have := Ar.new (w.alloc (.cells C 27)) Try.zeroCells27 27
    rw [World.size_alloc] at this; exact this
  have hb0 : Below w.heap.size w ((w.alloc (.cells C 27)).alloc (.cells Try.zeroCells27 27)) := ((Below.refl _ _).alloc (Nat.le_refl _) _).alloc (by simp) _
  have hs0 : ((w.alloc (.cells C 27)).alloc (.cells Try.zeroCells27 27)).heap.size = w.heap.size + 2 := by simp
  obtain ⟨a1, a2, a3, c1, c2, c3, k1, k2, k3⟩ := h.slices
  rw [hok.len] at k1
  have hrm := (h.rx (Nat.le_refl _)).next hb0
  have hn65 := hok.lbs.2.1
  have HSZ := Lib.hid hv.szs
  have HTS := Lib.hid ((hv.below hb0).up hb0.size)
  obtain ⟨L, hL⟩ : ∃ L, L = l.length := ⟨_, rfl⟩
  have hl0 := hl
  have HLL := Lib.hid (show l.length ≤ 65536 by omega)
  rw [← hL] at HTS hl ⊢
  have HLE := Lib.hid hL
  have hLi : (L : Int) ≤ 64 := by omega
  obtain ⟨n, hn⟩ : ∃ n, n = m.lb.length := ⟨_, rfl⟩
  rw [← hn] at k1 k2
  have HN := Lib.hid (show n = m.lb.length ∧ m.nx.length = n from ⟨hn, by rw [hn]; exact hok.len⟩)
  have HN65 := Lib.hid (show n ≤ 65536 by omega)
  have hni : (n : Int) ≤ 65536 := by omega
  have HK := Lib.hid (show C[257]? = some (.slice a1 n c1) ∧ C[258]? = some (.slice a2 n c2) from ⟨k1, k2⟩)
  have HX := Lib.hid hx; have HZ := Lib.hid hz; have HB0 := Lib.hid hb0; have HS0 := Lib.hid hs0
  have HRM0 := Lib.hid hrm; have HOK := Lib.hid hok
  have HA := Lib.hid h.isA; have HAF := Lib.hid h.oflt
  have HF := Lib.hid hf; have HEG := Lib.hid eg
  have HZS := Lib.hid zc_size
  clear h hx hz hb0 hs0 k1 k2 k3 hrm hok hv hl hl0 g1 g2 hL hn hn65 hf eg
  go_enter Try.func39, Try.ntmps39
  go_wp2_with fail
  obtain ⟨B, hB⟩ : ∃ B, B = w.heap.size := ⟨_, rfl⟩
  have HBE := Lib.hid hB
  generalize ((w.alloc (.cells C 27)).alloc (.cells Try.zeroCells27 27)) = W0 at *
  rw [← hB] at HX HZ HB0 HS0 HRM0 HF ⊢
  clear hB
  have HD := Lib.hid (show KB W0 W0.drew from (Below.refl _ _).drew)
  refine wp_region_W (fun i => decide (i < 8)) 8 1 (by kernel_rfl) (by kernel_rfl) (KB.up W0) HD.out ?_
  refine wpW_taken (i := 0) rfl (by kernel_rfl) (by kernel_rfl) (by kernel_rfl) (by kernel_rfl) (KB.up W0) ?_
  apply Exists.intro
  refine ⟨Or.inl ⟨rfl, fun W hW => ?hy⟩, ?_⟩
  case hy =>
    go_simp
    exact RegionU.does_value rfl
  simp only [Act.put, List.setIfInBounds_toArray, List.set]
  refine wpW_taken (i := 1) rfl (by kernel_rfl) (by kernel_rfl) (by kernel_rfl) (by kernel_rfl) (KB.up W0) ?_
  apply Exists.intro
  refine ⟨Or.inl ⟨rfl, fun W hW => ?hy⟩, ?_⟩
  case hy =>
    exact does_eq (run_load_of (.tmp 10) rfl rfl (HX.out.below hW))
  simp only [Act.put, List.setIfInBounds_toArray, List.set]
  refine wpW_taken (i := 2) rfl (by kernel_rfl) (by kernel_rfl) (by kernel_rfl) (by kernel_rfl) (KB.up W0) ?_
  apply Exists.intro
  refine ⟨Or.inl ⟨rfl, fun W hW => ?hy⟩, ?_⟩
  case hy =>
    go_simp
    exact RegionU.does_value rfl
  simp only [Act.put, List.setIfInBounds_toArray, List.set]
  refine wpW_taken (i := 3) rfl (by kernel_rfl) (by kernel_rfl) (by kernel_rfl) (by kernel_rfl) (KB.up W0) ?_
  apply Exists.intro
  refine ⟨Or.inl ⟨rfl, fun W hW => ?hy⟩, ?_⟩
  case hy =>
    have d := (HX.out.below hW).wd
    go_simp
    exact RegionU.does_value rfl
  simp only [Act.put, List.setIfInBounds_toArray, List.set]
  refine wpW_taken (i := 4) rfl (by kernel_rfl) (by kernel_rfl) (by kernel_rfl) (by kernel_rfl) (KB.up W0) ?_
  apply Exists.intro
  refine ⟨Or.inl ⟨rfl, fun W hW => ?hy⟩, ?_⟩
  case hy =>
    go_simp
    exact RegionU.does_value rfl
  simp only [Act.put, List.setIfInBounds_toArray, List.set]
  refine have REST : ∀ (W : World) (b : Nat) (a5 : Option Addr) (c5 : Nat), KB W0 W → OS W W0.heap.size (.slice a5 L c5) l → Ar W b Try.zeroCells27 27 → W0.heap.size ≤ b → wpList Try.prog ?opsR ?QR ?tlR ((?actR : Nat → Option Addr → Nat → Act) b a5 c5) W := ?rest; ?main
  case main =>
    refine wpW_two (i := 5) (j := 7) (by kernel_rfl) (by kernel_rfl) (by kernel_rfl) rfl rfl rfl rfl (OT W0.heap.size l) (BT W0.heap.size Try.zeroCells27) (OT.up _ _) (BT.up _ _) (fun W hW => ?h5) (fun W hW => ?h7) ?_ ?_
    case h5 =>
      go_simp
      exact does_in ((cloneS_any W ((HTS.out.below hW).up (hW).size) HLL.out).mono fun e w' ⟨v, h, ho, hb⟩ => ⟨v, h, owns_base ho (hW).size, hb⟩)
    case h7 =>
      go_simp
      exact RegionU.does_made ⟨_, rfl, Ar.new _ _ _, (hW).size⟩ (alloc_b _ _)
    · intro u5
      simp only [Act.put, List.setIfInBounds_toArray, List.set]
      refine wpW_have (p := ∃ a5 c5, u5 = .slice a5 L c5) (fun W hW => ?_) ?_
      · obtain ⟨a5, c5, hf5⟩ := own_form (show World.ownsRow _ _ _ _ _ _ _ from hW.2); rw [← HLE.out] at hf5; exact ⟨a5, c5, hf5⟩
      rintro ⟨a5, c5, rfl⟩
      refine wpW_taken (i := 6) rfl (by kernel_rfl) (by kernel_rfl) (by kernel_rfl) (by kernel_rfl) ((KB.up W0).and (OT.up _ _ (.slice a5 L c5))) ?_
      apply Exists.intro
      refine ⟨Or.inl ⟨rfl, fun W hW => ?hy⟩, ?_⟩
      case hy =>
        exact does_eq (run_op_build3 (.tmp 11) (.tmp 13) (.tmp 15) rfl HA.out.size rfl rfl rfl)
      simp only [Act.put, List.setIfInBounds_toArray, List.set]
      refine wpW_one (i := 7) (by kernel_rfl) (by kernel_rfl) rfl rfl (BT W0.heap.size Try.zeroCells27) (BT.up _ _) (fun W hW => ?hy) ?_
      case hy =>
        go_simp
        exact RegionU.does_made ⟨_, rfl, Ar.new _ _ _, (hW.1).size⟩ (alloc_b _ _)
      intro u7
      simp only [Act.put, List.setIfInBounds_toArray, List.set]
      refine wpW_have (p := ∃ b, u7 = .pointer (some ⟨b, 0, none⟩)) (fun W hW => ?_) ?_
      · obtain ⟨b, h, _⟩ := hW.2; exact ⟨b, h⟩
      rintro ⟨b, rfl⟩
      refine wpW_done1 (i := 8) rfl (by kernel_rfl) (by kernel_rfl) ?_
      rintro W ⟨⟨h1, h2⟩, b', h3, h4, h5⟩
      obtain rfl : b = b' := by simpa using h3
      exact REST W b a5 c5 h1 h2 h4 h5
    · intro u7
      simp only [Act.put, List.setIfInBounds_toArray, List.set]
      refine wpW_have (p := ∃ b, u7 = .pointer (some ⟨b, 0, none⟩)) (fun W hW => ?_) ?_
      · obtain ⟨b, h, _⟩ := hW.2; exact ⟨b, h⟩
      rintro ⟨b, rfl⟩
      refine wpW_one (i := 5) (by kernel_rfl) (by kernel_rfl) rfl rfl (OT W0.heap.size l) (OT.up _ _) (fun W hW => ?hy) ?_
      case hy =>
        go_simp
        exact does_in ((cloneS_any W ((HTS.out.below hW.1).up (hW.1).size) HLL.out).mono fun e w' ⟨v, h, ho, hb⟩ => ⟨v, h, owns_base ho (hW.1).size, hb⟩)
      intro u5
      simp only [Act.put, List.setIfInBounds_toArray, List.set]
      refine wpW_have (p := ∃ a5 c5, u5 = .slice a5 L c5) (fun W hW => ?_) ?_
      · obtain ⟨a5, c5, hf5⟩ := own_form (show World.ownsRow _ _ _ _ _ _ _ from hW.2); rw [← HLE.out] at hf5; exact ⟨a5, c5, hf5⟩
      rintro ⟨a5, c5, rfl⟩
      refine wpW_taken (i := 6) rfl (by kernel_rfl) (by kernel_rfl) (by kernel_rfl) (by kernel_rfl) (((KB.up W0).and (BT.up _ _ (.pointer (some ⟨b, 0, none⟩)))).and (OT.up _ _ (.slice a5 L c5))) ?_
      apply Exists.intro
      refine ⟨Or.inl ⟨rfl, fun W hW => ?hy⟩, ?_⟩
      case hy =>
        exact does_eq (run_op_build3 (.tmp 11) (.tmp 13) (.tmp 15) rfl HA.out.size rfl rfl rfl)
      simp only [Act.put, List.setIfInBounds_toArray, List.set]
      refine wpW_done1 (i := 8) rfl (by kernel_rfl) (by kernel_rfl) ?_
      rintro W ⟨⟨h1, b', h3, h4, h5⟩, h2⟩
      obtain rfl : b = b' := by simpa using h3
      exact REST W b a5 c5 h1 h2 h4 h5
  case rest =>
    intro W bk a5 c5 hKB hU hAb hbk
    have HONE := Lib.hid (oneAll (one_of HA.out) (x := .int .i64 m.wd) (v1 := nilS) (v2 := nilS) (v3 := .slice a5 L c5) rfl rfl rfl rfl)
    have HMS := Lib.hid (fun (x v1 v2 v3 : Value) => mkC_size HA.out.size x v1 v2 v3)
    have hA5 := hAb.row (mkC (ofC C) (.int .i64 m.wd) nilS nilS (.slice a5 L c5))
    have hs0 := HS0.out
    have hkb : Below W0.heap.size W0 W := hKB
    have hb5 : Below B w (W.setRow bk (mkC (ofC C) (.int .i64 m.wd) nilS nilS (.slice a5 L c5))) := below_row (HB0.out.trans (hkb.mono (by omega))) (by omega) _
    have hx5 : Ar (W.setRow bk (mkC (ofC C) (.int .i64 m.wd) nilS nilS (.slice a5 L c5))) B C 27 := (heap_row _ _ _ (by omega)).trans (HX.out.ar.below hkb)
    have hz5 : Ar (W.setRow bk (mkC (ofC C) (.int .i64 m.wd) nilS nilS (.slice a5 L c5))) (B + 1) Try.zeroCells27 27 := (heap_row _ _ _ (by omega)).trans (HZ.out.below hkb)
    have hr5 : Rx (fun k => B ≤ k) (W.setRow bk (mkC (ofC C) (.int .i64 m.wd) nilS nilS (.slice a5 L c5))) C m := (HRM0.out.next hkb).row (by omega) _
    have hu5 : OS (W.setRow bk (mkC (ofC C) (.int .i64 m.wd) nilS nilS (.slice a5 L c5))) W0.heap.size (.slice a5 L c5) l := own_keep hU fun g hg => heap_row _ _ _ (fun e => by
      obtain ⟨⟨cur, h1⟩, _⟩ := own_at hU hg
      have h2 : W.heap[bk]? = _ := hAb
      rw [e, h2] at h1
      injection h1 with h1
      injection h1 with _ h1
      exact absurd h1 (by decide))
    have hsz5 : W0.heap.size ≤ (W.setRow bk (mkC (ofC C) (.int .i64 m.wd) nilS nilS (.slice a5 L c5))).heap.size := by rw [size_row]; exact hkb.size
    refine wpList_store_dfa rfl (.tmp 7) (.tmp 16) rfl rfl rfl hAb HZS.out (HMS.out _ _ _ _) HONE.out ?_
    simp only [Act.put]
    have HKP := Lib.hid (Kept.first hA5)
    have HB5 := Lib.hid hb5; have HX5 := Lib.hid hx5; have HZ5 := Lib.hid hz5; have HR5 := Lib.hid hr5; have HU5 := Lib.hid hu5; have HSZ5 := Lib.hid hsz5
    have HBK := Lib.hid (show B + 2 ≤ bk by omega)
    clear hA5 hb5 hx5 hz5 hr5 hu5 hsz5 hKB hkb hU hAb hbk hs0
    generalize (W.setRow bk (mkC (ofC C) (.int .i64 m.wd) nilS nilS (.slice a5 L c5))) = W5 at *
    have hd1 := (Ar.at' HX5.out 257).trans HK.out.1
    go_wp2_with fail
    clear hd1
    go_loopw [20] (ChL W5 bk C m (.slice a5 L c5) f n) (fun i _ => n - (intOf i).toNat)
    case atStart => exact ⟨0, nilS, nilS, Nat.zero_le _, rfl, HKP.out, [], World.ownsRow_nil _ _ _ _, List.Pairwise.nil⟩
    case round =>
      obtain ⟨k, v1, v2, hk, rfl, hkp, vs, hown, hdis⟩ := hrel
      have hbx := hkp.bx (Nat.le_refl _) (Y := fun k => B ≤ k) (by have := HBK.out; omega) HX5.out (by have := HBK.out; omega) HR5.out
      by_cases hlt : k < n
      · obtain ⟨y1, hRS⟩ := hbx.nxv HK.out.1
        obtain ⟨y2, hIS⟩ := hbx.lbv HK.out.2
        obtain ⟨b1, o1, vi, rfl, hb1, hc1, hi1⟩ := hRS.cell (i := k) (by rw [HN.out.2]; exact hlt)
        obtain ⟨b2, o2, rfl, hb2, hc2⟩ := hIS.cell (i := k) (by rw [← HN.out.1]; exact hlt)
        obtain ⟨ar, cr, rfl, _, _, _⟩ := hi1.open
        obtain ⟨r, hr⟩ : ∃ r, r = m.nx.getD k [] := ⟨_, rfl⟩
        have hr256 : r.length ≤ 65536 := by have := HOK.out.row (show k < m.lb.length by rw [← HN.out.1]; exact hlt); have := HOK.out.wd; have := rk_le (E := byKey m.of) 256; rw [hr]; omega
        rw [← hr] at hi1 hc1
        have HRR := Lib.hid hr; have HR256 := Lib.hid hr256; have HLT := Lib.hid hlt
        obtain ⟨lr, hlr⟩ : ∃ n, n = r.length := ⟨_, rfl⟩
        rw [← hlr] at hi1 hc1
        have HLR := Lib.hid hlr
        obtain ⟨y, hy⟩ : ∃ y, y = m.lb.getD k 0 := ⟨_, rfl⟩
        rw [← hy] at hc2
        have HY := Lib.hid (show y = m.lb.getD k 0 ∧ y ∈ m.lb from ⟨hy, by rw [hy, List.getD_eq_getElem?_getD, List.getElem?_eq_getElem (by rw [← HN.out.1]; exact hlt)]; exact List.getElem_mem _⟩)
        obtain ⟨a6, c6, rfl⟩ := own_form hown
        obtain ⟨a7, c7, hv2, _, _⟩ := hkp.o2.len
        rw [lbsTo_len' m f (show k ≤ m.lb.length by rw [← HN.out.1]; exact hk)] at hv2
        subst hv2
        have HKW := Lib.hid hkp; have HOW := Lib.hid hown; have HDI := Lib.hid hdis; have HRI := Lib.hid hi1; have HBXW := Lib.hid hbx
        have hat := hkp.at HA.out.size
        have HAT := Lib.hid hat
        have HC2 := Lib.hid hc2
        have hki : (k : Int) ≤ 65536 := by omega
        clear hkp hown hdis hbx hRS hIS hi1 hb1 hb2 hr hr256 hlr hy y2 hat hc2
        go_wp2_with fail
        clear y1 hc1
        have HD := Lib.hid (show KB wr wr.drew from (Below.refl _ _).drew)
        refine wp_region_W (fun i => decide (i < 5)) 5 3 (by kernel_rfl) (by kernel_rfl) (KB.up wr) HD.out ?_
        refine wpW_taken (i := 0) rfl (by kernel_rfl) (by kernel_rfl) (by kernel_rfl) (by kernel_rfl) (KB.up wr) ?_
        apply Exists.intro
        refine ⟨Or.inl ⟨rfl, fun W hW => ?hy⟩, ?_⟩
        case hy =>
          go_simp
          exact RegionU.does_value rfl
        simp only [Act.put, List.setIfInBounds_toArray, List.set]
        refine wpW_taken (i := 1) rfl (by kernel_rfl) (by kernel_rfl) (by kernel_rfl) (by kernel_rfl) (KB.up wr) ?_
        apply Exists.intro
        refine ⟨Or.inl ⟨rfl, fun W hW => ?hy⟩, ?_⟩
        case hy =>
          have d := (Below.cell (p := ⟨bk, 257, none⟩) hW HKW.out.box.lt).trans HAT.out.1
          go_simp
          exact RegionU.does_value rfl
        simp only [Act.put, List.setIfInBounds_toArray, List.set]
        refine wpW_taken (i := 2) rfl (by kernel_rfl) (by kernel_rfl) (by kernel_rfl) (by kernel_rfl) (KB.up wr) ?_
        apply Exists.intro
        refine ⟨Or.inl ⟨rfl, fun W hW => ?hy⟩, ?_⟩
        case hy =>
          go_simp
          exact RegionU.does_value rfl
        simp only [Act.put, List.setIfInBounds_toArray, List.set]
        refine wpW_one (i := 3) (by kernel_rfl) (by kernel_rfl) rfl rfl (IT wr.heap.size r) (IT.up _ _) (fun W hW => ?hy) ?_
        case hy =>
          go_simp
          exact does_in ((cloneI_any W (HRI.out.below hW) HR256.out).mono fun e w' ⟨v, h, ho, hb⟩ => ⟨v, h, owns_base ho hW.size, hb⟩)
        intro u3
        simp only [Act.put, List.setIfInBounds_toArray, List.set]
        refine wpW_have (p := ∃ a5 c5, u3 = .slice a5 lr c5) (fun W hW => ?_) ?_
        · obtain ⟨a8, c8, hf8, _, _⟩ := OI.len (show OI _ _ _ _ from hW.2); rw [← HLR.out] at hf8; exact ⟨a8, c8, hf8⟩
        rintro ⟨a8, c8, rfl⟩
        refine wpW_one (i := 4) (by kernel_rfl) (by kernel_rfl) rfl rfl (S1 wr.heap.size 24 (.slice a8 lr c8)) (S1.up _ _ _) (fun W hW => ?hy) ?_
        case hy =>
          go_simp
          exact RegionU.does_made ⟨_, rfl, Ar.new _ _ _, Below.size (show Below _ _ _ from hW.1)⟩ (alloc_b _ _)
        intro u4
        simp only [Act.put, List.setIfInBounds_toArray, List.set]
        refine wpW_have (p := ∃ b, u4 = .slice (some ⟨b, 0, none⟩) 1 1) (fun W hW => ?_) ?_
        · obtain ⟨b, h, _⟩ := hW.2; exact ⟨b, h⟩
        rintro ⟨b9, rfl⟩
        refine wpW_done3 (i := 5) (j := 6) (k := 7) rfl rfl rfl (by kernel_rfl) (by kernel_rfl) ?_
        rintro W ⟨⟨h1, h2⟩, b', h3, h4, h5⟩
        obtain rfl : b9 = b' := by simpa using h3
        have h1 : Below wr.heap.size wr W := h1
        have h2 : OI W wr.heap.size (.slice a8 lr c8) r := h2
        have hkw := HKW.out.below h1
        obtain ⟨vs2, ho1, hvs2⟩ := hkw.o1
        rw [List.length_take, HN.out.2, Nat.min_eq_left hk] at ho1 hvs2
        obtain rfl : vs = vs2 := own_uniq (own_keep HOW.out fun g hg => h1.block g (own_at HOW.out hg).2.2) ho1
        have hdd : ∀ g, (Value.slice a8 lr c8).ownBlock = some g → wr.heap.size ≤ g := fun g hg => (own_at (show World.ownsRow _ _ _ _ _ _ _ from h2) hg).2.1
        have HKX := Lib.hid hkw
        have HO1 := Lib.hid ho1
        have HVS := Lib.hid hvs2; have HDD := Lib.hid hdd; have HI2 := Lib.hid h2
        have HBS := Lib.hid (show W5.heap.size ≤ W.heap.size from hkw.base)
        have HFA := Lib.hid (hkw.grown1 HA.out.size (w' := W))
        refine wpList_append_row rfl (.tmp 26) (.tmp 29) rfl rfl ho1 hkw.base ⟨b9, 0, none⟩ 1 rfl (Ar.at' h4 0) rfl (by have := HN65.out; omega) ?_
        intro v1' w2 hown2 hg2
        obtain ⟨⟨yx, hyx⟩, hfx⟩ := hkw.grown1 HA.out.size hg2
        obtain ⟨a9, c9, rfl⟩ := own_form hown2
        have hnew := hkw.row HA.out.size (M := r) (by rw [List.length_take, HN.out.2, Nat.min_eq_left hk]; exact hvs2) (by rw [List.length_take, HN.out.2, Nat.min_eq_left hk]; exact ho1) (owns_base h2 HKW.out.base) (fun g hg e => by
          have q1 := hdd g hg
          have q2 := (own_at HKW.out.o2 e).2.2
          omega) (by rw [List.length_take, HN.out.2, Nat.min_eq_left hk]; exact hown2) hg2
        have HNEW := Lib.hid hnew
        have HOWN2 := Lib.hid (own_cell (i := 257) (y := .slice a9 (k + 1) c9) hown2 HKW.out.lt)
        have HDIS := Lib.hid (HDI.out.snoc (v := .slice a8 lr c8) (fun x hx g hg e => by
          have q1 := hdd g e
          obtain ⟨i, hi, rfl⟩ := List.mem_iff_getElem.1 hx
          have hik : i < k := by have := HOW.out.1; omega
          obtain ⟨vj, q2, q3, _⟩ := HKW.out.o1.elim fun vs3 h3 => by
            have e3 := own_uniq (show wr.ownsRow _ _ 1 _ _ vs3 from h3.1) HOW.out
            subst e3
            exact h3.2 i (by rw [List.length_take, HN.out.2]; omega)
          rw [List.getElem?_eq_getElem hi] at q2
          injection q2 with q2
          rw [q2] at hg
          have := (own_at q3 hg).2.2
          omega))
        clear h1 h2 h3 h4 h5 hkw ho1 hvs2 hdd hown2 hg2 hnew HKX HO1 HVS HDD HI2 HBS HFA HKW HOW HDI HRI HBXW HAT HD
        go_wp2_with fail
        generalize w2.setCell ⟨bk, 257, none⟩ (.slice a9 (k + 1) c9) = wr2 at *
        have hbx := HNEW.out.bx (Nat.le_refl _) (Y := fun k => B ≤ k) (by have := HBK.out; omega) HX5.out (by have := HBK.out; omega) HR5.out
        obtain ⟨y2, hIS⟩ := hbx.lbv HK.out.2
        obtain ⟨b2', o2', e2, hb2, hc2⟩ := hIS.cell (i := k) (by rw [← HN.out.1]; exact HLT.out)
        simp only [Option.some.injEq, Addr.mk.injEq, and_true] at e2
        obtain ⟨rfl, rfl⟩ := e2
        rw [← HY.out.1] at hc2
        have HAT := Lib.hid (HNEW.out.at HA.out.size)
        have HY2 := Lib.hid y2; have HC2 := Lib.hid hc2
        have HAX := Lib.hid hbx.ar; have HB2 := Lib.hid hb2
        have HBL := Lib.hid (HB5.out.trans (HNEW.out.blow (n := B) (by have := HBK.out; omega)))
        clear y2 hc2 hbx hIS hb2
        have HD := Lib.hid (show KB wr2 wr2.drew from (Below.refl _ _).drew)
        refine wp_region_W (fun i => decide (i < 10)) 10 3 (by kernel_rfl) (by kernel_rfl) (KB.up wr2) HD.out ?_
        refine wpW_taken (i := 0) rfl (by kernel_rfl) (by kernel_rfl) (by kernel_rfl) (by kernel_rfl) (KB.up wr2) ?_
        apply Exists.intro
        refine ⟨Or.inl ⟨rfl, fun W hW => ?hy⟩, ?_⟩
        case hy =>
          go_simp
          exact RegionU.does_value rfl
        simp only [Act.put, List.setIfInBounds_toArray, List.set]
        refine wpW_taken (i := 1) rfl (by kernel_rfl) (by kernel_rfl) (by kernel_rfl) (by kernel_rfl) (KB.up wr2) ?_
        apply Exists.intro
        refine ⟨Or.inl ⟨rfl, fun W hW => ?hy⟩, ?_⟩
        case hy =>
          have d := (Below.cell (p := ⟨bk, 258, none⟩) hW HNEW.out.box.lt).trans HAT.out.2
          go_simp
          exact RegionU.does_value rfl
        simp only [Act.put, List.setIfInBounds_toArray, List.set]
        refine wpW_taken (i := 2) rfl (by kernel_rfl) (by kernel_rfl) (by kernel_rfl) (by kernel_rfl) (KB.up wr2) ?_
        apply Exists.intro
        refine ⟨Or.inl ⟨rfl, fun W hW => ?hy⟩, ?_⟩
        case hy =>
          go_simp
          exact RegionU.does_value rfl
        simp only [Act.put, List.setIfInBounds_toArray, List.set]
        refine wpW_taken (i := 3) rfl (by kernel_rfl) (by kernel_rfl) (by kernel_rfl) (by kernel_rfl) (KB.up wr2) ?_
        apply Exists.intro
        refine ⟨Or.inl ⟨rfl, fun W hW => ?hy⟩, ?_⟩
        case hy =>
          go_simp
          exact RegionU.does_value rfl
        simp only [Act.put, List.setIfInBounds_toArray, List.set]
        refine wpW_taken (i := 4) rfl (by kernel_rfl) (by kernel_rfl) (by kernel_rfl) (by kernel_rfl) (KB.up wr2) ?_
        apply Exists.intro
        refine ⟨Or.inl ⟨rfl, fun W hW => ?hy⟩, ?_⟩
        case hy =>
          have d := (Below.cell (p := ⟨B, 258, none⟩) hW HAX.out.lt).trans HY2.out
          go_simp
          exact RegionU.does_value rfl
        simp only [Act.put, List.setIfInBounds_toArray, List.set]
        refine wpW_taken (i := 5) rfl (by kernel_rfl) (by kernel_rfl) (by kernel_rfl) (by kernel_rfl) (KB.up wr2) ?_
        apply Exists.intro
        refine ⟨Or.inl ⟨rfl, fun W hW => ?hy⟩, ?_⟩
        case hy =>
          go_simp
          exact RegionU.does_value rfl
        simp only [Act.put, List.setIfInBounds_toArray, List.set]
        refine wpW_taken (i := 6) rfl (by kernel_rfl) (by kernel_rfl) (by kernel_rfl) (by kernel_rfl) (KB.up wr2) ?_
        apply Exists.intro
        refine ⟨Or.inl ⟨rfl, fun W hW => ?hy⟩, ?_⟩
        case hy =>
          have hlt := HLT.out
          go_simp
          exact RegionU.does_value rfl
        simp only [Act.put, List.setIfInBounds_toArray, List.set]
        refine wpW_taken (i := 7) rfl (by kernel_rfl) (by kernel_rfl) (by kernel_rfl) (by kernel_rfl) (KB.up wr2) ?_
        apply Exists.intro
        refine ⟨Or.inl ⟨rfl, fun W hW => ?hy⟩, ?_⟩
        case hy =>
          have d := (Below.cell (p := ⟨b2, o2 + k, none⟩) hW HB2.out).trans HC2.out
          go_simp
          exact RegionU.does_value rfl
        simp only [Act.put, List.setIfInBounds_toArray, List.set]
        refine wpW_taken (i := 8) rfl (by kernel_rfl) (by kernel_rfl) (by kernel_rfl) (by kernel_rfl) (KB.up wr2) ?_
        apply Exists.intro
        refine ⟨Or.inl ⟨rfl, fun W hW => ?hy⟩, ?_⟩
        case hy =>
          have eg := HEG.out
          go_simp
          exact RegionU.does_call ((HF.out W (HBL.out.trans (Below.mono (show Below _ _ _ from hW) (by have := HNEW.out.lt; have := HNEW.out.base; have := HBK.out; omega))) y HY.out.2).mono fun e w' ⟨h, hw⟩ => ⟨h, by rw [hw]; exact Below.refl _ _⟩)
        simp only [Act.put, List.setIfInBounds_toArray, List.set]
        refine wpW_one (i := 9) (by kernel_rfl) (by kernel_rfl) rfl rfl (S1 wr2.heap.size 3 (.int .i64 (f y))) (S1.up _ _ _) (fun W hW => ?hy) ?_
        case hy =>
          go_simp
          exact RegionU.does_made ⟨_, rfl, Ar.new _ _ _, Below.size (show Below _ _ _ from hW)⟩ (alloc_b _ _)
        intro u9
        simp only [Act.put, List.setIfInBounds_toArray, List.set]
        refine wpW_have (p := ∃ b, u9 = .slice (some ⟨b, 0, none⟩) 1 1) (fun W hW => ?_) ?_
        · obtain ⟨b, h, _⟩ := hW.2; exact ⟨b, h⟩
        rintro ⟨b9, rfl⟩
        refine wpW_done3 (i := 10) (j := 11) (k := 12) rfl rfl rfl (by kernel_rfl) (by kernel_rfl) ?_
        rintro W ⟨h1, b', h3, h4, h5⟩
        obtain rfl : b9 = b' := by simpa using h3
        have h1 : Below wr2.heap.size wr2 W := h1
        have hkw := HNEW.out.below h1
        have hln := lbsTo_len' m f (show k ≤ m.lb.length by rw [← HN.out.1]; exact hk)
        have HDW := Lib.hid (own_keep (w' := W) HOWN2.out fun g hg => h1.block g (own_at HOWN2.out hg).2.2)
        have HKX := Lib.hid hkw
        refine wpList_append_int_at rfl (.tmp 33) (.tmp 41) rfl rfl hkw.o2 hkw.base ⟨b9, 0, none⟩ 1 (f y) rfl (Ar.at' h4 0) rfl (by rw [hln]; have := HN65.out; omega) ?_
        intro v2' w4 hO4 hg4 hat4
        obtain ⟨⟨yx, hyx⟩, hfx⟩ := hkw.grown2 HA.out.size hg4
        obtain ⟨a4, c4, hv4, _, _⟩ := hO4.len
        rw [List.length_append, hln] at hv4
        subst hv4
        have HNEW2 := Lib.hid (hkw.lab HA.out.size hO4 hg4 (fun g hg => by
          rcases hat4 with e | e
          · exact .inl (e ▸ hg)
          · rw [e] at hg; injection hg with hg; exact .inr (by omega)))
        have HDW2 := Lib.hid (own_grown (i := 258) (y := .slice a4 (k + 1) c4) HDW.out hkw.o2 hg4 HNEW.out.lt)
        clear h1 h3 h4 h5 hkw hln hO4 hg4 hat4 HNEW HOWN2 HAT HY2 HC2 HAX HB2 HBL HD
        go_wp2_with fail
        refine ⟨⟨k + 1, .slice a9 (k + 1) c9, .slice a4 (k + 1) c4, HLT.out, by go_num, ?_, _, HDW2.out, HDIS.out⟩, by have := HLT.out; simp [intOf]; omega⟩
        rw [takeR_snoc m.nx (show k < m.nx.length by rw [HN.out.2]; exact HLT.out), lbsTo_succ m f (show k < m.lb.length by rw [← HN.out.1]; exact HLT.out), ← HRR.out, ← HY.out.1]
        exact HNEW2.out
      · have hkn : k = n := by omega
        have e1 : m.nx.take k = m.nx := by rw [hkn, ← HN.out.2, List.take_length]
        have e2 : lbsTo m f k = m.lb.map f := by rw [hkn, HN.out.1, lbsTo_all]
        rw [e1, e2] at hkp
        have ho := hkp.own (l := l) (B' := W0.heap.size) ⟨vs, by rw [HN.out.2, ← hkn]; exact hown, hdis⟩ (own_keep HU5.out fun g hg => hkp.fr g (own_at HU5.out hg).2.2 (fun e => by
          have h1 := (own_at HU5.out hg).1
          obtain ⟨cur, h1⟩ := h1
          have h2 : W5.heap[bk]? = _ := HKP.out.box
          rw [e, h2] at h1
          injection h1 with h1
          injection h1 with _ h1
          exact absurd h1 (by decide))) HSZ5.out
        have hbm : Bx wr bk (mkC (ofC C) (.int .i64 m.wd) v1 v2 (.slice a5 L c5)) ⟨m.of, m.wd, m.nx, m.lb.map f, l⟩ := ⟨hkp.box, ho.is HA.out HAF.out HSZ.out m.wd⟩
        have hz := (hkp.fr (B + 1) (by have := hkp.lt; have := HBK.out; omega) (by have := HBK.out; omega)).trans HZ5.out
        have HBM := Lib.hid hbm; have HO := Lib.hid ho
        have HZW : Hid (Ar wr (B + 1) Try.zeroCells27 27) := Lib.hid hz
        have HBW := Lib.hid (HB5.out.trans (hkp.blow (n := B) (by have := HBK.out; omega)))
        have HDS := Lib.hid hbm.is.size; have HDO := Lib.hid hbm.is.one
        clear hkp hown hdis ho hbm hz hbx hkn e1 e2
        go_wp2_with (first | (refine wpList_load_dfa rfl (.tmp 7) rfl rfl HBM.out ?_) | (refine wpList_store_dfa rfl (.tmp 6) (.tmp 45) rfl rfl rfl HZW.out HZS.out HDS.out HDO.out ?_; simp only [Act.put]))
        refine bodyPost_ret (res_one rfl rfl (HZW.out.row _) HDS.out) rfl ⟨v1, v2, _, rfl, (HO.out.keep fun k h1 h2 => heap_row _ _ _ (by have := HS0.out; omega)).base (by have := HS0.out; rw [← HBE.out]; omega), ?_⟩
        rw [← HBE.out]
        exact below_row HBW.out (by omega) _
end Go.Proofs.Ytlfmkiendaecaaa.DfaW
