/- Walk of the document's Norm. -/
import Derived.Test.YtlfmkiendaecaaaRefOnly
import Derived.Test.YtlfmkiendaecaaaRegions
namespace Go.Proofs.Ytlfmkiendaecaaa.DfaW
set_option linter.unusedVariables false
set_option linter.unusedSimpArgs false
open Go.Proofs.Ytlfmkiendaecaaa.RegionU (Up wpU_taken wpU_one wpU_mono wpU_done wp_region_U does wpS_taken wpS_takenY wpS_one wpS_two wpS_done wpS_have wp_region_S)
open Go.RowKit Go.Maps Go.Proofs.Ytlfmkiendaecaaa.PartM Go.Proofs.Ytlfmkiendaecaaa.PartW Go.Proofs.Ytlfmkiendaecaaa.TxM
theorem does_eq {P : Program} {W : World} {r : Result Next} {v : Value} (h : r = .ok (.value v) W) : does P W (fun u _ => u = v) r := by rw [h]; exact RegionU.does_value rfl
theorem does_in {P : Program} {W : World} {f : FuncId} {args : Array Value} {T : Value → World → Prop} (h : Calls P f args W (fun e W' => ∃ u, e = .returned u ∧ T u W' ∧ Below W.heap.size W W')) : does P W T (.ok (.enter f args) W) := ⟨rfl, h⟩
/-- A machine in its box, robust against Y; what lay ahead lies as it did. -/
def KR (Y : Nat → Prop) (W0 : World) (b : Nat) (C : Array Value) (m : Mc) (W : World) : Prop := Ar W b C 27 ∧ Rx Y W C m ∧ Below W0.heap.size W0 W
theorem KR.up (Y : Nat → Prop) (W0 : World) (b : Nat) (C : Array Value) (m : Mc) : Up (KR Y W0 b C m) := fun W W' ⟨h1, h2, h3⟩ hr => ⟨h1.below hr, h2.next hr, h3.trans (hr.mono h3.size)⟩
theorem KR.bx {Y : Nat → Prop} {W0 : World} {b : Nat} {C : Array Value} {m : Mc} {W : World} (h : KR Y W0 b C m W) : Bx W b C m := ⟨h.1, h.2.1.is⟩
def OT (b : Nat) (l : List ByteArray) (u : Value) (W : World) : Prop := OS W b u l
theorem OT.up (b : Nat) (l : List ByteArray) (u : Value) : Up (OT b l u) := fun W W' h hr => OS.below h hr
/-- A machine and an error's number. -/
def MT (Y : Nat → Prop) (m : Mc) (k : Int) (u : Value) (W : World) : Prop := ∃ D, u = .tuple #[.agg D, .int .i64 k] ∧ Rx Y W D m
theorem MT.up (Y : Nat → Prop) (m : Mc) (k : Int) (u : Value) : Up (MT Y m k u) := fun W W' ⟨D, h1, h2⟩ hr => ⟨D, h1, h2.next hr⟩

set_option maxRecDepth 100000 in
set_option maxHeartbeats 4000000 in
theorem refNorm_any {C : Array Value} {m : Mc} {X : Nat → Prop} (w : World) (hm : Rx X w C m) (hX : ∀ k, X k → k < w.heap.size) :
    Calls Try.prog 17 #[.agg C] w fun e w' => ∃ D, e = .returned (.tuple #[.agg D, .int .i64 (namesE m (usedV m))]) ∧ Rx X w' D (namesM m (usedV m)) ∧ Below w.heap.size w w' := by
  have hx := (Bx.new hm.is).alloc (.cells Try.zeroCells27 27)
  have hz : Ar ((w.alloc (.cells C 27)).alloc (.cells Try.zeroCells27 27)) (w.heap.size + 1) Try.zeroCells27 27 := by
    have := Ar.new (w.alloc (.cells C 27)) Try.zeroCells27 27
    rw [World.size_alloc] at this; exact this
  have hb0 : Below w.heap.size w ((w.alloc (.cells C 27)).alloc (.cells Try.zeroCells27 27)) := ((Below.refl _ _).alloc (Nat.le_refl _) _).alloc (by simp) _
  have hs0 : ((w.alloc (.cells C 27)).alloc (.cells Try.zeroCells27 27)).heap.size = w.heap.size + 2 := by simp
  have hr0 := (hm.free hb0).mono (Y := fun k => X k ∨ k = w.heap.size + 1) fun k hk => hk.elim .inl fun h => .inr (by omega)
  have HX := Lib.hid hx.ar; have HZ := Lib.hid hz; have HB0 := Lib.hid hb0; have HS0 := Lib.hid hs0; have HR0 := Lib.hid hr0; have HXX := Lib.hid hX
  have HZS := Lib.hid zc_size
  obtain ⟨R, hR⟩ : ∃ R, R = usedV m := ⟨_, rfl⟩
  have HRZ := Lib.hid (show Szs R by rw [hR]; exact used_szs m)
  have H1 := Lib.hid (fun W (h : IsM W.heap.size W C m) => by have := refUsed_any W h; rw [← hR] at this; exact this)
  have H2 := Lib.hid (fun W (X : Nat → Prop) (u : Value) (h : Rx X W C m) (hu : RxT X W u R) (hX : ∀ k, X k → k < W.heap.size) => refNames_any W h hu hX)
  rw [← hR]
  obtain ⟨k, hk⟩ : ∃ k, k = namesE m R := ⟨_, rfl⟩
  obtain ⟨j, hj⟩ : ∃ j, j = namesM m R := ⟨_, rfl⟩
  rw [← hk, ← hj] at H2 ⊢
  clear hx hz hb0 hs0 hr0 hX hm hR hk hj
  go_enter Try.func17, Try.ntmps17
  go_wp2_with fail
  obtain ⟨B, hB⟩ : ∃ B, B = w.heap.size := ⟨_, rfl⟩
  have HBB := Lib.hid hB
  generalize (w.alloc (.cells C 27)).alloc (.cells Try.zeroCells27 27) = W0 at *
  rw [← hB] at HX HZ HS0 HR0 ⊢
  have HYY := Lib.hid (show ∀ k, (X k ∨ k = B + 1) → k < W0.heap.size from fun k hk => by
    rw [HS0.out]
    rcases hk with h | h
    · have := HXX.out k h; omega
    · omega)
  clear hB
  have HD := Lib.hid (show KR (fun k => X k ∨ k = B + 1) W0 B C m W0.drew from ⟨HX.out.below (Below.refl _ _).drew, HR0.out.next (Below.refl _ _).drew, (Below.refl _ _).drew⟩)
  refine wp_region_S 6 2 (by kernel_rfl) (by kernel_rfl) (KR.up _ W0 B C m) HD.out ?_
  refine wpS_taken (i := 0) rfl (by kernel_rfl) (by kernel_rfl) (by kernel_rfl) (by kernel_rfl) (KR.up _ W0 B C m) ?_
  apply Exists.intro
  refine ⟨Or.inl ⟨rfl, fun W hW => ?hy⟩, ?_⟩
  case hy => exact does_eq (run_load_dfa (.tmp 1) rfl rfl hW.bx)
  simp only [Act.put, List.setIfInBounds_toArray, List.set]
  refine wpS_taken (i := 1) rfl (by kernel_rfl) (by kernel_rfl) (by kernel_rfl) (by kernel_rfl) (KR.up _ W0 B C m) ?_
  apply Exists.intro
  refine ⟨Or.inl ⟨rfl, fun W hW => ?hy⟩, ?_⟩
  case hy => exact does_eq (run_load_dfa (.tmp 1) rfl rfl hW.bx)
  simp only [Act.put, List.setIfInBounds_toArray, List.set]
  refine wpS_one (i := 2) (by kernel_rfl) (by kernel_rfl) rfl rfl (OT W0.heap.size R) (OT.up _ _) (fun W hW => ?hy) ?_
  case hy =>
    go_simp
    exact does_in ((H1.out W hW.bx.is).mono fun e w' ⟨v, h, ho, hb⟩ => ⟨v, h, owns_base ho hW.2.2.size, hb⟩)
  intro u2
  simp only [Act.put, List.setIfInBounds_toArray, List.set]
  refine wpS_one (i := 3) (by kernel_rfl) (by kernel_rfl) rfl rfl (MT (fun k => X k ∨ k = B + 1) j k) (MT.up _ _ _) (fun W hW => ?hy) ?_
  case hy =>
    obtain ⟨hK, h1⟩ := hW
    go_simp
    exact does_in ((H2.out W _ _ hK.2.1 (OS.rx h1 HRZ.out HYY.out) (fun k hk => Nat.lt_of_lt_of_le (HYY.out k hk) hK.2.2.size)).mono fun e w' ⟨D, h, hd, hb⟩ => ⟨_, h, ⟨D, rfl, hd⟩, hb⟩)
  intro u3
  simp only [Act.put, List.setIfInBounds_toArray, List.set]
  refine wpS_have (p := ∃ D, u3 = .tuple #[.agg D, .int .i64 k]) (fun W hW => ?_) ?_
  · obtain ⟨D, h, _⟩ := hW.2; exact ⟨D, h⟩
  rintro ⟨D, rfl⟩
  refine wpS_taken (i := 4) rfl (by kernel_rfl) (by kernel_rfl) (by kernel_rfl) (by kernel_rfl) (((KR.up _ W0 B C m).and (OT.up _ _ u2)).and (MT.up _ _ _ (Value.tuple #[.agg D, .int .i64 k]))) ?_
  apply Exists.intro
  refine ⟨Or.inl ⟨rfl, fun W hW => ?hy⟩, ?_⟩
  case hy =>
    go_simp
    exact RegionU.does_value rfl
  simp only [Act.put, List.setIfInBounds_toArray, List.set]
  refine wpS_taken (i := 5) rfl (by kernel_rfl) (by kernel_rfl) (by kernel_rfl) (by kernel_rfl) (((KR.up _ W0 B C m).and (OT.up _ _ u2)).and (MT.up _ _ _ (Value.tuple #[.agg D, .int .i64 k]))) ?_
  apply Exists.intro
  refine ⟨Or.inl ⟨rfl, fun W hW => ?hy⟩, ?_⟩
  case hy =>
    go_simp
    exact RegionU.does_value rfl
  simp only [Act.put, List.setIfInBounds_toArray, List.set]
  refine wpS_done rfl (by kernel_rfl) (by kernel_rfl) ?_
  intro W hW
  obtain ⟨⟨hK, h1⟩, D2, hD2, hD⟩ := hW
  have hD2 : D = D2 := by simpa using hD2
  subst hD2
  have HZW := Lib.hid (HZ.out.below hK.2.2)
  have HSZ := Lib.hid hD.is.size; have HON := Lib.hid hD.is.one
  have HBW := Lib.hid (below_row (HB0.out.trans (hK.2.2.mono HB0.out.size)) (show w.heap.size ≤ B + 1 by rw [HBB.out]; omega) D)
  have HRES := Lib.hid ((hD.row (.inr rfl) D).mono (Y := X) fun k hk => .inl hk)
  clear hK h1 hD
  refine wpList_store_dfa (B := B + 1) (D := D) ?gA (.tmp 2) (.tmp 8) ?gB ?gC ?gD HZW.out zc_size HSZ.out HON.out ?gE
  case gA => rfl
  case gB => rfl
  case gC => rfl
  case gD => rfl
  simp only [Act.put]
  go_wp2_with fail
  exact bodyPost_ret (res_kept rfl rfl rfl (Ar.row HZW.out _) HSZ.out) rfl ⟨_, rfl, HRES.out, HBW.out⟩
end Go.Proofs.Ytlfmkiendaecaaa.DfaW
