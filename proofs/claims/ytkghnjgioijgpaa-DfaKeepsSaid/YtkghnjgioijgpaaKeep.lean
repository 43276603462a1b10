/- Walks of Keep, Trim. -/
import Derived.Test.YtkghnjgioijgpaaKept
import Derived.Test.YtkghnjgioijgpaaRegionT2
import Derived.Deep.AppendLies
import Derived.Deep.RegionLaw
import Derived.Deep.CutRange
import Derived.Deep.CutBlock
import Derived.Deep.DeepCutAuto
namespace Go.Proofs.Ytkghnjgioijgpaa.DfaW
set_option linter.unusedVariables false
set_option linter.unusedSimpArgs false
open Go.Proofs.Ytkghnjgioijgpaa.RegionU (Up wpU_taken wpU_one wpU_two wpU_mono wpU_done wp_region_U does wpT_taken wpT_one wpT_two wpT_done wp_region_T)
open Go.RowKit Go.Maps Go.Proofs.Ytkghnjgioijgpaa.PartM Go.Proofs.Ytkghnjgioijgpaa.PartW Go.Proofs.Ytkghnjgioijgpaa.DfaM
theorem info24r : (Try.prog.info? 24).map (fun i => (i.zero, i.size, i.bytes)) = some (some (.slice none 0 0), 1, 24) := by kernel_rfl
theorem ztexts (l : List ByteArray) (j : Nat) (hj : j < l.length) : (l.map Value.string)[j]? = some (.string (l.getD j ByteArray.empty)) := by simp [List.getD, hj]
/-- Names, copied. -/
theorem CloneT_any {v : Value} {l : List ByteArray} (w : World) (h : TS w.heap.size w v l) (hl : l.length ≤ 64) :
    Calls Try.prog 50 #[v] w fun e w' => ∃ u, e = .returned u ∧ w'.ownsRow w.heap.size 9 1 u l.length (l.map Value.string) ∧ Below w.heap.size w w' := by
  obtain ⟨a, cap, rfl, h1, h2, h3⟩ := h.open
  rcases a with _ | ad
  · have h0 : l = [] := by
      cases l with
      | nil => rfl
      | cons x l => obtain ⟨b, o, e, _⟩ := h3 0 (by simp); cases e
    subst h0
    refine (Try.slices_Clone_string_nil 0 cap w).mono ?_
    rintro e w' ⟨rfl, rfl⟩
    exact ⟨_, rfl, World.ownsRow_nil _ _ _ _, Below.refl _ _⟩
  · rcases Nat.eq_zero_or_pos l.length with h0 | h0
    · have h0 : l = [] := List.length_eq_zero_iff.1 h0
      subst h0
      refine (Try.slices_Clone_string_zero ad cap w).mono ?_
      rintro e w' ⟨u, rfl, ho, _, hb⟩
      exact ⟨u, rfl, ho, hb⟩
    · obtain ⟨b, o, e, hb, hc⟩ := TS.cells (cap := cap) h3 h0
      injection e with e
      subst e
      refine (Try.slices_Clone_string b o l.length cap l w (Nat.le_refl _) (by omega) hc).mono ?_
      rintro e w' ⟨u, rfl, ho, _, hb⟩
      rw [List.take_length] at ho
      exact ⟨u, rfl, ho, hb⟩
theorem own_ts {w : World} {b : Nat} {u : Value} {l : List ByteArray} (h : w.ownsRow b 9 1 u l.length (l.map Value.string)) (hs : ∀ i, i < l.length → (l.getD i ByteArray.empty).size ≤ 9223372036854775807) : TS w.heap.size w u l := by
  refine ⟨VS.of_owns h fun a c e => ?_, hs⟩
  rcases h.2 with ⟨e2, _⟩ | ⟨g, cap, cur, e2, _, _, _, hc, _⟩
  · rw [e2] at e; simp only [Value.slice.injEq] at e; have := e.2.2; omega
  · rw [e2] at e; simp only [Value.slice.injEq] at e; rw [← e.2.2]; exact hc
/-- What is known of the copied names. -/
def NT (w : World) (l : List ByteArray) (u : Value) (W : World) : Prop := ∃ b, w.heap.size ≤ b ∧ b ≤ W.heap.size ∧ W.ownsRow b 9 1 u l.length (l.map Value.string)
theorem NT.up (w : World) (l : List ByteArray) (u : Value) : Up (NT w l u) := fun W W' ⟨b, h1, h2, h3⟩ hr => ⟨b, h1, Nat.le_trans h2 hr.size, own_keep h3 fun g hg => hr.block g (own_at h3 hg).2.2⟩
theorem NT.form {w : World} {l : List ByteArray} {u : Value} {W : World} (h : NT w l u W) : ∃ a n c, u = .slice a n c := by
  obtain ⟨b, _, _, h⟩ := h
  rcases h.2 with ⟨e, _⟩ | ⟨g, cap, cur, e, _⟩
  · exact ⟨_, _, _, e⟩
  · exact ⟨_, _, _, e⟩
theorem own_base {w : World} {b b' : Nat} {e : TypeId} {s : Nat} {v : Value} {n : Nat} {xs : List Value} (h : w.ownsRow b e s v n xs) (hb : b' ≤ b) : w.ownsRow b' e s v n xs := owns_base h hb
/-- A new box for a machine. -/
def BxT (w : World) (u : Value) (W : World) : Prop := ∃ X : Nat, u = .pointer (some ⟨X, 0, none⟩) ∧ Ar W X Try.zeroCells27 27 ∧ w.heap.size ≤ X
theorem BxT.up (w : World) (u : Value) : Up (BxT w u) := fun W W' ⟨X, h1, h2, h3⟩ hr => ⟨X, h1, h2.below hr, h3⟩
theorem BxT.new {w W : World} (h : w.heap.size ≤ W.heap.size) : BxT w (.pointer (some ⟨W.heap.size, 0, none⟩)) (W.alloc (.cells Try.zeroCells27 27)) := ⟨_, rfl, Ar.new _ _ _, h⟩
theorem one_of {A : Array Value} {f : Nat → Nat} (h : IsA A f) : A.all (·.oneCell') = true := by
  rw [Array.all_eq_true]
  intro i hi
  have := h.at' i (by rw [← h.size]; exact hi)
  rw [Array.getElem?_eq_getElem hi] at this
  injection this with this
  rw [this]; rfl
/-- The copy of a machine's outside has been stored. -/
structure Kb6 (w2 : World) (B X : Nat) (C : Array Value) (m : Mc) (u : Value) (W : World) : Prop where
  kept : Kept W W X W.heap.size (ofC C) m.wd nilS nilS u [] []
  nm : W.ownsRow w2.heap.size 9 1 u m.nm.length (m.nm.map Value.string)
  lo : w2.heap.size ≤ X
  below : Below w2.heap.size w2 W
theorem keep6 {w2 W : World} {B X : Nat} {C : Array Value} {m : Mc} {u : Value} (hw : B + 2 ≤ w2.heap.size) (hX : Bx W B C m) (hB : Below w2.heap.size w2 W) (hn : NT w2 m.nm u W) (hXa : Ar W X Try.zeroCells27 27) (hXl : w2.heap.size ≤ X) :
    (mkC (ofC C) (.int .i64 m.wd) nilS nilS u).all (·.oneCell') = true ∧ Kb6 w2 B X C m u (W.setRow X (mkC (ofC C) (.int .i64 m.wd) nilS nilS u)) := by
  obtain ⟨b, b1, b2, ho⟩ := hn
  have hu : u.oneCell' = true := by obtain ⟨_, _, _, rfl⟩ := NT.form ⟨b, b1, b2, ho⟩; rfl
  refine ⟨oneAll (one_of hX.is.isA) rfl rfl rfl hu, Kept.first (hXa.row _), own_base (own_keep ho fun g hg => ?_) b1, hXl, below_row hB hXl _⟩
  refine heap_row _ _ _ (fun e => ?_)
  subst e
  obtain ⟨⟨cur, h1⟩, _⟩ := own_at ho hg
  rw [show W.heap[g]? = _ from hXa] at h1
  injection h1 with h1
  injection h1 with _ h1
  exact absurd h1 (by decide)
theorem run_op_build3 {op : Oper} {a : Act} {w : World} (p0 p1 p4 : Operand) (ho : op.op = .build 27 #[(0, p0), (1, p1), (4, p4)]) {A : Array Value} (hA : A.size = 256) {x : Int} {a3 : Option Addr} {n3 c3 : Nat} (h0 : a.eval p0 = .agg A) (h1 : a.eval p1 = .int .i64 x) (h4 : a.eval p4 = .slice a3 n3 c3) :
    (execOp a.eval op).run Try.prog w = .ok (.value (.agg (mkC A (.int .i64 x) nilS nilS (.slice a3 n3 c3)))) w := by
  unfold execOp
  simp only [ho, List.map_toArray, List.map_cons, List.map_nil, h0, h1, h4, Sem.run_bind, build3 hA, Result.andThen_ok]
  rfl
/-- What a Keep leaves. -/
theorem res_kept {fn : Func} {p q : Tmp} (hf : fn.results = #[.cell p 27, .tmp q]) {tmps : Array Value} {b : Nat} {k : Value} {w : World} {C : Array Value} (hb : tmps.getD p undef = .pointer (some ⟨b, 0, none⟩)) (hq : tmps.getD q undef = k) (h : Ar w b C 27) (hs : C.size = 260) :
    (results fn tmps).run Try.prog w = .ok (.tuple #[.agg C, k]) w := by
  rw [results_cell_tmp hf, hb, hq]
  simp [asAddr, Result.andThen, loadVarD h hs]
theorem byP_all {N : Nat} {l r : List Int} (hr : ∀ x ∈ r, 0 ≤ x ∧ x < (N : Int)) (hc : ∀ y ∈ r, y ∈ l) : byP (plcL N l) r = turnL l r := by
  refine List.map_congr_left fun y hy => ?_
  have h := hr y hy
  rw [plcL_at l (show y.toNat < N by omega), show ((y.toNat : Nat) : Int) = y by omega]
  exact plc_in (hc y hy)
theorem turn_pos {l r : List Int} : (-1 : Int) ∉ turnL l r := fun h => by
  obtain ⟨y, _, e⟩ := List.mem_map.1 h
  omega
theorem byP_bad {N : Nat} {l r : List Int} (hr : ∀ x ∈ r, 0 ≤ x ∧ x < (N : Int)) (hc : ¬ ∀ y ∈ r, y ∈ l) : (-1 : Int) ∈ byP (plcL N l) r := by
  have hex : ∃ y, y ∈ r ∧ y ∉ l := Classical.byContradiction fun h => hc fun y hy => Classical.byContradiction fun hn => h ⟨y, hy, hn⟩
  obtain ⟨y, hy, hn⟩ := hex
  have h := hr y hy
  refine List.mem_map.2 ⟨y, hy, ?_⟩
  rw [plcL_at l (show y.toNat < N by omega), show ((y.toNat : Nat) : Int) = y by omega]
  exact plc_out hn
/-- The rows and the labels of the first j that are kept. -/
def rowsTo (m : Mc) (l : List Int) (j : Nat) : List (List Int) := (l.take j).map fun s => turnL l (m.nx.getD s.toNat [])
def labsTo (m : Mc) (l : List Int) (j : Nat) : List Int := (l.take j).map fun s => m.lb.getD s.toNat 0
theorem rowsTo_snoc (m : Mc) {l : List Int} {j : Nat} (h : j < l.length) : rowsTo m l (j + 1) = rowsTo m l j ++ [turnL l (m.nx.getD (l.getD j 0).toNat [])] := by unfold rowsTo; rw [takeI_snoc l h, List.map_append]; rfl
theorem labsTo_snoc (m : Mc) {l : List Int} {j : Nat} (h : j < l.length) : labsTo m l (j + 1) = labsTo m l j ++ [m.lb.getD (l.getD j 0).toNat 0] := by unfold labsTo; rw [takeI_snoc l h, List.map_append]; rfl
theorem rowsTo_len (m : Mc) {l : List Int} {j : Nat} (h : j ≤ l.length) : (rowsTo m l j).length = j ∧ (labsTo m l j).length = j := by
  unfold rowsTo labsTo
  rw [List.length_map, List.length_map, List.length_take]
  omega
def KeepL (wc : World) (X : Nat) (C : Array Value) (m : Mc) (u : Value) (l : List Int) (L : Nat) (i : Value) (wr : World) : Prop :=
  ∃ (j : Nat) (u1 u2 : Value), j ≤ L ∧ i = .int .i64 j ∧ Kept wc wr X wc.heap.size (ofC C) m.wd u1 u2 u (rowsTo m l j) (labsTo m l j) ∧ ∀ x ∈ l.take j, ∀ y ∈ m.nx.getD x.toNat [], y ∈ l
theorem meas {L j : Nat} (h : j < L) : L - (intOf (.int .i64 ((j : Int) + 1))).toNat < L - (intOf (.int .i64 (j : Int))).toNat := by simp [intOf]; omega
theorem own_form {w : World} {b : Nat} {e : TypeId} {s : Nat} {v : Value} {n : Nat} {xs : List Value} (h : w.ownsRow b e s v n xs) : ∃ a c, v = .slice a n c := by
  rcases h.2 with ⟨e1, e2⟩ | ⟨g, cap, cur, e, _⟩
  · exact ⟨_, _, by rw [e1, e2]⟩
  · exact ⟨_, _, e⟩
theorem cell_frozen {w : World} {b : Nat} {C : Array Value} {t : TypeId} (h : Ar w b C t) (i : Nat) : w.frozen? ⟨b, i, none⟩ = false := Ar.frozen h i
theorem IsM.nm_sizes {B : Nat} {w : World} {C : Array Value} {m : Mc} (h : IsM B w C m) : ∀ i, i < m.nm.length → (m.nm.getD i ByteArray.empty).size ≤ 9223372036854775807 := by
  obtain ⟨v, _, h⟩ := h.nm
  exact h.2
theorem pl_len {N : Nat} {l : List Int} (p : Pl N l) : l.length ≤ N := by
  have h3 : (l.map Int.toNat).Nodup := by
    unfold List.Nodup
    rw [List.pairwise_map]
    refine List.Pairwise.imp_of_mem ?_ p.2.2
    intro a b ha hb hab e
    have h1 := p.2.1 a ha
    have h2 := p.2.1 b hb
    exact hab (by omega)
  have := nodup_le h3 (n := N) fun x hx => by
    obtain ⟨y, hy, rfl⟩ := List.mem_map.1 hx
    have := p.2.1 y hy
    omega
  simpa using this
theorem Good.pl {m : Mc} {l : List Int} (g : Good m l) : Pl m.lb.length l := ⟨g.first, g.lt, g.once⟩
set_option maxRecDepth 100000 in
set_option maxHeartbeats 4000000 in
theorem Keep_any {C : Array Value} {m : Mc} {v : Value} {l : List Int} (w : World) (h : IsM w.heap.size w C m) (hv : IS w.heap.size w v l) :
    Calls Try.prog 27 #[.agg C, v] w fun e w' => ∃ D, e = .returned (.tuple #[.agg D, .int .i64 (keptE m l)]) ∧ Rd w.heap.size w' D (keptM m l) ∧ Below w.heap.size w w' := by
  have hx := (Bx.new h).alloc (.cells Try.zeroCells27 27)
  have hz : Ar ((w.alloc (.cells C 27)).alloc (.cells Try.zeroCells27 27)) (w.heap.size + 1) Try.zeroCells27 27 := by
    have := Ar.new (w.alloc (.cells C 27)) Try.zeroCells27 27
    rw [World.size_alloc] at this; exact this
  have hb0 : Below w.heap.size w ((w.alloc (.cells C 27)).alloc (.cells Try.zeroCells27 27)) := ((Below.refl _ _).alloc (Nat.le_refl _) _).alloc (by simp) _
  have hs0 : ((w.alloc (.cells C 27)).alloc (.cells Try.zeroCells27 27)).heap.size = w.heap.size + 2 := by simp
  obtain ⟨a, cap, rfl, _, _, _⟩ := hv.open
  have HV := Lib.hid hv
  obtain ⟨L, hL⟩ : ∃ L, L = l.length := ⟨_, rfl⟩
  rw [← hL] at HV ⊢
  have HX := Lib.hid hx; have HZ := Lib.hid hz; have HB0 := Lib.hid hb0; have HS0 := Lib.hid hs0; have HLL := Lib.hid hL; have HM := Lib.hid h
  clear hx hz hb0 hs0 hv h hL
  have HS0 := HS0; have HZ := HZ
  go_enter Try.func27, Try.ntmps27
  go_wp2_with (refine wpList_load_dfa rfl (.tmp 2) rfl rfl HX.out ?_)
  obtain ⟨B, hB⟩ : ∃ B, B = w.heap.size := ⟨_, rfl⟩
  have HBB := Lib.hid hB
  generalize (w.alloc (.cells C 27)).alloc (.cells Try.zeroCells27 27) = W0 at *
  rw [← hB] at HX HZ HS0 ⊢
  clear hB
  refine (RightD_any _ HX.out.is).mono ?_
  rintro e w1 ⟨hs, hb⟩
  have HX1 := Lib.hid (HX.out.below hb); have HB1 := Lib.hid (HB0.out.trans (hb.mono HB0.out.size)); have HZ1 := Lib.hid (HZ.out.below hb)
  have HW1 := Lib.hid (show B + 2 ≤ w1.heap.size by have := hb.size; rw [HS0.out] at this; exact this)
  have HZO := Lib.hid (IsM.one (zero_is w1)); have HZS := Lib.hid zc_size
  clear hb HX HZ HS0 HB0
  rcases hs.elim with ⟨rfl, hk⟩ | ⟨rfl, hk⟩
  rotate_left
  · have HE := Lib.hid (keptE_no (l := l) hk); have HKM := Lib.hid (keptM_no (l := l) hk)
    clear hs hk
    go_wp2_with (refine wpList_store_dfa rfl (.tmp 4) (.tmp 16) rfl rfl rfl HZ1.out HZS.out HZS.out HZO.out ?_; simp only [Act.put])
    refine bodyPost_ret (res_kept rfl rfl rfl ((HZ1.out).row _) HZS.out) rfl ⟨_, by rw [HE.out]; rfl, by rw [HKM.out]; exact zero_rd _ _, below_row HB1.out (by rw [HBB.out]; omega) _⟩
  have HK := Lib.hid hk
  obtain ⟨v1, x1, hv1⟩ := HX1.out.nx
  obtain ⟨a1, c1, rfl, _, _, _⟩ := hv1.open
  rw [hk.len] at x1
  obtain ⟨N, hN⟩ : ∃ N, N = m.lb.length := ⟨_, rfl⟩
  have HNN := Lib.hid hN
  have hN0 : 0 < N := by rw [hN]; exact hk.zero
  have hN6 : N ≤ 65536 := by rw [hN]; exact hk.lbs.2.1
  rw [← hN] at x1
  have HV1 := Lib.hid (show IS w1.heap.size w1 (.slice a L cap) l from (HV.out.below HB1.out).up HB1.out.size)
  clear hs hk hv1 hN
  go_wp2_with fail
  refine (placed_any w1 HV1.out hN0 hN6).mono ?_
  rintro e w2 ⟨hpl, hb⟩
  have HX2 := Lib.hid (HX1.out.below hb); have HB2 := Lib.hid (HB1.out.trans (hb.mono HB1.out.size)); have HZ2 := Lib.hid (HZ1.out.below hb)
  have HW2 := Lib.hid (show w.heap.size + 2 ≤ w2.heap.size by have := hb.size; have := HW1.out; rw [← HBB.out]; omega)
  clear hb HX1 HB1 HZ1 HW1 x1
  rcases hpl with ⟨hnp, rfl⟩ | ⟨hp, g, rfl, hpc⟩
  · have hng : ¬ Good m l := fun x => hnp (by rw [HNN.out]; exact x.pl)
    have HE := Lib.hid (keptE_bad HK.out hng); have HKM := Lib.hid (keptM_bad hng)
    clear hnp hng
    go_wp2_with (refine wpList_store_dfa rfl (.tmp 4) (.tmp 27) rfl rfl rfl HZ2.out HZS.out HZS.out HZO.out ?_; simp only [Act.put])
    refine bodyPost_ret (res_kept rfl rfl rfl ((HZ2.out).row _) HZS.out) rfl ⟨_, by rw [HE.out]; rfl, by rw [HKM.out]; exact zero_rd _ _, below_row HB2.out (by rw [HBB.out]; omega) _⟩
  have HP := Lib.hid hp; have HPC := Lib.hid hpc
  obtain ⟨v3, x3, hv3⟩ := HX2.out.nm
  have HCL := Lib.hid (fun W (hB : Below w2.heap.size w2 W) => CloneT_any W ((hv3.below hB).up hB.size) HK.out.nms.1)
  obtain ⟨a3, c3, rfl, _, _, _⟩ := hv3.open
  have HC1 := Lib.hid (fun W (h : Below w2.heap.size w2 W) => (h.cell (p := ⟨B, 256, none⟩) HX2.out.ar.lt).trans HX2.out.wd)
  have HC2 := Lib.hid (fun W (h : Below w2.heap.size w2 W) => (h.cell (p := ⟨B, 259, none⟩) HX2.out.ar.lt).trans x3)
  have HD := Lib.hid (KD.of HX2.out (Below.refl _ _).drew)
  clear hp hpc hv3 x3
  go_wp2_with fail
  go_cut [8] from 28 to 36 (fun bx wx => ∃ (X : Nat) (u : Value), bx = .pointer (some ⟨X, 0, none⟩) ∧ Kb6 w2 B X C m u wx)
  case first =>
    refine wp_region_T 9 (by kernel_rfl) (by kernel_rfl) (KD.up w2 B C m) HD.out ?_
    refine wpT_taken (i := 0) rfl (by kernel_rfl) (by kernel_rfl) (by kernel_rfl) (by kernel_rfl) (by kernel_rfl) (KD.up w2 B C m) ?_
    apply Exists.intro
    refine ⟨Or.inl ⟨rfl, fun W hW => ?hy⟩, ?_⟩
    case hy =>
      obtain ⟨hX, hB⟩ := hW
      go_simp
      exact RegionU.does_value rfl
    simp only [Act.put, List.setIfInBounds_toArray, List.set]
    refine wpT_taken (i := 1) rfl (by kernel_rfl) (by kernel_rfl) (by kernel_rfl) (by kernel_rfl) (by kernel_rfl) (KD.up w2 B C m) ?_
    apply Exists.intro
    refine ⟨Or.inl ⟨rfl, fun W hW => ?hy⟩, ?_⟩
    case hy =>
      obtain ⟨hX, hB⟩ := hW
      exact does_eq (run_load_of (.tmp 28) rfl rfl hX)
    simp only [Act.put, List.setIfInBounds_toArray, List.set]
    refine wpT_taken (i := 2) rfl (by kernel_rfl) (by kernel_rfl) (by kernel_rfl) (by kernel_rfl) (by kernel_rfl) (KD.up w2 B C m) ?_
    apply Exists.intro
    refine ⟨Or.inl ⟨rfl, fun W hW => ?hy⟩, ?_⟩
    case hy =>
      obtain ⟨hX, hB⟩ := hW
      go_simp
      exact RegionU.does_value rfl
    simp only [Act.put, List.setIfInBounds_toArray, List.set]
    refine wpT_taken (i := 3) rfl (by kernel_rfl) (by kernel_rfl) (by kernel_rfl) (by kernel_rfl) (by kernel_rfl) (KD.up w2 B C m) ?_
    apply Exists.intro
    refine ⟨Or.inl ⟨rfl, fun W hW => ?hy⟩, ?_⟩
    case hy =>
      obtain ⟨hX, hB⟩ := hW
      have hc := HC1.out W hB
      go_simp
      exact RegionU.does_value rfl
    simp only [Act.put, List.setIfInBounds_toArray, List.set]
    refine wpT_taken (i := 4) rfl (by kernel_rfl) (by kernel_rfl) (by kernel_rfl) (by kernel_rfl) (by kernel_rfl) (KD.up w2 B C m) ?_
    apply Exists.intro
    refine ⟨Or.inl ⟨rfl, fun W hW => ?hy⟩, ?_⟩
    case hy =>
      obtain ⟨hX, hB⟩ := hW
      go_simp
      exact RegionU.does_value rfl
    simp only [Act.put, List.setIfInBounds_toArray, List.set]
    refine wpT_taken (i := 5) rfl (by kernel_rfl) (by kernel_rfl) (by kernel_rfl) (by kernel_rfl) (by kernel_rfl) (KD.up w2 B C m) ?_
    apply Exists.intro
    refine ⟨Or.inl ⟨rfl, fun W hW => ?hy⟩, ?_⟩
    case hy =>
      obtain ⟨hX, hB⟩ := hW
      have hc := HC2.out W hB
      go_simp
      exact RegionU.does_value rfl
    simp only [Act.put, List.setIfInBounds_toArray, List.set]
    refine wpT_two (i := 6) (j := 8) (by kernel_rfl) (by kernel_rfl) (by kernel_rfl) rfl rfl rfl rfl (NT w2 m.nm) (BxT w2) (NT.up _ _) (BxT.up _) (fun W hW => ?hy1) (fun W hW => ?hy2) ?h1 ?h2
    case hy1 =>
      obtain ⟨hX, hB⟩ := hW
      go_simp
      exact does_in ((HCL.out W hB).mono fun e w' ⟨u, h, ho, hb⟩ => ⟨u, h, ⟨w2.heap.size, Nat.le_refl _, Nat.le_trans hB.size hb.size, own_base ho hB.size⟩, hb⟩)
    case hy2 =>
      obtain ⟨hX, hB⟩ := hW
      go_simp
      exact RegionU.does_made (BxT.new hB.size) ((Below.refl _ _).alloc (Nat.le_refl _) _)
    case h1 =>
      intro u6
      simp only [Act.put, List.setIfInBounds_toArray, List.set]
      refine wpT_taken (i := 7) rfl (by kernel_rfl) (by kernel_rfl) (by kernel_rfl) (by kernel_rfl) (by kernel_rfl) ((KD.up w2 B C m).and (NT.up _ _ u6)) ?_
      refine ⟨(.agg (mkC (ofC C) (.int .i64 m.wd) nilS nilS u6)), Or.inl ⟨rfl, fun W hW => ?hy⟩, ?_⟩
      case hy =>
        obtain ⟨⟨hX, hB⟩, hn⟩ := hW
        obtain ⟨a6, n6, c6, rfl⟩ := hn.form
        exact does_eq (run_op_build3 (.tmp 29) (.tmp 31) (.tmp 34) rfl hX.is.isA.size rfl rfl rfl)
      simp only [Act.put, List.setIfInBounds_toArray, List.set]
      refine wpT_one (i := 8) (by kernel_rfl) (by kernel_rfl) rfl rfl (BxT w2) (BxT.up _) (fun W hW => ?hy) ?_
      case hy =>
        obtain ⟨⟨hX, hB⟩, hn⟩ := hW
        go_simp
        exact RegionU.does_made (BxT.new hB.size) ((Below.refl _ _).alloc (Nat.le_refl _) _)
      intro u8
      simp only [Act.put, List.setIfInBounds_toArray, List.set]
      refine wpT_done (by kernel_rfl) ?_
      intro W hW
      obtain ⟨⟨⟨hX, hB⟩, hn⟩, hq⟩ := hW
      obtain ⟨X, rfl, hXa, hXl⟩ := hq
      have hfin := keep6 (by rw [HBB.out]; exact HW2.out) hX hB hn hXa hXl
      have HFIN := Lib.hid hfin
      have HXA := Lib.hid hXa
      have HSZ := Lib.hid hX.is.isA.size
      clear hX hB hn hXa hXl hfin
      refine wpList_store_dfa (B := X) (D := mkC (ofC C) (.int .i64 m.wd) nilS nilS u6) ?g1 (.tmp 8) (.tmp 35) ?g2 ?g3 ?g4 HXA.out zc_size (mkC_size HSZ.out _ _ _ _) HFIN.out.1 ?g5
      case g1 => rfl
      case g2 => rfl
      case g3 => rfl
      case g4 => rfl
      simp only [Act.put]
      go_wp2_with fail
      go_meet
      exact ⟨X, _, rfl, HFIN.out.2⟩
    case h2 =>
      intro u8
      simp only [Act.put, List.setIfInBounds_toArray, List.set]
      refine wpT_one (i := 6) (by kernel_rfl) (by kernel_rfl) rfl rfl (NT w2 m.nm) (NT.up _ _) (fun W hW => ?hy) ?_
      case hy =>
        obtain ⟨⟨hX, hB⟩, hq⟩ := hW
        go_simp
        exact does_in ((HCL.out W hB).mono fun e w' ⟨u, h, ho, hb⟩ => ⟨u, h, ⟨w2.heap.size, Nat.le_refl _, Nat.le_trans hB.size hb.size, own_base ho hB.size⟩, hb⟩)
      intro u6
      simp only [Act.put, List.setIfInBounds_toArray, List.set]
      refine wpT_taken (i := 7) rfl (by kernel_rfl) (by kernel_rfl) (by kernel_rfl) (by kernel_rfl) (by kernel_rfl) (((KD.up w2 B C m).and (BxT.up _ u8)).and (NT.up _ _ u6)) ?_
      refine ⟨(.agg (mkC (ofC C) (.int .i64 m.wd) nilS nilS u6)), Or.inl ⟨rfl, fun W hW => ?hy⟩, ?_⟩
      case hy =>
        obtain ⟨⟨⟨hX, hB⟩, hq⟩, hn⟩ := hW
        obtain ⟨a6, n6, c6, rfl⟩ := hn.form
        exact does_eq (run_op_build3 (.tmp 29) (.tmp 31) (.tmp 34) rfl hX.is.isA.size rfl rfl rfl)
      simp only [Act.put, List.setIfInBounds_toArray, List.set]
      refine wpT_done (by kernel_rfl) ?_
      intro W hW
      obtain ⟨⟨⟨hX, hB⟩, hq⟩, hn⟩ := hW
      obtain ⟨X, rfl, hXa, hXl⟩ := hq
      have hfin := keep6 (by rw [HBB.out]; exact HW2.out) hX hB hn hXa hXl
      have HFIN := Lib.hid hfin
      have HXA := Lib.hid hXa
      have HSZ := Lib.hid hX.is.isA.size
      clear hX hB hn hXa hXl hfin
      refine wpList_store_dfa (B := X) (D := mkC (ofC C) (.int .i64 m.wd) nilS nilS u6) ?k1 (.tmp 8) (.tmp 35) ?k2 ?k3 ?k4 HXA.out zc_size (mkC_size HSZ.out _ _ _ _) HFIN.out.1 ?k5
      case k1 => rfl
      case k2 => rfl
      case k3 => rfl
      case k4 => rfl
      simp only [Act.put]
      go_wp2_with fail
      go_meet
      exact ⟨X, _, rfl, HFIN.out.2⟩
  case rest =>
    obtain ⟨X, u, rfl, h6⟩ := hcut
    have HLO := Lib.hid h6.lo; have HNM := Lib.hid h6.nm; have HB6 := Lib.hid h6.below; have HK6 := Lib.hid h6.kept
    have HV2 := Lib.hid (show IS w2.heap.size w2 (.slice a L cap) l from (HV.out.below HB2.out).up HB2.out.size)
    obtain ⟨i0, hi, hz0, hz1, hz2⟩ := info_parts info24r
    obtain ⟨i3, hi3, hz30, hz31, hz32⟩ := info_parts info3
    have hXs := h6.kept.lt
    have HIA := Lib.hid HX2.out.is.isA
    clear h6 HC1 HC2 HCL HD HV
    go_wp2_with fail
    go_loopw [38] (fun i wr => KeepL wc X C m u l L i wr) (fun i _ => L - (intOf i).toNat)
    case atStart => exact ⟨0, nilS, nilS, Nat.zero_le _, rfl, HK6.out, fun x hx => by cases hx⟩
    case round =>
      obtain ⟨j, u1, u2, hj, rfl, hK, hcl⟩ := hrel
      have hBr : Below w2.heap.size w2 wr := HB6.out.trans (hK.blow HLO.out)
      have HBR := Lib.hid hBr; have HKP := Lib.hid hK; have HCLO := Lib.hid hcl
      clear hK hcl
      by_cases hjL : j < L
      · have hjl : j < l.length := by rw [← HLL.out]; exact hjL
        have HJ := Lib.hid hjL
        obtain ⟨_, _, e, _, _, hvj⟩ := (HV2.out.below hBr).open
        simp only [Value.slice.injEq] at e
        obtain ⟨rfl, hLe, rfl⟩ := e
        clear hLe
        obtain ⟨b, o, rfl, hb, hc⟩ := hvj j hjl
        have hs := HP.out.2.1 _ (getD_mem (d := 0) hjl)
        have HRS := Lib.hid (rowsTo_snoc m hjl); have HLS := Lib.hid (labsTo_snoc m hjl); have HTK := Lib.hid (takeI_snoc l hjl)
        obtain ⟨k, hk⟩ : ∃ k : Nat, l.getD j 0 = k := ⟨(l.getD j 0).toNat, by omega⟩
        rw [hk] at hc hs
        rw [hk, show ((k : Nat) : Int).toNat = k by omega] at HRS HLS
        rw [hk] at HTK
        have hkN : k < N := by omega
        have hkm : k < m.lb.length := by rw [← HNN.out]; exact hkN
        have hxr := HX2.out.below hBr
        obtain ⟨v1, x1, hv1⟩ := hxr.nx
        obtain ⟨a1', c1', rfl, _, _, p3⟩ := hv1.open
        obtain ⟨b1, o1, vi, rfl, hb1, hc1, hrow⟩ := p3 k (by rw [HK.out.len]; exact hkm)
        rw [HK.out.len, ← HNN.out] at x1
        have hrw := HK.out.rws.2 k (by rw [HK.out.len]; exact hkm)
        obtain ⟨r, hr⟩ : ∃ r, r = m.nx.getD k [] := ⟨_, rfl⟩
        rw [← hr] at hrow hrw HRS
        rw [← HNN.out] at hrw
        have hrl : r.length ≤ 65536 := by
          have h1 := hrw.1
          have h2 := HK.out.wd
          have h3 := rk_le (E := byKey m.of) 256
          omega
        have HRB := Lib.hid (show ∀ x ∈ r, 0 ≤ x ∧ x < (N : Int) from fun x hx => by
          obtain ⟨q, hq, rfl⟩ := List.mem_iff_getElem.1 hx
          have := hrw.2 q hq
          rw [List.getD_eq_getElem?_getD, List.getElem?_eq_getElem hq] at this
          exact this)
        have HTU := Lib.hid (turned_any wr hrow ((HPC.out.below hBr).is hN6) (by rw [plcL_len]; exact hrw.2) hrl (by rw [plcL_len]; exact hN6))
        obtain ⟨ar, cr, rfl, _, _, _⟩ := hrow.open
        obtain ⟨R, hR⟩ : ∃ R, R = r.length := ⟨_, rfl⟩
        have HR' := Lib.hid hR
        rw [← hR] at HTU hc1
        have HRR := Lib.hid hr; have HKM := Lib.hid hkm
        clear hvj hs hk hxr hv1 p3 hrow hrw hr hb hb1 hR hkm hj
        go_wp2_with fail
        refine HTU.out.mono ?_
        rintro e wa ⟨u', rfl, ⟨g2, hg2, hu', hrw2⟩, hba⟩
        have HKA := Lib.hid (HKP.out.below hba)
        have HBA := Lib.hid (HBR.out.trans (hba.mono HBR.out.size))
        by_cases hcl2 : ∀ y ∈ r, y ∈ l
        case neg =>
          have hin := byP_bad HRB.out hcl2
          have HNG := Lib.hid (show ¬ Good m l from fun g => hcl2 fun y hy => by
            have hm : ((k : Nat) : Int) ∈ l := by
              have h1 : ((k : Nat) : Int) ∈ l.take (j + 1) := by rw [HTK.out]; simp
              exact List.mem_of_mem_take h1
            have := g.closed _ hm y
            rw [show ((k : Nat) : Int).toNat = k by omega, ← HRR.out] at this
            exact this hy)
          have HE := Lib.hid (keptE_bad HK.out HNG.out); have HKM2 := Lib.hid (keptM_bad HNG.out)
          rw [decide_eq_true hin]
          subst hu'
          have HZA := Lib.hid (HZ2.out.below HBA.out)
          have HBW := Lib.hid (HB2.out.trans (HBA.out.mono HB2.out.size))
          clear hcl2 hin hg2 hrw2 hba
          go_wp2_with (refine wpList_store_dfa rfl (.tmp 4) (.tmp 54) rfl rfl rfl HZA.out HZS.out HZS.out HZO.out ?_; simp only [Act.put])
          refine bodyPost_ret (res_kept rfl rfl rfl ((HZA.out).row _) HZS.out) rfl ⟨_, by rw [HE.out]; rfl, by rw [HKM2.out]; exact zero_rd _ _, below_row HBW.out (by rw [HBB.out]; omega) _⟩
        have hM := byP_all HRB.out hcl2
        rw [hM] at hu' hrw2 ⊢
        have hnt : (-1 : Int) ∉ turnL l r := turn_pos
        rw [decide_eq_false hnt]
        have hRl : (turnL l r).length = R := by rw [HR'.out]; simp [turnL]
        obtain ⟨M, hMM⟩ : ∃ M, M = turnL l r := ⟨_, rfl⟩
        rw [← hMM] at hu' hrw2 hRl HRS
        subst hu'
        have HROW := Lib.hid hrw2
        have hlen := rowsTo_len m (l := l) (j := j) (by omega)
        obtain ⟨vs, hown1, hvs⟩ := HKA.out.o1
        have ho2 := HKA.out.o2
        obtain ⟨x1a, x1c, hu1⟩ := own_form hown1
        obtain ⟨x2a, x2c, hu2⟩ := own_form ho2
        rw [hlen.1] at hu1 hown1
        rw [hlen.2] at hu2
        subst hu1 hu2
        have HOWN := Lib.hid hown1; have HVS := Lib.hid hvs; have HLEN := Lib.hid hlen
        have HHA := Lib.hid HIA.out.size
        have hx1 := (HKA.out.at HHA.out).1
        have HKB := Lib.hid (HKA.out.below ((Below.refl _ wa).alloc (Nat.le_refl _) (.cells #[.slice (some ⟨g2, 0, none⟩) M.length M.length] 24)))
        have HOW := Lib.hid (own_keep (w' := wa.alloc (.cells #[.slice (some ⟨g2, 0, none⟩) M.length M.length] 24)) hown1 fun g hg => ((Below.refl wa.heap.size wa).alloc (Nat.le_refl _) _).block g (own_at hown1 hg).2.2)
        have HBASE := Lib.hid (show wc.heap.size ≤ (wa.alloc (.cells #[.slice (some ⟨g2, 0, none⟩) M.length M.length] 24)).heap.size by have := HKA.out.base; rw [World.size_alloc]; omega)
        have hj6 : j ≤ 65536 := by have := pl_len HP.out; omega
        have HLT2 := Lib.hid (show wr.heap.size ≤ g2 from hg2)
        have HG2 := Lib.hid (show wc.heap.size ≤ g2 from Nat.le_trans HKP.out.base hg2)
        have HML := Lib.hid (show M.length ≤ 65536 by rw [hRl, HR'.out]; exact hrl)
        have HMT := Lib.hid hMM; have HC2 := Lib.hid hcl2
        clear hM hcl2 hMM hlen hown1 hvs ho2 hg2 hrw2 hRl hba
        go_wp2_with (at_builtin; refine wpList_append_own _ rfl (.tmp 56) (.tmp 58) 23 rfl wc.heap.size 24 i0 (.slice none 0 0) 1 24 Try.underlying23 hi hz0 hz1 hz2 rfl (by decide) _ _ _ rfl HOW.out ⟨wa.heap.size, 0, none⟩ 1 1 [.slice (some ⟨g2, 0, none⟩) M.length M.length] rfl rfl (cell_one_new _ _ _) (by simp [Value.oneCell']) (by unfold maxLen; omega) (by omega) HBASE.out ?_; intro v' w' hown' hgrow _; obtain ⟨g', cap', rfl⟩ := ownsRow_succ hown'; have HO' := Lib.hid hown'; have HG' := Lib.hid hgrow; obtain ⟨⟨yx, hyx⟩, hfx⟩ := HKB.out.grown1 HHA.out hgrow; clear hown' hgrow)
        have HKD := Lib.hid (HKB.out.row HHA.out (M := M) (fun i hi => by obtain ⟨vi, h1, h2, h3⟩ := HVS.out i hi; exact ⟨vi, h1, h2.below ((Below.refl _ wa).alloc (Nat.le_refl _) _), h3⟩) (show _ from by rw [HLEN.out.1]; exact HOW.out) ((HROW.out.own HG2.out HML.out).below ((Below.refl _ wa).alloc (Nat.le_refl _) _)) (fun gq hq e => by
            have hq : g2 = gq := by simpa [Value.ownBlock] using hq
            subst hq
            have h1 := (own_at HKP.out.o2 e).2.2
            have := HLT2.out
            omega) (show _ from by rw [HLEN.out.1]; exact HO'.out) HG'.out)
        rw [← HRS.out] at HKD
        have hBd : Below w2.heap.size w2 (w'.setCell ⟨X, 257, none⟩ (.slice (some ⟨g', 0, none⟩) (j + 1) cap')) := HB6.out.trans (HKD.out.blow HLO.out)
        have HBD := Lib.hid hBd
        obtain ⟨wd, hwd⟩ : ∃ wd, wd = (w'.setCell ⟨X, 257, none⟩ (.slice (some ⟨g', 0, none⟩) (j + 1) cap')) := ⟨_, rfl⟩
        rw [← hwd] at HKD HBD ⊢
        clear hBd hwd HG' HO' HOW HOWN HVS HKB HKA HROW hyx hfx hx1
        have hx2 := (HKD.out.at HHA.out).2
        have hxd := HX2.out.below HBD.out
        obtain ⟨v3', x3', hv3'⟩ := hxd.lb
        obtain ⟨a3', c3', rfl, _, _, q3⟩ := hv3'.open
        obtain ⟨b3, o3, rfl, hb3, hc3⟩ := q3 k HKM.out
        rw [← HNN.out] at x3'
        obtain ⟨y, hy⟩ : ∃ y, y = m.lb.getD k 0 := ⟨_, rfl⟩
        rw [← hy] at hc3 HLS
        have HOI := Lib.hid (HKD.out.o2.below ((Below.refl _ wd).alloc (Nat.le_refl _) (.cells #[.int .i64 y] 3)))
        have hlen2 := (rowsTo_len m (l := l) (j := j) (by omega)).2
        have HL2 := Lib.hid hlen2
        have HKE := Lib.hid (HKD.out.below (((Below.refl _ wd).alloc (Nat.le_refl _) (.cells #[.int .i64 y] 3)).drew))
        have HBS2 := Lib.hid (show wc.heap.size ≤ (wd.alloc (.cells #[.int .i64 y] 3)).drew.heap.size by have := HKD.out.base; show _ ≤ (wd.alloc _).heap.size; rw [World.size_alloc]; omega)
        have hbw := (Below.refl wd.heap.size wd).alloc (Nat.le_refl _) (.cells #[.int .i64 y] 3)
        have hx2a := (hbw.cell (p := ⟨X, 258, none⟩) HKD.out.box.lt).trans hx2
        have hx3a := (hbw.cell (p := ⟨B, 258, none⟩) hxd.ar.lt).trans x3'
        have hx4a := (hbw.cell (p := ⟨b3, o3 + k, none⟩) hb3).trans hc3
        clear hbw
        clear hxd hv3' q3 hb3 hy hlen2
        have HCN := Lib.hid (show ∀ x ∈ l.take (j + 1), ∀ y ∈ m.nx.getD x.toNat [], y ∈ l from by
          rw [HTK.out]
          intro x hx y hy
          rcases List.mem_append.1 hx with hx | hx
          · exact HCLO.out x hx y hy
          · rw [List.mem_singleton.1 hx, show ((k : Nat) : Int).toNat = k by omega, ← HRR.out] at hy
            exact HC2.out y hy)
        go_region_law (refine step_append_lies _ rfl (.tmp 62) (.tmp 68) 24 rfl wc.heap.size 3 i3 (.int .i64 0) 1 8 Try.underlying24 hi3 hz30 hz31 hz32 rfl (by decide) (.slice x2a j x2c) j ((labsTo m l j).map (Value.int .i64)) (by simp only [List.getElem_toArray, List.getElem_cons_succ, List.getElem_cons_zero, Act.put, List.setIfInBounds_toArray, List.set_cons_succ, List.set_cons_zero, Act.eval]; rfl) (by have := HOI.out; unfold OI at this; rw [HL2.out] at this; exact this.drew) ⟨wd.heap.size, 0, none⟩ 1 1 [.int .i64 y] (by simp only [List.getElem_toArray, List.getElem_cons_succ, List.getElem_cons_zero, Act.put, List.setIfInBounds_toArray, List.set_cons_succ, List.set_cons_zero, Act.eval]; rfl) rfl (cell_one_new _ _ _) (by simp [Value.oneCell']) (by decide) (by unfold maxLen; omega) (by omega) HBS2.out (wd.heap.size + 1) (by simp) ?_; intro g5 cap5 w5 hown5 hgrow5 hat5 hlt5; obtain ⟨⟨yx5, hyx5⟩, hfx5⟩ := HKE.out.grown2 HHA.out hgrow5; have HOWN5 := Lib.hid hown5; have HGROW5 := Lib.hid hgrow5; have HAT5 := Lib.hid hat5; clear hown5 hgrow5 hat5)
        all_goals
          try simp only [List.getElem_toArray, List.getElem_cons_succ, List.getElem_cons_zero, Act.put, List.setIfInBounds_toArray, List.set_cons_succ, List.set_cons_zero]
          go_wp2_with fail
          refine ⟨⟨j + 1, .slice (some ⟨g', 0, none⟩) (j + 1) cap', .slice (some ⟨g5, 0, none⟩) (j + 1) cap5, HJ.out, rfl, ?_, HCN.out⟩, meas HJ.out⟩
          rw [HLS.out]
          refine HKE.out.lab HHA.out (by unfold OI; rw [List.length_append, HL2.out, List.map_append]; exact HOWN5.out) HGROW5.out (fun q e => ?_)
          have e : g5 = q := by simpa [Value.ownBlock] using e
          subst e
          rcases HAT5.out with h | h
          · exact .inl h
          · right
            show (wd.alloc (.cells #[.int .i64 y] 3)).heap.size ≤ g5
            rw [World.size_alloc, h]
            exact Nat.le_refl _
      · have hjl : j = L := by omega
        have htk : l.take j = l := List.take_of_length_le (by rw [← HLL.out]; omega)
        have hgood : Good m l := ⟨HP.out.1, by rw [← HNN.out]; exact HP.out.2.1, HP.out.2.2, fun x hx => HCLO.out x (by rw [htk]; exact hx)⟩
        have hkm : (⟨m.of, m.wd, rowsTo m l j, labsTo m l j, m.nm⟩ : Mc) = keepM m l := by unfold rowsTo labsTo keepM; rw [htk]
        have HE := Lib.hid (keptE_yes HK.out hgood); have HKM2 := Lib.hid (keptM_yes HK.out hgood)
        have HEQ := Lib.hid hkm
        have HHA := Lib.hid HIA.out.size
        have HNW := Lib.hid (own_keep (w' := wr) HNM.out fun q e => HKP.out.fr q (own_at HNM.out e).2.2 (fun e2 => by
          subst e2
          obtain ⟨⟨c, h1⟩, _⟩ := own_at HNM.out e
          have h2 := HK6.out.box
          rw [show wc.heap[q]? = _ from h2] at h1
          injection h1 with h1
          injection h1 with _ h1
          exact absurd h1 (by decide)))
        have HSZ := Lib.hid (mkC_size HHA.out (.int .i64 m.wd) u1 u2 u)
        have HTS := Lib.hid (own_ts HNW.out HX2.out.is.nm_sizes)
        have HIS := Lib.hid (HKP.out.is HIA.out HX2.out.is.oflt HTS.out)
        have HZR := Lib.hid (HZ2.out.below HBR.out)
        have HBW := Lib.hid (HB2.out.trans (HBR.out.mono HB2.out.size))
        have HLW := Lib.hid (show B + 1 < w2.heap.size by have := HW2.out; rw [← HBB.out] at this; omega)
        have HLO2 := Lib.hid (show B + 1 ≠ X by have := HLO.out; have := HLW.out; omega)
        have HXW := Lib.hid hXs
        clear htk hgood hkm hBr hjL hXs
        go_wp2_with (first | (refine wpList_load_box rfl 27 (.tmp 8) rfl rfl HKP.out.box Try.underlying27 rfl (by rw [HSZ.out]; exact infoD) ?_) | (refine wpList_store_dfa rfl (.tmp 4) (.tmp 72) rfl (by rfl) (by rfl) HZR.out HZS.out HSZ.out HIS.out.one ?_; simp only [Act.put]))
        refine bodyPost_ret (res_kept rfl rfl rfl ((HZR.out).row _) HSZ.out) rfl ⟨_, by rw [HE.out]; rfl, ?_, below_row HBW.out (by rw [HBB.out]; omega) _⟩
        rw [HKM2.out, ← HEQ.out]
        have hbw : B + 1 < wc.heap.size := by have := HLW.out; have := HLO.out; have := HXW.out; omega
        exact ((HKP.out.rd HIA.out HX2.out.is.oflt HNW.out HX2.out.is.nm_sizes (lo := w2.heap.size) (by have := HLO.out; have := HXW.out; omega) (Nat.le_refl _)).row HLW.out _).mono HB2.out.size
end Go.Proofs.Ytkghnjgioijgpaa.DfaW
