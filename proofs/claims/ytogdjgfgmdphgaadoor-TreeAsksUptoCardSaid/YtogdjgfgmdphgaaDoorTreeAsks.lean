/- Walk of TreeAsks. -/
import Derived.Test.YtogdjgfgmdphgaaDoorTreeParts
import Derived.Test.YtogdjgfgmdphgaaDoorRefs
import Derived.Test.YtogdjgfgmdphgaaDoorLeaves
namespace Go.Proofs.YtogdjgfgmdphgaaDoor.TreeW
set_option linter.unusedVariables false
open Go.RowKit Go.Proofs.YtogdjgfgmdphgaaDoor.TreeM
open Go.Proofs.YtogdjgfgmdphgaaDoor.RegionU (Up wpU_taken wpU_one wpU_two wpU_done wp_region_U)
/-- What the region knows of memory: the boxed node, its kids, the table, what lay. -/
def C1 (w : World) (A : Nat) (n : Nd) (v : Value) (l : List Tr) (W : World) : Prop := NodeAt W A 0 n v ∧ Lies 0 w.heap.size W v l ∧ Env W ∧ Below w.heap.size w W
theorem C1_up (w : World) (A : Nat) (n : Nd) (v : Value) (l : List Tr) : Up (C1 w A n v l) := fun W W' ⟨h1, h4, h5, h6⟩ hr => ⟨h1.below h1.lt hr, h4.under (hr.mono h6.size), h5.grow hr, h6.trans (hr.mono h6.size)⟩
theorem qc_at (ls : List Q) (k c : Nat) (hk : k < ls.length) (hc : c < 4) : (ls.flatMap qc)[k * 4 + c]? = (qc ls[k])[c]? := by
  induction ls generalizing k with
  | nil => simp at hk
  | cons q ls ih =>
    rw [List.flatMap_cons]
    cases k with
    | zero => rw [Nat.zero_mul, Nat.zero_add, List.getElem?_append_left (by simp [qc]; omega)]; rfl
    | succ k =>
      rw [List.getElem?_append_right (by simp [qc]; omega), show (k + 1) * 4 + c - (qc q).length = k * 4 + c by simp [qc]; omega, ih k (by simpa using hk)]
      rfl
/-- A row of sets, cell by cell. -/
theorem row_at {W : World} {base : Nat} {ad : Option Addr} {len cap : Nat} {ls : List Q} (h : W.ownsRow base 25 4 (.slice ad len cap) len (ls.flatMap qc)) (hl : ls.length = len) (k : Nat) (hk : k < len) :
    ∃ g q, ad = some ⟨g, 0, none⟩ ∧ len ≤ cap ∧ ls[k]? = some q ∧ W.cell? ⟨g, k * 4, none⟩ = some (.int .u64 q.a) ∧ W.cell? ⟨g, k * 4 + 1, none⟩ = some (.int .u64 q.b) ∧ W.cell? ⟨g, k * 4 + 2, none⟩ = some (.int .u64 q.c) ∧ W.cell? ⟨g, k * 4 + 3, none⟩ = some (.int .u64 q.d) := by
  have h' := h
  rcases h.2 with ⟨e, h0⟩ | ⟨g, cp, cur, e, _, _, hn, _⟩
  · omega
  · simp only [Value.slice.injEq] at e
    obtain ⟨rfl, _, rfl⟩ := e
    have hk' : k < ls.length := by omega
    refine ⟨g, ls[k], rfl, hn, List.getElem?_eq_getElem hk', ?_, ?_, ?_, ?_⟩
    · rw [World.ownsRow.cellAt h' (k * 4) (by omega)]; exact qc_at ls k 0 hk' (by decide)
    · rw [World.ownsRow.cellAt h' (k * 4 + 1) (by omega)]; exact qc_at ls k 1 hk' (by decide)
    · rw [World.ownsRow.cellAt h' (k * 4 + 2) (by omega)]; exact qc_at ls k 2 hk' (by decide)
    · rw [World.ownsRow.cellAt h' (k * 4 + 3) (by omega)]; exact qc_at ls k 3 hk' (by decide)
theorem own_drew {W : World} {base : Nat} {e : TypeId} {size : Nat} {v : Value} {n : Nat} {xs : List Value} (h : W.ownsRow base e size v n xs) : W.drew.ownsRow base e size v n xs := h
set_option maxRecDepth 100000 in
set_option maxHeartbeats 8000000 in
theorem TreeAsks_any (n : Nd) (l : List Tr) (a : Option Addr) (cap : Nat) (w : World) (he : Env w) (hbig : sizeL l + 1 ≤ 1048576) (hL : Lies 0 w.heap.size w (.slice a l.length cap) l) :
    Calls Tryd.prog 3 #[NV n (.slice a l.length cap)] w fun e w' => e = .returned (.bool true) ∧ Below w.heap.size w w' := by
  have hmx : l.length ≤ 2199023255552 := by have := length_le l; omega
  have hmy : mxL l ≤ 2199023255552 := by have := mxL_size l; omega
  obtain ⟨r, hr⟩ : ∃ r, r = right (.mk n l) := ⟨_, rfl⟩
  obtain ⟨N, hN⟩ : ∃ N : Nat, N = sizeL l + 1 := ⟨_, rfl⟩
  have hwrap : wrap64 ((sizeL l + 1 : Nat) : Int) = (N : Int) := by rw [← hN]; exact IntWalk.wrap64_in _ (by omega)
  have HRI := Lib.hid (fun W (h4 : Lies 0 w.heap.size W (.slice a l.length cap) l) (h5 : Env W) (h6 : Below w.heap.size w W) => (by
    rw [hr]; exact Right_any n l a cap W h5 (lies_now h4 h6) : Calls Tryd.prog 7 #[NV n (.slice a l.length cap)] W fun e W' => e = .returned (.bool r) ∧ Below W.heap.size W W'))
  have HRR := Lib.hid (fun W (h4 : Lies 0 w.heap.size W (.slice a l.length cap) l) (h6 : Below w.heap.size w W) => (by
    rw [hr]; exact refRight_any n l a cap W (by omega) (lies_now h4 h6) : Calls Tryd.prog 8 #[NV n (.slice a l.length cap)] W fun e W' => e = .returned (.bool r) ∧ Below W.heap.size W W'))
  have HSZ := Lib.hid (fun W (h4 : Lies 0 w.heap.size W (.slice a l.length cap) l) (h6 : Below w.heap.size w W) => (by
    rw [← hwrap]; exact Size_any n l a cap W (lies_now h4 h6) : Calls Tryd.prog 9 #[NV n (.slice a l.length cap)] W fun e W' => e = .returned (.int .i64 (N : Int)) ∧ Below W.heap.size W W'))
  have HRS := Lib.hid (fun W (h4 : Lies 0 w.heap.size W (.slice a l.length cap) l) (h6 : Below w.heap.size w W) => (by
    rw [hN]; exact refSize_any _ n l a cap W (Nat.le_refl _) (by omega) (lies_now h4 h6) : Calls Tryd.prog 10 #[NV n (.slice a l.length cap)] W fun e W' => e = .returned (.int .i64 (N : Int)) ∧ Below W.heap.size W W'))
  have HCO := Lib.hid (fun W (h4 : Lies 0 w.heap.size W (.slice a l.length cap) l) (h6 : Below w.heap.size w W) => Copy_any n l a cap W hmx hmy (lies_now h4 h6))
  have HEQ := Lib.hid (fun b1 k1 W (h4 : Lies 0 w.heap.size W (.slice a l.length cap) l) (h6 : Below w.heap.size w W) (h : Lies 0 W.heap.size W (.slice b1 l.length k1) l) => (by
    have := RSame_any n l b1 k1 n l a cap W h (lies_now h4 h6)
    rw [eqT_self] at this; exact this : Calls Tryd.prog 11 #[NV n (.slice b1 l.length k1), NV n (.slice a l.length cap)] W fun e w' => e = .returned (.bool true) ∧ Below W.heap.size W w'))
  have HLE := Lib.hid (fun W (h4 : Lies 0 w.heap.size W (.slice a l.length cap) l) (h6 : Below w.heap.size w W) => Leaves_any n l a cap W hbig (lies_now h4 h6))
  have HRL := Lib.hid (fun W (h4 : Lies 0 w.heap.size W (.slice a l.length cap) l) (h6 : Below w.heap.size w W) => refLeaves_any n l a cap W hbig (lies_now h4 h6))
  have hll := leaves_len (.mk n l)
  rw [size_mk] at hll
  obtain ⟨len, hlen⟩ : ∃ len, (leaves (.mk n l)).length = len := ⟨_, rfl⟩
  have hlm : len ≤ 1048576 := by omega
  have HLEN := Lib.hid hlen
  have HK := Lib.hid (fun W h => knows_any W h)
  have HE := Lib.hid he; have HL := Lib.hid hL
  clear he hL hmx hmy hN hr hwrap hll hlen
  generalize leaves (.mk n l) = ls at *
  obtain ⟨A, hA⟩ : ∃ A, A = w.heap.size := ⟨_, rfl⟩
  have HA := Lib.hid hA; clear hA
  go_enter Tryd.func3, Tryd.ntmps3
  go_wp2_with fail
  have hb0 : Below w.heap.size w (w.alloc (.cells #[.int .i64 n.K, .int .u64 n.a, .int .u64 n.b, .int .u64 n.c, .int .u64 n.d, .slice a l.length cap, .int .i64 n.L, .int .i64 n.H] 28)) := (Below.refl _ _).alloc (Nat.le_refl _) _
  have hN := NodeAt.new w n (.slice a l.length cap) 28
  generalize (w.alloc (.cells #[.int .i64 n.K, .int .u64 n.a, .int .u64 n.b, .int .u64 n.c, .int .u64 n.d, .slice a l.length cap, .int .i64 n.L, .int .i64 n.H] 28)) = W0 at *
  rw [← HA.out] at hN ⊢
  have HU := Lib.hid (C1_up w A n (.slice a l.length cap) l)
  have hC : C1 w A n (.slice a l.length cap) l W0.drew := HU.out W0 _ ⟨hN, HL.out.under hb0, HE.out.grow hb0, hb0⟩ (Below.refl _ _).drew
  clear hb0 hN
  refine wp_region_U (C := C1 w A n (.slice a l.length cap) l) (by kernel_rfl) HU.out hC ?_
  clear hC
  refine wpU_taken (i := 0) rfl (by kernel_rfl) (by kernel_rfl) (by kernel_rfl) HU.out ?_
  apply Exists.intro
  refine ⟨Or.inl ⟨rfl, fun W hW => ?hy⟩, ?_⟩
  case hy =>
    obtain ⟨h1, h4, h5, h6⟩ := hW
    have x0 := h1.c0; have x1 := h1.c1; have x2 := h1.c2; have x3 := h1.c3; have x4 := h1.c4; have x5 := h1.c5; have x6 := h1.c6; have x7 := h1.c7
    go_simp
    exact RegionU.does_value rfl
  simp only [Act.put, List.setIfInBounds_toArray, List.set]
  refine wpU_taken (i := 2) rfl (by kernel_rfl) (by kernel_rfl) (by kernel_rfl) HU.out ?_
  apply Exists.intro
  refine ⟨Or.inl ⟨rfl, fun W hW => ?hy⟩, ?_⟩
  case hy =>
    obtain ⟨h1, h4, h5, h6⟩ := hW
    have x0 := h1.c0; have x1 := h1.c1; have x2 := h1.c2; have x3 := h1.c3; have x4 := h1.c4; have x5 := h1.c5; have x6 := h1.c6; have x7 := h1.c7
    go_simp
    exact RegionU.does_value rfl
  simp only [Act.put, List.setIfInBounds_toArray, List.set]
  refine wpU_taken (i := 1) rfl (by kernel_rfl) (by kernel_rfl) (by kernel_rfl) HU.out ?_
  apply Exists.intro
  refine ⟨Or.inl ⟨rfl, fun W hW => ?hy⟩, ?_⟩
  case hy =>
    obtain ⟨h1, h4, h5, h6⟩ := hW
    go_simp
    exact RegionU.does_call (HRI.out W h4 h5 h6)
  simp only [Act.put, List.setIfInBounds_toArray, List.set]
  refine wpU_taken (i := 3) rfl (by kernel_rfl) (by kernel_rfl) (by kernel_rfl) HU.out ?_
  apply Exists.intro
  refine ⟨Or.inl ⟨rfl, fun W hW => ?hy⟩, ?_⟩
  case hy =>
    obtain ⟨h1, h4, h5, h6⟩ := hW
    go_simp
    exact RegionU.does_call (HRR.out W h4 h6)
  simp only [Act.put, List.setIfInBounds_toArray, List.set]
  refine wpU_taken (i := 4) rfl (by kernel_rfl) (by kernel_rfl) (by kernel_rfl) HU.out ?_
  apply Exists.intro
  refine ⟨Or.inl ⟨rfl, fun W hW => ?hy⟩, ?_⟩
  case hy =>
    obtain ⟨h1, h4, h5, h6⟩ := hW
    go_simp
    try simp only [beq_self_eq_true, bne_self_eq_false, Bool.not_true, Bool.not_false, Bool.or_false, Bool.and_true]
    exact RegionU.does_value rfl
  simp only [Act.put, List.setIfInBounds_toArray, List.set]
  refine wpU_taken (i := 5) rfl (by kernel_rfl) (by kernel_rfl) (by kernel_rfl) HU.out ?_
  apply Exists.intro
  refine ⟨Or.inl ⟨rfl, fun W hW => ?hy⟩, ?_⟩
  case hy =>
    obtain ⟨h1, h4, h5, h6⟩ := hW
    go_simp
    exact RegionU.does_value rfl
  simp only [Act.put, List.setIfInBounds_toArray, List.set]
  refine wpU_taken (i := 6) rfl (by kernel_rfl) (by kernel_rfl) (by kernel_rfl) HU.out ?_
  apply Exists.intro
  refine ⟨Or.inl ⟨rfl, fun W hW => ?hy⟩, ?_⟩
  case hy =>
    obtain ⟨h1, h4, h5, h6⟩ := hW
    have x0 := h1.c0; have x1 := h1.c1; have x2 := h1.c2; have x3 := h1.c3; have x4 := h1.c4; have x5 := h1.c5; have x6 := h1.c6; have x7 := h1.c7
    go_simp
    exact RegionU.does_value rfl
  simp only [Act.put, List.setIfInBounds_toArray, List.set]
  refine wpU_taken (i := 8) rfl (by kernel_rfl) (by kernel_rfl) (by kernel_rfl) HU.out ?_
  apply Exists.intro
  refine ⟨Or.inl ⟨rfl, fun W hW => ?hy⟩, ?_⟩
  case hy =>
    obtain ⟨h1, h4, h5, h6⟩ := hW
    have x0 := h1.c0; have x1 := h1.c1; have x2 := h1.c2; have x3 := h1.c3; have x4 := h1.c4; have x5 := h1.c5; have x6 := h1.c6; have x7 := h1.c7
    go_simp
    exact RegionU.does_value rfl
  simp only [Act.put, List.setIfInBounds_toArray, List.set]
  refine wpU_taken (i := 7) rfl (by kernel_rfl) (by kernel_rfl) (by kernel_rfl) HU.out ?_
  apply Exists.intro
  refine ⟨Or.inl ⟨rfl, fun W hW => ?hy⟩, ?_⟩
  case hy =>
    obtain ⟨h1, h4, h5, h6⟩ := hW
    go_simp
    exact RegionU.does_call (HSZ.out W h4 h6)
  simp only [Act.put, List.setIfInBounds_toArray, List.set]
  refine wpU_taken (i := 9) rfl (by kernel_rfl) (by kernel_rfl) (by kernel_rfl) HU.out ?_
  apply Exists.intro
  refine ⟨Or.inl ⟨rfl, fun W hW => ?hy⟩, ?_⟩
  case hy =>
    obtain ⟨h1, h4, h5, h6⟩ := hW
    go_simp
    exact RegionU.does_call (HRS.out W h4 h6)
  simp only [Act.put, List.setIfInBounds_toArray, List.set]
  refine wpU_taken (i := 10) rfl (by kernel_rfl) (by kernel_rfl) (by kernel_rfl) HU.out ?_
  apply Exists.intro
  refine ⟨Or.inl ⟨rfl, fun W hW => ?hy⟩, ?_⟩
  case hy =>
    obtain ⟨h1, h4, h5, h6⟩ := hW
    go_simp
    try simp only [beq_self_eq_true, bne_self_eq_false, Bool.not_true, Bool.not_false, Bool.or_false, Bool.and_true]
    exact RegionU.does_value rfl
  simp only [Act.put, List.setIfInBounds_toArray, List.set]
  refine wpU_taken (i := 11) rfl (by kernel_rfl) (by kernel_rfl) (by kernel_rfl) HU.out ?_
  apply Exists.intro
  refine ⟨Or.inl ⟨rfl, fun W hW => ?hy⟩, ?_⟩
  case hy =>
    obtain ⟨h1, h4, h5, h6⟩ := hW
    go_simp
    exact RegionU.does_value rfl
  simp only [Act.put, List.setIfInBounds_toArray, List.set]
  refine wpU_taken (i := 12) rfl (by kernel_rfl) (by kernel_rfl) (by kernel_rfl) HU.out ?_
  apply Exists.intro
  refine ⟨Or.inl ⟨rfl, fun W hW => ?hy⟩, ?_⟩
  case hy =>
    obtain ⟨h1, h4, h5, h6⟩ := hW
    go_simp
    exact RegionU.does_value rfl
  simp only [Act.put, List.setIfInBounds_toArray, List.set]
  refine wpU_taken (i := 13) rfl (by kernel_rfl) (by kernel_rfl) (by kernel_rfl) HU.out ?_
  apply Exists.intro
  refine ⟨Or.inl ⟨rfl, fun W hW => ?hy⟩, ?_⟩
  case hy =>
    obtain ⟨h1, h4, h5, h6⟩ := hW
    have x0 := h1.c0; have x1 := h1.c1; have x2 := h1.c2; have x3 := h1.c3; have x4 := h1.c4; have x5 := h1.c5; have x6 := h1.c6; have x7 := h1.c7
    go_simp
    exact RegionU.does_value rfl
  simp only [Act.put, List.setIfInBounds_toArray, List.set]
  refine wpU_taken (i := 15) rfl (by kernel_rfl) (by kernel_rfl) (by kernel_rfl) HU.out ?_
  apply Exists.intro
  refine ⟨Or.inl ⟨rfl, fun W hW => ?hy⟩, ?_⟩
  case hy =>
    obtain ⟨h1, h4, h5, h6⟩ := hW
    have x0 := h1.c0; have x1 := h1.c1; have x2 := h1.c2; have x3 := h1.c3; have x4 := h1.c4; have x5 := h1.c5; have x6 := h1.c6; have x7 := h1.c7
    go_simp
    exact RegionU.does_value rfl
  simp only [Act.put, List.setIfInBounds_toArray, List.set]
  refine wpU_one (i := 14) (by kernel_rfl) rfl rfl (IsT n l) (isT_up n l) (fun W hW => ?hy) ?_
  case hy =>
    obtain ⟨h1, h4, h5, h6⟩ := hW
    go_simp
    exact does_tree (HCO.out W h4 h6)
  intro u
  simp only [Act.put, List.setIfInBounds_toArray, List.set]
  refine wpU_taken (i := 16) rfl (by kernel_rfl) (by kernel_rfl) (by kernel_rfl) (HU.out.and (isT_up _ _ _)) ?_
  apply Exists.intro
  refine ⟨Or.inl ⟨rfl, fun W hW => ?hy⟩, ?_⟩
  case hy =>
    obtain ⟨⟨h1, h4, h5, h6⟩, b1, k1, hu1, hl1⟩ := hW
    go_simp
    exact RegionU.does_call (HEQ.out b1 k1 W h4 h6 hl1)
  simp only [Act.put, List.setIfInBounds_toArray, List.set]
  refine RegionU.wpU_mono _ _ _ _ _ (fun W h => h.1) ?_
  refine wpU_taken (i := 17) rfl (by kernel_rfl) (by kernel_rfl) (by kernel_rfl) HU.out ?_
  apply Exists.intro
  refine ⟨Or.inl ⟨rfl, fun W hW => ?hy⟩, ?_⟩
  case hy =>
    obtain ⟨h1, h4, h5, h6⟩ := hW
    go_simp
    try simp only [beq_self_eq_true, bne_self_eq_false, Bool.not_true, Bool.not_false, Bool.or_false, Bool.and_true]
    exact RegionU.does_value rfl
  simp only [Act.put, List.setIfInBounds_toArray, List.set]
  refine wpU_taken (i := 18) rfl (by kernel_rfl) (by kernel_rfl) (by kernel_rfl) HU.out ?_
  apply Exists.intro
  refine ⟨Or.inl ⟨rfl, fun W hW => ?hy⟩, ?_⟩
  case hy =>
    obtain ⟨h1, h4, h5, h6⟩ := hW
    go_simp
    exact RegionU.does_value rfl
  simp only [Act.put, List.setIfInBounds_toArray, List.set]
  refine wpU_done (by kernel_rfl) ?_
  clear W0
  intro W0 hW
  have HC0 := Lib.hid hW
  obtain ⟨h1, h4, h5, h6⟩ := hW
  have HH := Lib.hid h4; have HB := Lib.hid h6
  have x0 := h1.c0; have x1 := h1.c1; have x2 := h1.c2; have x3 := h1.c3; have x4 := h1.c4; have x5 := h1.c5; have x6 := h1.c6; have x7 := h1.c7
  clear h1 h4 h5 h6
  go_wp2_with fail
  refine (HLE.out W0 HH.out HB.out).mono ?_
  rintro e W1 ⟨v3, rfl, ho3, hb1⟩
  have hC1 := HU.out W0 W1 HC0.out hb1
  have HC1 := Lib.hid hC1; have HO3 := Lib.hid ho3
  obtain ⟨h1, h4, h5, h6⟩ := hC1
  have HH := Lib.hid h4; have HB := Lib.hid h6
  clear x0 x1 x2 x3 x4 x5 x6 x7
  have x0 := h1.c0; have x1 := h1.c1; have x2 := h1.c2; have x3 := h1.c3; have x4 := h1.c4; have x5 := h1.c5; have x6 := h1.c6; have x7 := h1.c7
  clear h1 h4 h5 h6 ho3 hb1
  go_wp2_with fail
  refine (HRL.out W1 HH.out HB.out).mono ?_
  rintro e W2 ⟨v4, rfl, ho4, hb2⟩
  have hC2 := HU.out W1 W2 HC1.out hb2
  have ho3 := own_under HO3.out hb2
  rw [HLEN.out] at ho3 ho4
  obtain ⟨ad3, cp3, rfl⟩ := own_form ho3
  obtain ⟨ad4, cp4, rfl⟩ := own_form ho4
  have HO3 := Lib.hid ho3; have HO4 := Lib.hid ho4; have HEN := Lib.hid hC2.2.2.1; have HB := Lib.hid hC2.2.2.2
  clear x0 x1 x2 x3 x4 x5 x6 x7 ho3 ho4 hC2 hb2
  go_wp2_with fail
  have hq := SetW.eqSet
  go_loopw [5] (fun i wr => ∃ k : Nat, k ≤ len ∧ i = .int .i64 k ∧ (wr.ownsRow W0.heap.size 25 4 (.slice ad3 len cp3) len (ls.flatMap qc) ∧ wr.ownsRow W1.heap.size 25 4 (.slice ad4 len cp4) len (ls.flatMap qc)) ∧ Env wr ∧ Below w.heap.size w wr) (fun i _ => len - (intOf i).toNat)
  case atStart => exact ⟨0, Nat.zero_le _, rfl, ⟨HO3.out, HO4.out⟩, HEN.out, HB.out⟩
  case round =>
    obtain ⟨k, hk, rfl, ⟨ho3, ho4⟩, hen, hb⟩ := hrel
    clear HO3 HO4 HEN HB
    by_cases hlt : k < len
    · obtain ⟨g3, q, rfl, hc3, hq3, x0, x1, x2, x3⟩ := row_at ho3 HLEN.out k hlt
      obtain ⟨g4, q', rfl, hc4, hq4, y0, y1, y2, y3⟩ := row_at ho4 HLEN.out k hlt
      rw [hq3] at hq4
      obtain rfl : q = q' := Option.some.inj hq4
      have HO3 := Lib.hid ho3; have HO4 := Lib.hid ho4; have HEN := Lib.hid hen; have HB := Lib.hid hb
      clear ho3 ho4 hen hb hq3 hq4
      go_wp2_with fail
      go_region
      go_wp2_with fail
      exact ⟨⟨k + 1, by omega, by go_num, ⟨own_drew HO3.out, own_drew HO4.out⟩, HEN.out.drew, HB.out.drew⟩, by simp [intOf]; omega⟩
    · have HEN := Lib.hid hen; have HB := Lib.hid hb
      clear ho3 ho4 hen hb
      go_wp2_with fail
      refine (HK.out _ HEN.out).mono ?_
      rintro e w1 ⟨rfl, hb1⟩
      have hb2 := HB.out.trans (hb1.mono HB.out.size)
      go_wp2_with fail
      go_ret
      exact ⟨rfl, hb2⟩
end Go.Proofs.YtogdjgfgmdphgaaDoor.TreeW
