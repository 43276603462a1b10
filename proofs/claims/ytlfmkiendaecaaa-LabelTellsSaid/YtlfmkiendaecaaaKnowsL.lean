/- Walk of what must come: the chapter's example. -/
import Derived.Test.YtlfmkiendaecaaaLabelUsed
import Derived.Lib.SlBytesConst
namespace Go.Proofs.Ytlfmkiendaecaaa.DfaW
set_option linter.unusedVariables false
set_option linter.unusedSimpArgs false
open Go.RowKit Go.Maps Go.Proofs.Ytlfmkiendaecaaa.PartM Go.Proofs.Ytlfmkiendaecaaa.PartW Go.Proofs.Ytlfmkiendaecaaa.TxM
def txA : ByteArray := ⟨#[97]⟩
def txB : ByteArray := ⟨#[98]⟩
def txC : ByteArray := ⟨#[99]⟩
def exM : Mc := ⟨fun _ => 0, 1, [[1], [2], [2]], [0, 2, 1], [txB, txA, txC]⟩
def exN : Mc := ⟨fun _ => 0, 1, [[1], [2], [2]], [0, 1, 2], [txA, txB]⟩
theorem ex_cls : sameA (fun _ => 0) (PartM.nm (byKey fun (_ : Nat) => 0)) = true ∧ rk (byKey fun (_ : Nat) => 0) 256 = 1 := by decide +kernel
theorem ex_names : txA ≠ txB ∧ txB ≠ txC ∧ txA ≠ txC ∧ nameOk txA = true ∧ nameOk txB = true ∧ nameOk txC = true ∧ ltT txA txB = true := by decide +kernel
theorem ex_ok : Ok exM := by
  refine ⟨ex_cls.1, ?_, names_nodup.2 ⟨by decide, ?_, ?_⟩, ⟨by decide, by decide, fun i hi => ?_⟩, ⟨rfl, fun j hj => ?_⟩⟩
  · show (1 : Int) = (rk (byKey fun (_ : Nat) => 0) 256 : Nat)
    rw [ex_cls.2]; rfl
  · intro x hx
    have := ex_names
    simp only [exM, List.mem_cons, List.not_mem_nil, or_false] at hx
    rcases hx with rfl | rfl | rfl
    · exact this.2.2.2.2.1
    · exact this.2.2.2.1
    · exact this.2.2.2.2.2.1
  · have := ex_names
    simp only [exM, List.nodup_cons, List.mem_cons, List.not_mem_nil, or_false, not_or, not_false_eq_true, List.nodup_nil, and_true]
    exact ⟨⟨fun e => this.1 e.symm, this.2.1⟩, this.2.2.1⟩
  · have : i < 3 := hi
    rcases i with _ | _ | _ | i
    · exact ⟨by decide, by decide⟩
    · exact ⟨by decide, by decide⟩
    · exact ⟨by decide, by decide⟩
    · omega
  · have : j < 3 := hj
    have key : ∀ (x : Int), 0 ≤ x → x < 3 → RowOk (exM.lb.length : Nat) exM.wd [x] := fun x h1 h2 => ⟨rfl, fun i hi => by
      obtain rfl : i = 0 := by simpa using hi
      exact ⟨h1, h2⟩⟩
    rcases j with _ | _ | _ | j
    · exact key 1 (by decide) (by decide)
    · exact key 2 (by decide) (by decide)
    · exact key 2 (by decide) (by decide)
    · omega
theorem ex_used : usedV exM = [txA, txB] := by
  rw [usedV_yes ex_ok, show usedL exM = [txA, txB] from rfl]
  refine risen_self ?_
  unfold Rising
  have := ex_names.2.2.2.2.2.2
  simp [this]
theorem ex_norm : namesE exM (usedV exM) = 0 ∧ namesM exM (usedV exM) = exN := by
  have h := norm_yes ex_ok
  refine ⟨h.1, h.2.trans ?_⟩
  rw [ex_used]
  have e : [nameF exM [txA, txB] 0, nameF exM [txA, txB] 2, nameF exM [txA, txB] 1] = [0, 1, 2] := by decide +kernel
  show Mc.mk (fun _ => 0) 1 [[1], [2], [2]] [nameF exM [txA, txB] 0, nameF exM [txA, txB] 2, nameF exM [txA, txB] 1] [txA, txB] = exN
  rw [e]; rfl
theorem exN_ok : Ok exN := by
  have := named_ok ex_ok (norm_names ex_ok) (norm_all ex_ok)
  rw [← (norm_yes ex_ok).2, ex_norm.2] at this; exact this
theorem ex_name : nameV exN [122] = txA := by rw [nameV_yes exN_ok]; rfl
/-- New slices, where they lie. -/
theorem is_new (w : World) (l : List Int) (t : TypeId) (b : Nat) (hb : b = w.heap.size) (hl : l.length ≤ maxLen) : IS (w.alloc (.cells (l.map (Value.int .i64)).toArray t)).heap.size (w.alloc (.cells (l.map (Value.int .i64)).toArray t)) (.slice (some ⟨b, 0, none⟩) l.length l.length) l := by
  subst hb
  refine ⟨_, l.length, by simp, by simp, hl, fun i hi => ⟨w.heap.size, 0, rfl, by simp, ?_⟩⟩
  rw [World.cell?_alloc_new, Nat.zero_add]; simp
theorem ts_new (w : World) (l : List ByteArray) (t : TypeId) (b : Nat) (hb : b = w.heap.size) (hl : l.length ≤ maxLen) (hz : Szs l) : TS (w.alloc (.cells (l.map Value.string).toArray t)).heap.size (w.alloc (.cells (l.map Value.string).toArray t)) (.slice (some ⟨b, 0, none⟩) l.length l.length) l := by
  subst hb
  refine ⟨⟨_, l.length, by simp, by simp, hl, fun i hi => ⟨w.heap.size, 0, rfl, by simp, ?_⟩⟩, hz.at⟩
  rw [World.cell?_alloc_new, Nat.zero_add]; simp
theorem rs_new3 (w : World) (u1 u2 u3 : Value) (l1 l2 l3 : List Int) (t : TypeId) (b : Nat) (hb : b = w.heap.size) (h1 : IS w.heap.size w u1 l1) (h2 : IS w.heap.size w u2 l2) (h3 : IS w.heap.size w u3 l3) :
    RS (w.alloc (.cells #[u1, u2, u3] t)).heap.size (w.alloc (.cells #[u1, u2, u3] t)) (.slice (some ⟨b, 0, none⟩) 3 3) [l1, l2, l3] := by
  subst hb
  have hb : Below w.heap.size w (w.alloc (.cells #[u1, u2, u3] t)) := (Below.refl _ _).alloc (Nat.le_refl _) _
  refine ⟨[u1, u2, u3], ⟨_, 3, rfl, Nat.le_refl _, by unfold maxLen; omega, fun i hi => ⟨w.heap.size, 0, rfl, by simp, ?_⟩⟩, rfl, fun i hi => ?_⟩
  · rw [World.cell?_alloc_new, Nat.zero_add]; simp
  · have : i = 0 ∨ i = 1 ∨ i = 2 := by simp at hi; omega
    rcases this with rfl | rfl | rfl
    · exact ⟨u1, rfl, (h1.below hb).up hb.size⟩
    · exact ⟨u2, rfl, (h2.below hb).up hb.size⟩
    · exact ⟨u3, rfl, (h3.below hb).up hb.size⟩
theorem IS.nx {w w' : World} {v : Value} {l : List Int} (h : IS w.heap.size w v l) (hb : Below w.heap.size w w') : IS w'.heap.size w' v l := (h.below hb).up hb.size
theorem RS.nx {w w' : World} {v : Value} {l : List (List Int)} (h : RS w.heap.size w v l) (hb : Below w.heap.size w w') : RS w'.heap.size w' v l := (h.below hb).up hb.size
abbrev slN (b n : Nat) : Value := .slice (some ⟨b, 0, none⟩) n n
/-- The six blocks of it. -/
def exW (w : World) : World := (((((w.alloc (.cells #[.int .i64 1] 3)).alloc (.cells #[.int .i64 2] 3)).alloc (.cells #[.int .i64 2] 3)).alloc (.cells #[slN w.heap.size 1, slN (w.heap.size + 1) 1, slN (w.heap.size + 1 + 1) 1] 24)).alloc (.cells #[.int .i64 0, .int .i64 2, .int .i64 1] 3)).alloc (.cells #[.string txB, .string txA, .string txC] 9)
def exC (w : World) : Array Value := mkC zA (.int .i64 1) (slN (w.heap.size + 1 + 1 + 1) 3) (slN (w.heap.size + 1 + 1 + 1 + 1) 3) (slN (w.heap.size + 1 + 1 + 1 + 1 + 1) 3)
theorem ex_build (w : World) : (((Try.zeroCells27.setIfInBounds 256 (.int .i64 1)).setIfInBounds 257 (slN (w.heap.size + 1 + 1 + 1) 3)).setIfInBounds 258 (slN (w.heap.size + 1 + 1 + 1 + 1) 3)).setIfInBounds 259 (slN (w.heap.size + 1 + 1 + 1 + 1 + 1) 3) = exC w := by
  have hz := zA_is.size
  rw [zc, (set_hi hz _ _ _ _ _).1, (set_hi hz _ _ _ _ _).2.1, (set_hi hz _ _ _ _ _).2.2.1, (set_hi hz _ _ _ _ _).2.2.2]
  rfl
theorem al (w : World) (o : Obj) : Below w.heap.size w (w.alloc o) := (Below.refl _ _).alloc (Nat.le_refl _) _
theorem exW_below (w : World) : Below w.heap.size w (exW w) := by
  refine ((((((Below.refl _ w).alloc (Nat.le_refl _) _).alloc ?_ _).alloc ?_ _).alloc ?_ _).alloc ?_ _).alloc ?_ _
  all_goals simp only [World.size_alloc]
  all_goals omega
theorem ex_is (w : World) : IsM (exW w).heap.size (exW w) (exC w) exM := by
  have h1 := is_new w [1] 3 w.heap.size rfl (by decide)
  have h2 := is_new (w.alloc (.cells #[.int .i64 1] 3)) [2] 3 (w.heap.size + 1) (by simp) (by decide)
  have h3 := is_new ((w.alloc (.cells #[.int .i64 1] 3)).alloc (.cells #[.int .i64 2] 3)) [2] 3 (w.heap.size + 1 + 1) (by simp) (by decide)
  have r := rs_new3 _ _ _ _ _ _ _ 24 (w.heap.size + 1 + 1 + 1) (by simp) ((h1.nx (al _ _)).nx (al _ _)) (h2.nx (al _ _)) h3
  have h5 := is_new (l := [0, 2, 1]) (t := 3) (b := w.heap.size + 1 + 1 + 1 + 1) (hb := by simp) (hl := by decide) (w := (((w.alloc (.cells #[.int .i64 1] 3)).alloc (.cells #[.int .i64 2] 3)).alloc (.cells #[.int .i64 2] 3)).alloc (.cells #[slN w.heap.size 1, slN (w.heap.size + 1) 1, slN (w.heap.size + 1 + 1) 1] 24))
  have h6 := ts_new ((((w.alloc (.cells #[.int .i64 1] 3)).alloc (.cells #[.int .i64 2] 3)).alloc (.cells #[.int .i64 2] 3)).alloc (.cells #[slN w.heap.size 1, slN (w.heap.size + 1) 1, slN (w.heap.size + 1 + 1) 1] 24) |>.alloc (.cells #[.int .i64 0, .int .i64 2, .int .i64 1] 3)) [txB, txA, txC] 9 (w.heap.size + 1 + 1 + 1 + 1 + 1) (by simp) (by decide) (fun x hx => by
    simp only [List.mem_cons, List.not_mem_nil, or_false] at hx
    rcases hx with rfl | rfl | rfl <;> decide)
  exact mkC_is (m := exM) zA_is (fun i _ => by show (0 : Nat) < 256; decide) ((r.nx (al _ _)).nx (al _ _)) (h5.nx (al _ _)) h6
theorem zA_one : zA.all (·.oneCell') = true := zA_is.one
set_option maxRecDepth 100000 in
set_option maxHeartbeats 4000000 in
theorem knows_of (HNO : NormC 16) : KnowsC := fun w => by
  have HD := Lib.hid (ex_build w)
  have HS := Lib.hid (show (exC w).size = 260 from mkC_size zA_is.size _ _ _ _)
  have HO := Lib.hid (show (exC w).all (·.oneCell') = true from oneAll zA_one rfl rfl rfl rfl)
  have HZS := Lib.hid zc_size
  have HSX := Lib.hid (show (exW w).heap.size = w.heap.size + 1 + 1 + 1 + 1 + 1 + 1 from by unfold exW; simp only [World.size_alloc])
  have HXI := Lib.hid (ex_is w)
  have HXB := Lib.hid (exW_below w)
  have HAR : Hid (Ar ((exW w).alloc (.cells Try.zeroCells27 27)) (w.heap.size + 1 + 1 + 1 + 1 + 1 + 1) Try.zeroCells27 27) := Lib.hid (by rw [← HSX.out]; exact Ar.new _ _ _)
  go_enter Try.func12, Try.ntmps12
  have hX0 : Bx (((exW w).alloc (.cells Try.zeroCells27 27)).setRow (w.heap.size + 1 + 1 + 1 + 1 + 1 + 1) (exC w)) (w.heap.size + 1 + 1 + 1 + 1 + 1 + 1) (exC w) exM := by rw [← HSX.out]; exact bx_store HXI.out
  have HX0 := Lib.hid hX0
  have HB0 := Lib.hid (show Below w.heap.size w (((exW w).alloc (.cells Try.zeroCells27 27)).setRow (w.heap.size + 1 + 1 + 1 + 1 + 1 + 1) (exC w)) from by
    rw [← HSX.out]; exact HXB.out.trans ((ist_below _ _).mono HXB.out.size))
  clear hX0
  go_wp2_with (first | (refine wpList_store_dfa rfl (.tmp 1) (.tmp 10) rfl rfl rfl HAR.out HZS.out (by rw [HD.out]; exact HS.out) (by rw [HD.out]; exact HO.out) ?_; rw [HD.out]; simp only [Act.put]) | (refine wpList_load_dfa rfl (.tmp 1) rfl rfl HX0.out ?_))
  refine (HNO _ (HX0.out.is.rxb (Nat.le_refl _) (Below.refl _ _)) (fun k hk => hk.2)).mono ?_
  rintro e w1 ⟨D, he, hD, hb1⟩
  rw [ex_norm.1] at he
  rw [ex_norm.2] at hD
  subst he
  have HB1 := Lib.hid (HB0.out.trans (hb1.mono HB0.out.size))
  have HDS := Lib.hid hD.is.size; have HDO := Lib.hid hD.is.one
  have hN := bx_store hD.is
  have HB2 := Lib.hid (HB1.out.trans ((ist_below w1 D).mono HB1.out.size))
  have HN := Lib.hid hN
  obtain ⟨a1, a2, a3, c1, c2, c3, k1, k2, k3⟩ := hD.is.slices
  have y2 := hN.lbv k2
  have y3 := hN.nmv k3
  obtain ⟨b3, o3, rfl, _, hc3⟩ := y3.2.cell (i := 0) (by decide)
  obtain ⟨b2, o2, rfl, _, hc2⟩ := y2.2.cell (i := 2) (by decide)
  rw [show exN.nm.getD 0 ByteArray.empty = txA from rfl, Nat.add_zero] at hc3
  rw [show exN.lb.getD 2 0 = 2 from rfl] at hc2
  have d2 := y2.1; have d3 := y3.1
  rw [show exN.lb.length = 3 from rfl] at d2
  rw [show exN.nm.length = 2 from rfl] at d3
  have kc := fun (w : World) (C : Array Value) (n c : Nat) => Lib.run_convert_bytes_const (P := Try.prog) w 43 5 C n c Try.underlying43 Try.underlying5
  have hs2 : ((w1.alloc (.cells Try.zeroCells27 27)).setRow w1.heap.size D).heap.size = w1.heap.size + 1 := by rw [size_row, World.size_alloc]
  have kc2 := kc ((w1.alloc (.cells Try.zeroCells27 27)).setRow w1.heap.size D) #[.int .u8 122] 1 1
  rw [hs2] at kc2
  have HS2 := Lib.hid hs2
  clear kc hs2
  have hta : (txA.toList == [97]) = true := by decide +kernel
  have HTA := Lib.hid hta
  clear hb1 hD hN y2 y3 k1 k2 k3 HX0 HB0 HAR HXI HXB HSX HD HS HO HB1
  go_wp2_with (first | (refine wpList_store_dfa rfl (.tmp 2) (.tmp 14) rfl rfl rfl (Ar.new _ _ _) HZS.out HDS.out HDO.out ?_; simp only [Act.put]) | (refine wpList_load_dfa_g rfl (.tmp 2) rfl rfl HN.out ?_))
  generalize ((w1.alloc (.cells Try.zeroCells27 27)).setRow w1.heap.size D) = W2 at *
  have hbs : ∀ fr, BS (W2.alloc (.cells #[.int .u8 122] 5 fr)).heap.size (W2.alloc (.cells #[.int .u8 122] 5 fr)) (.slice (some ⟨w1.heap.size + 1, 0, none⟩) 1 1) [122] := fun fr => by
    have := bs_new W2 [122] 5 fr (by decide) (by decide)
    rw [HS2.out] at this; exact this
  refine (Name_any' (l := [122]) _ (HN.out.alloc _).is (hbs _)).mono ?_
  rintro e w5 ⟨rfl, hb⟩
  rw [ex_name]
  have HB5 := Lib.hid ((HB2.out.alloc HB2.out.size _).trans (hb.mono (HB2.out.alloc HB2.out.size _).size))
  clear hb d2 d3 hc2 hc3 kc2 hbs
  have hta := HTA.out
  go_wp2_with fail
  go_ret
  exact ⟨rfl, HB5.out⟩
end Go.Proofs.Ytlfmkiendaecaaa.DfaW
