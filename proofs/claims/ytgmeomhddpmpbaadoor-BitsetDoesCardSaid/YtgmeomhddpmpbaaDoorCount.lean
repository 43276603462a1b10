/- Walk of layer 14: Count. -/
import Derived.Test.YtgmeomhddpmpbaaDoorSome
import Derived.Test.YtgmeomhddpmpbaaDoorRegionT
namespace Go.Proofs.YtgmeomhddpmpbaaDoor.BitsW
set_option linter.unusedVariables false
open Go.RowKit Go.Shelf Go.Proofs.YtgmeomhddpmpbaaDoor.SetM Go.Proofs.YtgmeomhddpmpbaaDoor.SetW Go.Proofs.YtgmeomhddpmpbaaDoor.RegionU
attribute [local go_sem] Oper.semAt_some

theorem upTo_room {f : Nat → Bool} {n : Nat} (h : ∀ i, f i = true → i < n) : upTo f (64 * lenW n) = upTo f n := by
  have hl : n ≤ 64 * lenW n := by unfold lenW; omega
  rw [upTo_split f n _ hl]
  have : (List.range' n (64 * lenW n - n)).filter f = [] := by
    rw [List.filter_eq_nil_iff]
    intro j hj hf
    rw [List.mem_range'_1] at hj
    have := h j hf
    omega
  rw [this, List.append_nil]
/-- How many bits the named words have. -/
def cnt (g : Nat → Bool) (l : List Nat) : Nat := (l.map fun j => (bitsOf (wd g j)).length).sum
theorem cnt_snoc (g : Nat → Bool) (l : List Nat) (j : Nat) : cnt g (l ++ [j]) = cnt g l + (bitsOf (wd g j)).length := by simp [cnt]
theorem cnt_rows (g : Nat → Bool) : ∀ k, cnt g (rows g k) = (upTo g (64 * k)).length
  | 0 => rfl
  | k + 1 => by
    have ih := cnt_rows g k
    rw [upTo_word, List.length_append, List.length_map]
    by_cases h : wd g k = 0
    · rw [rows_no h, h, bitsOf_zero, ih]; rfl
    · rw [rows_yes h, cnt_snoc, ih]
theorem cnt_le (g : Nat → Bool) (l : List Nat) : cnt g l ≤ 64 * l.length := by
  induction l with
  | nil => simp [cnt]
  | cons a l ih =>
    have := bits_length (wd g a)
    simp only [cnt, List.map_cons, List.sum_cons, List.length_cons] at *
    omega
theorem wide_calls {m : Nat} {f : FuncId} {args : Array Value} {W : World} {R : Ending → World → Prop} (h : Calls Tryd.prog f args W R) {l : Nat} : CallsIn (Fence.wide.inRound l) m Tryd.prog f args W R := CallsIn.inRound l (callsIn_wide.2 h)

theorem boxed_from {n₀ : Nat} {β : Type} (B : Nat) (t : TypeId) (f : β → Value) : OwnFrom n₀ (fun s W => Boxed W B t (f s)) := by
  intro s X Y row hv hg hrow
  refine Boxed.kept hv hg (fun e' => ?_)
  obtain ⟨_, o, ho, hc⟩ := hrow B e'.symm
  rw [show X.heap[B]? = _ from hv] at ho; cases ho; cases hc
theorem r_up (W0 : World) : Up (R W0) := fun _ _ h k => h.trans k
theorem r_drew (W0 : World) : R W0 W0.drew := (Below.refl _ _).drew
theorem r_boxed {W0 W : World} (h : Below W0.heap.size W0 W) {B : Nat} {t : TypeId} {v : Value} (hb : Boxed W0 B t v) : Boxed W B t v := (Below.block h B hb.lt).trans hb
theorem keeps_r {W0 W : World} (h : Below W0.heap.size W0 W) : KeepsOthers W0 W := ⟨h.size, fun k o hk _ => (h.block k (Array.getElem?_eq_some_iff.1 hk).1).trans hk⟩
theorem kq_set {q B : Nat} {W : World} (h : q ≠ B) (v : Value) : Kq q W (W.setCell ⟨B, 0, none⟩ v) := ⟨by simp [World.setCell], Below.heap_setCell _ _ _ _ h⟩
set_option maxHeartbeats 2000000 in
theorem Count_in (n : Nat) (hn : 3 ≤ n) (v : Option Addr) (q r : Nat) (g : Nat → Bool) (w : World) (hS : Src w v q r g) :
    CallsIn Fence.wide n Tryd.prog 18 #[.pointer v] w fun e W' => e = .returned (.int .i64 (upTo g r).length) ∧ Below w.heap.size w W' := by
  have h1 : 1 ≤ n := by omega
  have hle := lenW_le hS.room
  have HFIN := Lib.hid (show cnt g (rows g (lenW r)) = (upTo g r).length by rw [cnt_rows, upTo_room hS.into])
  have HS := Lib.hid hS
  clear hS
  refine callsIn_of_wp_marks Tryd.func18 rfl trivial ?_ rfl
  simp only [Tryd.ntmps18, List.size_toArray, List.length_cons, List.length_nil, Nat.reduceAdd, Nat.reduceSub, Array.replicate_succ, Array.replicate_zero, List.push_toArray, List.append_toArray, List.nil_append, List.cons_append]
  gi_wp2_with (refine ⟨trivial, ?_⟩; gi_at_call 26; refine (callsIn_wide.2 (some_any v _)).mono ?_; rintro e w2 ⟨rfl, rfl⟩)
  have b1 := (Boxed.new w 3 (.int .i64 0)).alloc (.cells #[.pointer v] 23)
  have b2 := Boxed.new (w.alloc (.cells #[.int .i64 0] 3)) 23 (.pointer v)
  rw [World.size_alloc] at b2
  have hb0 : Below w.heap.size w ((w.alloc (.cells #[.int .i64 0] 3)).alloc (.cells #[.pointer v] 23)) := ((Below.refl _ _).alloc (Nat.le_refl _) _).alloc (by simp) _
  generalize (w.alloc (.cells #[.int .i64 0] 3)).alloc (.cells #[.pointer v] 23) = W0 at *
  obtain ⟨B, hB⟩ : ∃ B, B = w.heap.size := ⟨_, rfl⟩
  have HB := Lib.hid hB
  rw [← hB] at b1 b2 ⊢
  have hseq := some_stops (n - 1) (by omega) (B + 1) v q r g W0 b2.cell (HS.out.below hb0)
  have hqB : q < B := by rw [hB]; exact HS.out.1
  have hq0 : q < W0.heap.size := Nat.lt_of_lt_of_le HS.out.1 hb0.size
  have HB0 := Lib.hid hb0
  clear hB hb0 b2
  refine wpIn_rangeFunc_ownG rfl h1 (gf := 31) (lb := #[.pointer (some ⟨B + 1, 0, none⟩)]) rfl trivial (enters_of Tryd.func31 (by kernel_rfl) rfl)
    hseq Kq.trans (kq_b hq0) (Below.refl _ _) (fun _ => rfl)
    (fun (pre : List Pl) W => Boxed W B 3 (.int .i64 (cnt g (vals pre))) ∧ Below w.heap.size w W)
    (fun _ _ _ => False)
    (OwnFrom.and (boxed_from B 3 (fun pre : List Pl => .int .i64 (cnt g (vals pre)))) (ownFrom_below (Nat.le_refl _) HB0.out.size))
    (fun _ _ _ _ _ hs _ _ => hs)
    ⟨b1, HB0.out⟩
    (fun x => { tmps := #[.pointer v, undef, .int .i64 0, .pointer (some ⟨B, 0, none⟩), undef, .int .u64 (wd g x.val), .pointer v, .func (.func 31) #[] #[.pointer (some ⟨B + 1, 0, none⟩)], .int .i64 (x.val : Nat), .int .u64 (wd g x.val), undef, undef, undef, undef, undef], defers := [] }) ?assign ?body ?done ?stop
  case assign =>
    intro l x W K hK
    unfold encs
    gi_wp2
    exact hK
  case body =>
    rintro l pre ⟨x, hx0⟩ W ⟨hv, hb⟩ hlt
    have HV := Lib.hid hv; have HBW := Lib.hid hb
    have hx := wd_lt g x
    have HO := Lib.hid (fun W' => ones_any (wd g x) hx W')
    have hc := cnt_le g (vals pre)
    rw [vals_len] at hc
    have hbl := bits_length (wd g x)
    have HCS := Lib.hid (cnt_snoc g (vals pre) x)
    clear hv hb
    gi_wp2
    refine wpIn_region_T 4 (fun _ => trivial) rfl (fun h => wide_calls h) (by kernel_rfl) (by kernel_rfl) (by kernel_rfl) (r_up W) (r_drew W) ?_
    refine wpT_taken (i := 0) rfl (by kernel_rfl) (by kernel_rfl) (by kernel_rfl) (by kernel_rfl) (by kernel_rfl) (r_up W) ?_
    apply Exists.intro
    refine ⟨Or.inl ⟨rfl, fun W' hW => ?hy⟩, ?_⟩
    case hy =>
      have hc := (r_boxed hW HV.out).cell
      go_simp
      exact does_value rfl
    simp only [Act.put, List.setIfInBounds_toArray, List.set]
    refine wpT_taken (i := 1) rfl (by kernel_rfl) (by kernel_rfl) (by kernel_rfl) (by kernel_rfl) (by kernel_rfl) (r_up W) ?_
    apply Exists.intro
    refine ⟨Or.inl ⟨rfl, fun W' hW => ?hy⟩, ?_⟩
    case hy =>
      go_simp
      exact does_value rfl
    simp only [Act.put, List.setIfInBounds_toArray, List.set]
    refine wpT_taken (i := 2) rfl (by kernel_rfl) (by kernel_rfl) (by kernel_rfl) (by kernel_rfl) (by kernel_rfl) (r_up W) ?_
    apply Exists.intro
    refine ⟨Or.inl ⟨rfl, fun W' hW => ?hy⟩, ?_⟩
    case hy =>
      go_simp
      exact does_call ((HO.out _).mono fun e w' h => ⟨h.1, h.2 ▸ Below.refl _ _⟩)
    simp only [Act.put, List.setIfInBounds_toArray, List.set]
    refine wpT_taken (i := 3) rfl (by kernel_rfl) (by kernel_rfl) (by kernel_rfl) (by kernel_rfl) (by kernel_rfl) (r_up W) ?_
    apply Exists.intro
    refine ⟨Or.inl ⟨rfl, fun W' hW => ?hy⟩, ?_⟩
    case hy =>
      go_simp
      exact does_value rfl
    simp only [Act.put, List.setIfInBounds_toArray, List.set]
    refine wpT_done (by kernel_rfl) ?_
    intro W' hW
    have hv' := r_boxed hW HV.out
    have hc := hv'.cell
    have hf := hv'.frozen
    gi_wp2
    have hqW : q < W.heap.size := by have := HBW.out.size; have := HS.out.1; omega
    refine ⟨((keeps_r hW).trans (KeepsOthers.setCell _ _ _)).from _, (kq_of hW hqW).trans (kq_set (by omega) _), ?_, (HBW.out.trans (hW.mono HBW.out.size)).setCell (p := ⟨B, 0, none⟩) (by rw [HB.out]; exact Nat.le_refl _) _⟩
    rw [vals_snoc, HCS.out]
    exact hv'.set _
  case done =>
    rintro D ys W hD hys ⟨hv, hb⟩ hK
    have hc := hv.cell
    have HY := Lib.hid (show cnt g (vals ys) = (upTo g r).length by rw [hys]; exact HFIN.out)
    clear hys
    gi_wp2
    refine ⟨by simp, .inl ⟨_, _, rfl, run_takeDeferred hK, ?_⟩⟩
    exact ⟨_, results_tmp rfl _ _ _, by rw [HY.out]; rfl, hb.trans (belowK_b (w := w) (Nat.le_refl _) W D _ _ (Nat.le_trans HB0.out.size hD) hK rfl rfl)⟩
  case stop =>
    rintro D c pre W _ _ h _
    exact h.elim
theorem Count_any (v : Option Addr) (q r : Nat) (g : Nat → Bool) (w : World) (hS : Src w v q r g) :
    Calls Tryd.prog 18 #[.pointer v] w fun e W' => e = .returned (.int .i64 (upTo g r).length) ∧ Below w.heap.size w W' :=
  callsIn_wide.1 (Count_in 3 (by decide) v q r g w hS)
end Go.Proofs.YtgmeomhddpmpbaaDoor.BitsW
