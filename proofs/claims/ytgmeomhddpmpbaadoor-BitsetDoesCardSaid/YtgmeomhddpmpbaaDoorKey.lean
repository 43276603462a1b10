/- Walk of layer 14: Key. -/
import Derived.Test.YtgmeomhddpmpbaaDoorAll
namespace Go.Proofs.YtgmeomhddpmpbaaDoor.BitsW
set_option linter.unusedVariables false
open Go.RowKit Go.Shelf Go.Proofs.YtgmeomhddpmpbaaDoor.SetM Go.Proofs.YtgmeomhddpmpbaaDoor.SetW Go.Proofs.YtgmeomhddpmpbaaDoor.RegionU
attribute [local go_sem] Oper.semAt_some

abbrev cb (c : UInt8) : Value := .int .u8 (c.toNat : Int)
theorem infoByte : (Tryd.prog.info? 5).map (fun i => (i.zero, i.size, i.bytes)) = some (some (.int .u8 0), 1, 1) := by kernel_rfl
theorem conv_owned {W : World} {b n : Nat} {v : Value} {l : List UInt8} (hn : l.length = n) (h : W.ownsRow b 5 1 v n (l.map cb)) : (convert 62 9 v).run Tryd.prog W = .ok (.string ⟨l.toArray⟩) W := by
  subst hn
  rcases h.2 with ⟨rfl, h0⟩ | ⟨g, cap, cur, rfl, hg, hh, hnc, hcm, hcs, htake⟩
  · obtain rfl : l = [] := List.length_eq_zero_iff.1 h0
    exact run_convert_bytes_nil (P := Tryd.prog) W 62 5 Tryd.underlying62 Tryd.underlying5 0 0 9 Tryd.underlying9
  · have h' := h
    have := run_convert_bytes_arg (P := Tryd.prog) W 62 5 Tryd.underlying62 Tryd.underlying5 g 0 l.length cap (l.map fun c => (c.toNat : Int)) (by simp) (fun i hi => by
      rw [Nat.zero_add, World.ownsRow.cellAt h' i (by omega)]
      simp [hi]) 9 Tryd.underlying9
    rw [this]
    congr 2
    refine Base.ba_ext ?_
    rw [strOfNums_data, List.map_map]
    have : (fun n => UInt8.ofNat n.toNat) ∘ (fun c : UInt8 => (c.toNat : Int)) = id := by
      funext c
      show UInt8.ofNat ((c.toNat : Int)).toNat = c
      rw [Int.toNat_natCast]; exact UInt8.ofNat_toNat
    rw [this]; simp
/-- A byte of a number. -/
def by0 (x : Nat) : UInt8 := UInt8.ofNat x
theorem by0_val (x : Nat) : Value.int .u8 (IntKind.u8.wrap (x : Int)) = cb (by0 x) := by
  have : ((by0 x).toNat : Int) = IntKind.u8.wrap (x : Int) := by
    unfold by0
    rw [UInt8.toNat_ofNat']
    show _ = (x : Int) % 256
    omega
  rw [← this]
/-- The bytes of a place and its word. -/
def bits8 (d k : Nat) : List UInt8 := (List.range k).map fun i => by0 (d / 2 ^ (8 * i))
def piece (j d : Nat) : List UInt8 := by0 j :: by0 (j / 256) :: bits8 d 8
def keyL (g : Nat → Bool) (l : List Nat) : List UInt8 := l.flatMap fun j => piece j (wd g j)
theorem bits8_snoc (d k : Nat) : bits8 d (k + 1) = bits8 d k ++ [by0 (d / 2 ^ (8 * k))] := by simp [bits8, List.range_succ]
theorem piece_len (j d : Nat) : (piece j d).length = 10 := by simp [piece, bits8]
theorem keyL_snoc (g : Nat → Bool) (l : List Nat) (x : Nat) : keyL g (l ++ [x]) = keyL g l ++ piece x (wd g x) := by simp [keyL, List.flatMap_append]
theorem keyL_len (g : Nat → Bool) (l : List Nat) : (keyL g l).length = 10 * l.length := by
  induction l with
  | nil => rfl
  | cons a l ih =>
    simp only [keyL, List.flatMap_cons, List.length_append, List.length_cons, piece_len] at *
    omega
def keyOf (g : Nat → Bool) (n : Nat) : ByteArray := ⟨(keyL g (rows g (lenW n))).toArray⟩
theorem key_ok {k m : Nat} (h : k + m ≤ 200000) : k + m ≤ maxLen ∧ (k + m) * 1 ≤ 140737488355328 := by
  unfold maxLen; omega
theorem by0_shr (d k : Nat) : Value.int .u8 (IntKind.u8.wrap ((d : Int) / 2 ^ (8 * k))) = cb (by0 (d / 2 ^ (8 * k))) := by
  rw [← by0_val, Int.natCast_ediv]; simp
theorem by0_mod (x : Nat) : Value.int .u8 ((x : Int) % 256) = cb (by0 x) := by
  rw [← by0_val]; rfl
theorem by0_div (x : Nat) (h : x < 16384) : Value.int .u8 ((x : Int) / 256) = cb (by0 (x / 256)) := by
  have : ((by0 (x / 256)).toNat : Int) = (x : Int) / 256 := by
    unfold by0
    rw [UInt8.toNat_ofNat']
    omega
  rw [← this]
set_option maxRecDepth 100000 in
set_option maxHeartbeats 4000000 in
theorem Key_in (n : Nat) (hn : 4 ≤ n) (v : Option Addr) (q r : Nat) (g : Nat → Bool) (w : World) (hS : Src w v q r g) :
    CallsIn Fence.wide n Tryd.prog 23 #[.pointer v] w fun e W' => e = .returned (.string (keyOf g r)) ∧ Below w.heap.size w W' := by
  have h1 : 1 ≤ n := by omega
  obtain ⟨i0, hi, hz0, hz1, hz2⟩ := info_parts infoByte
  have hle := lenW_le hS.room
  have HS := Lib.hid hS
  clear hS
  refine callsIn_of_wp_marks Tryd.func23 rfl trivial ?_ rfl
  simp only [Tryd.ntmps23, List.size_toArray, List.length_cons, List.length_nil, Nat.reduceAdd, Nat.reduceSub, Array.replicate_succ, Array.replicate_zero, List.push_toArray, List.append_toArray, List.nil_append, List.cons_append]
  gi_wp2_with (refine ⟨trivial, ?_⟩; gi_at_call 26; refine (callsIn_wide.2 (some_any v _)).mono ?_; rintro e w2 ⟨rfl, rfl⟩)
  have b1 := (Boxed.new w 62 (.slice none 0 0)).alloc (.cells #[.pointer v] 23)
  have b2 := Boxed.new (w.alloc (.cells #[.slice none 0 0] 62)) 23 (.pointer v)
  rw [World.size_alloc] at b2
  have hb0 : Below w.heap.size w ((w.alloc (.cells #[.slice none 0 0] 62)).alloc (.cells #[.pointer v] 23)) := ((Below.refl _ _).alloc (Nat.le_refl _) _).alloc (by simp) _
  generalize (w.alloc (.cells #[.slice none 0 0] 62)).alloc (.cells #[.pointer v] 23) = W0 at *
  obtain ⟨B, hB⟩ : ∃ B, B = w.heap.size := ⟨_, rfl⟩
  have hBsz : w.heap.size ≤ B := by omega
  rw [← hB] at b1 b2 ⊢
  have hseq := some_stops (n - 1) (by omega) (B + 1) v q r g W0 b2.cell (HS.out.below hb0)
  have hq0 : q < W0.heap.size := Nat.lt_of_lt_of_le HS.out.1 hb0.size
  have HB0 := Lib.hid hb0
  have hgw : ∀ c : List Pl → List UInt8, OwnFrom W0.heap.size (fun (pre : List Pl) W => (∃ u, Boxed W B 62 u ∧ W.ownsRow w.heap.size 5 1 u (c pre).length ((c pre).map cb) ∧ True) ∧ Below w.heap.size w W) := fun c =>
    OwnFrom.and (Own.from (holdsRow_own w.heap.size B 62 5 1 (fun (pre : List Pl) => (c pre).length) (fun pre => (c pre).map cb) (fun _ _ => True)) _) (ownFrom_below (Nat.le_refl _) HB0.out.size)
  clear hb0 b2 hB
  refine wpIn_rangeFunc_ownG rfl h1 (gf := 31) (lb := #[.pointer (some ⟨B + 1, 0, none⟩)]) rfl trivial (enters_of Tryd.func31 (by kernel_rfl) rfl)
    hseq Kq.trans (kq_b hq0) (Below.refl _ _) (fun _ => rfl)
    _ (fun _ _ _ => False) (hgw (fun pre => keyL g (vals pre)))
    (fun _ _ _ _ _ hs _ _ => hs)
    ⟨⟨_, b1, World.ownsRow_nil _ _ _ _, trivial⟩, HB0.out⟩
    (fun x => { tmps := #[.pointer v, undef, .string { data := #[] }, .pointer (some ⟨B, 0, none⟩), .int .i64 (x.val : Nat), .int .u64 (wd g x.val), undef, .pointer v, .func (.func 31) #[] #[.pointer (some ⟨B + 1, 0, none⟩)], .int .i64 (x.val : Nat), .int .u64 (wd g x.val), undef, undef, undef, undef, undef, undef, undef, undef, undef, undef, undef, undef, undef, undef, undef, undef, undef, undef, undef, undef, undef], defers := [] }) ?assign ?body ?done ?stop
  case assign =>
    intro l x W K hK
    unfold encs
    gi_wp2
    exact hK
  case body =>
    rintro l pre ⟨x, hx0⟩ W ⟨⟨u, hv, hrow, _⟩, hb⟩ hlt
    have hqW : q < W.heap.size := by have := hb.size; have := HS.out.1; omega
    have hlen : (keyL g (vals pre)).length = 10 * pre.length := by rw [keyL_len, vals_len]
    have HLK := Lib.hid (key_ok (k := (keyL g (vals pre)).length) (m := 2) (by omega))
    have hx64 := wd_lt g x
    have hc := hv.cell
    have HV := Lib.hid hv; have HROW := Lib.hid hrow; have HB := Lib.hid hb
    have HLEN := Lib.hid hlen
    clear hv hrow hb hlen
    gi_wp2_with (gi_at_builtin; refine wpListIn_append_own _ rfl _ _ 62 rfl w.heap.size 5 i0 (.int .u8 0) 1 1 Tryd.underlying62 hi hz0 hz1 hz2 rfl (by decide) _ _ _ rfl (HROW.out.alloc _) ⟨W.heap.size, 0, none⟩ 2 2 [.int .u8 ((x : Int) % 256), .int .u8 ((x : Int) / 256)] rfl rfl (cell_two_new _ _ _ _) (by simp [Value.oneCell']) HLK.out.1 HLK.out.2 (Nat.le_trans HB.out.size (by simp)) ?_; intro v' w1 hown' hgrow _; obtain ⟨g', cap', rfl⟩ := ownsRow_succ (k := (keyL g (vals pre)).length + 1) hown'; obtain ⟨hv1, hv2, hr2, hk2, hb2⟩ := HV.out.appended (by decide) HROW.out HB.out.size hBsz hown' hgrow; have hc1 := hv1.cell; have hf1 := hv1.frozen)
    have HV2 := Lib.hid hv2; have HK2 := Lib.hid hk2; have HB2 := Lib.hid (HB.out.trans hb2)
    have HQ2 := Lib.hid (kq_of hb2 HS.out.1)
    have HR2 : Hid ((w1.setCell ⟨B, 0, none⟩ (.slice (some ⟨g', 0, none⟩) ((keyL g (vals pre)).length + 1 + 1) cap')).ownsRow w.heap.size 5 1 (.slice (some ⟨g', 0, none⟩) ((keyL g (vals pre)).length + 1 + 1) cap') (keyL g (vals pre) ++ [by0 x, by0 (x / 256)]).length ((keyL g (vals pre) ++ [by0 x, by0 (x / 256)]).map cb)) := Lib.hid (by
      rw [List.map_append, List.length_append, List.map_cons, List.map_cons, List.map_nil, ← by0_mod, ← by0_div x hx0]; exact hr2)
    have HPL := Lib.hid (show (keyL g (vals pre) ++ [by0 x, by0 (x / 256)]).length = 10 * pre.length + 2 by rw [List.length_append, HLEN.out]; rfl)
    have HEND := Lib.hid (show (keyL g (vals pre) ++ [by0 x, by0 (x / 256)]) ++ bits8 (wd g x) 8 = keyL g (vals pre ++ [x]) by rw [keyL_snoc, piece, List.append_assoc]; rfl)
    generalize keyL g (vals pre) ++ [by0 x, by0 (x / 256)] = P0 at *
    generalize wd g x = d at *
    clear hv1 hv2 hr2 hk2 hb2 hown' hgrow hc1 hf1 hc
    gi_loopw [6] (fun s wr => ∃ (k : Nat) (u : Value) (L : List UInt8), k ≤ 8 ∧ s = .int .i64 (8 * (k : Int)) ∧ Hid (L = P0 ++ bits8 d k) ∧ Boxed wr B 62 u ∧ wr.ownsRow w.heap.size 5 1 u L.length (L.map cb) ∧ Below w.heap.size w wr ∧ KeepsFrom W0.heap.size W wr ∧ Kq q W wr) (fun s _ => 64 - (intOf s).toNat)
    case atStart => exact ⟨0, _, P0, by omega, rfl, Lib.hid (by rw [show bits8 d 0 = [] from rfl, List.append_nil]), HV2.out, HR2.out, HB2.out, HK2.out.from _, HQ2.out⟩
    case round =>
      obtain ⟨k, u, L, hk, rfl, HL, hv, hrow, hb, hkf, hkq⟩ := hrel
      have HBX := Lib.hid hv; have HROW2 := Lib.hid hrow; have HBW := Lib.hid hb; have HKF := Lib.hid hkf; have HKQ := Lib.hid hkq
      clear hv hrow hb hkf hkq
      by_cases hlt3 : k < 8
      · have ht : 8 * (k : Int) < 64 := by omega
        have ht2 : (8 * (k : Int)).toNat = 8 * k := by omega
        have ht3 : 0 ≤ 8 * (k : Int) := by omega
        have HLL := Lib.hid (show L.length + 1 ≤ 200000 by rw [HL.out, List.length_append, HPL.out]; simp [bits8]; omega)
        have HLK2 := Lib.hid (key_ok (k := L.length) (m := 1) HLL.out)
        have HSN := Lib.hid (bits8_snoc d k)
        have HBY := Lib.hid (by0_shr d k)
        gi_wp2
        refine wpIn_region_T 6 (fun _ => trivial) rfl (fun h => wide_calls h) (by kernel_rfl) (by kernel_rfl) (by kernel_rfl) (r_up wr) (r_drew wr) ?_
        refine wpT_taken (i := 0) rfl (by kernel_rfl) (by kernel_rfl) (by kernel_rfl) (by kernel_rfl) (by kernel_rfl) (r_up wr) ?_
        apply Exists.intro
        refine ⟨Or.inl ⟨rfl, fun W' hW => ?hy⟩, ?_⟩
        case hy =>
          have c0 := (r_boxed hW HBX.out).cell
          go_simp
          exact does_value rfl
        simp only [Act.put, List.setIfInBounds_toArray, List.set]
        refine wpT_taken (i := 1) rfl (by kernel_rfl) (by kernel_rfl) (by kernel_rfl) (by kernel_rfl) (by kernel_rfl) (r_up wr) ?_
        apply Exists.intro
        refine ⟨Or.inl ⟨rfl, fun W' hW => ?hy⟩, ?_⟩
        case hy =>
          go_simp
          exact does_value rfl
        simp only [Act.put, List.setIfInBounds_toArray, List.set]
        refine wpT_taken (i := 2) rfl (by kernel_rfl) (by kernel_rfl) (by kernel_rfl) (by kernel_rfl) (by kernel_rfl) (r_up wr) ?_
        apply Exists.intro
        refine ⟨Or.inl ⟨rfl, fun W' hW => ?hy⟩, ?_⟩
        case hy =>
          go_simp
          exact does_value rfl
        simp only [Act.put, List.setIfInBounds_toArray, List.set]
        refine wpT_taken (i := 3) rfl (by kernel_rfl) (by kernel_rfl) (by kernel_rfl) (by kernel_rfl) (by kernel_rfl) (r_up wr) ?_
        apply Exists.intro
        refine ⟨Or.inl ⟨rfl, fun W' hW => ?hy⟩, ?_⟩
        case hy =>
          go_simp
          exact does_value rfl
        simp only [Act.put, List.setIfInBounds_toArray, List.set]
        refine wpT_taken (i := 4) rfl (by kernel_rfl) (by kernel_rfl) (by kernel_rfl) (by kernel_rfl) (by kernel_rfl) (r_up wr) ?_
        apply Exists.intro
        refine ⟨Or.inl ⟨rfl, fun W' hW => ?hy⟩, ?_⟩
        case hy =>
          go_simp
          exact does_value rfl
        simp only [Act.put, List.setIfInBounds_toArray, List.set]
        refine wpT_one (i := 5) (by kernel_rfl) (by kernel_rfl) rfl rfl (fun u W2 => ∃ b : Nat, u = .slice (some ⟨b, 0, none⟩) 1 1 ∧ W2.cell? ⟨b, 0, none⟩ = some (cb (by0 (d / 2 ^ (8 * k))))) cell_up (fun W' hW => ?hy) ?_
        case hy =>
          go_simp
          rw [HBY.out]
          exact does_made ⟨W'.heap.size, rfl, (Boxed.new W' _ _).cell⟩ ((Below.refl _ _).alloc (Nat.le_refl _) _)
        intro u2
        simp only [Act.put, List.setIfInBounds_toArray, List.set]
        refine wpT_done (by kernel_rfl) ?_
        rintro W2 ⟨hW, b, rfl, hcb⟩
        have hv := r_boxed hW HBX.out
        have hrow := owns_but (w' := W2) HROW2.out (But.of none hW) (fun k e => ⟨(World.ownsRow.lt HROW2.out k e).2, by simp⟩)
        have hb := HBW.out.trans (Below.mono hW HBW.out.size)
        have hkf : KeepsFrom W0.heap.size W W2 := HKF.out.trans ((keeps_r hW).from _)
        have hkq : Kq q W W2 := HKQ.out.trans (kq_of hW (by have := HKQ.out.1; omega))
        have HCB := Lib.hid hcb; have HKF2 := Lib.hid hkf; have HKQ2 := Lib.hid hkq; have HB3 := Lib.hid hb
        clear hcb hkf hkq hb
        simp only [List.drop_succ_cons, List.drop_zero]
        refine wpListIn_append_own _ rfl (.tmp 23) (.tmp 28) 62 rfl w.heap.size 5 i0 (.int .u8 0) 1 1 Tryd.underlying62 hi hz0 hz1 hz2 rfl (by decide) u _ _ rfl hrow ⟨b, 0, none⟩ 1 1 [cb (by0 (d / 2 ^ (8 * k)))] rfl rfl (one_cell HCB.out) (by simp [Value.oneCell']) HLK2.out.1 HLK2.out.2 HB3.out.size ?_
        intro v' w1' hown' hgrow _
        obtain ⟨g', cap', rfl⟩ := ownsRow_succ hown'
        obtain ⟨hv1, hv2, hr2, hk2, hb2⟩ := appended_r hv (by decide) hrow HB3.out.size hBsz hown' hgrow
        have hc1 := hv1.cell
        have hf1 := hv1.frozen
        have HV3 := Lib.hid hv2; have HR3 := Lib.hid hr2; have HK3 := Lib.hid hk2; have HBB := Lib.hid hb2
        clear hv hv1 hv2 hr2 hk2 hb2 hown' hgrow hrow
        gi_wp2
        refine ⟨⟨k + 1, _, L ++ [by0 (d / 2 ^ (8 * k))], by omega, ?_, Lib.hid (by rw [HSN.out, HL.out, List.append_assoc]), HV3.out, by rw [List.length_append, List.map_append]; exact HR3.out, HB3.out.trans HBB.out, HKF2.out.trans (HK3.out.from _), HKQ2.out.trans (kq_of HBB.out HS.out.1)⟩, ?_⟩
        · go_num
        · simp [intOf]; omega
      · obtain rfl : k = 8 := by omega
        gi_wp2
        refine ⟨HKF.out, HKQ.out, ⟨u, HBX.out, ?_, trivial⟩, HBW.out⟩
        rw [vals_snoc, ← HEND.out, ← HL.out]; exact HROW2.out
  case done =>
    rintro D ys W hD hys ⟨⟨u, hv, hrow, _⟩, hb⟩ hK
    have hc := hv.cell
    rw [show keyL g (vals ys) = keyL g (rows g (lenW r)) by rw [hys]] at hrow
    have HCV := Lib.hid (conv_owned rfl hrow)
    clear hys hv
    gi_wp2
    rw [HCV.out]
    simp only [Result.andThen_ok]
    gi_wp2
    refine ⟨by simp, .inl ⟨_, _, rfl, run_takeDeferred hK, ?_⟩⟩
    exact ⟨_, results_tmp rfl _ _ _, rfl, hb.trans (belowK_b (w := w) (Nat.le_refl _) W D _ _ (Nat.le_trans HB0.out.size hD) hK rfl rfl)⟩
  case stop =>
    rintro D c pre W _ _ h _
    exact h.elim
theorem Key_any (v : Option Addr) (q r : Nat) (g : Nat → Bool) (w : World) (hS : Src w v q r g) :
    Calls Tryd.prog 23 #[.pointer v] w fun e W' => e = .returned (.string (keyOf g r)) ∧ Below w.heap.size w W' :=
  callsIn_wide.1 (Key_in 4 (by decide) v q r g w hS)
end Go.Proofs.YtgmeomhddpmpbaaDoor.BitsW
