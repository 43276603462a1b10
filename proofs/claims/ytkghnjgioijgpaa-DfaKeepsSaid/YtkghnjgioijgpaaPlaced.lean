/- Walks of slices.Repeat of one number, of placed, turned, and of the document's place. -/
import Derived.Test.YtkghnjgioijgpaaKmath
import Derived.Test.YtkghnjgioijgpaaKnows
import Derived.Laws.CopyOwn
namespace Go.Proofs.Ytkghnjgioijgpaa.DfaW
set_option linter.unusedVariables false
open Go.RowKit Go.Maps Go.Proofs.Ytkghnjgioijgpaa.PartW Go.Proofs.Ytkghnjgioijgpaa.DfaM

/-- So many times -1, then so many times 0. -/
def fillL (j n : Nat) : List Value := List.replicate j (.int .i64 (-1)) ++ List.replicate (n - j) (.int .i64 0)
theorem fillL_len {j n : Nat} (h : j ≤ n) : (fillL j n).length = n := by simp [fillL]; omega
theorem fillL_at {j n i : Nat} (h : j ≤ n) (hi : i < j) : (fillL j n)[i]? = some (.int .i64 (-1)) := by
  unfold fillL
  rw [List.getElem?_append_left (by simpa using hi)]
  simp [hi]
theorem fillL_splice {j c n : Nat} (h : j + c ≤ n) : splice (fillL j n) j (List.replicate c (.int .i64 (-1))) = fillL (j + c) n := by
  unfold splice fillL
  rw [List.length_replicate]
  have e1 : (List.replicate j (Value.int .i64 (-1)) ++ List.replicate (n - j) (Value.int .i64 0)).take j = List.replicate j (.int .i64 (-1)) := by
    rw [List.take_append_of_le_length (by simp)]
    exact List.take_of_length_le (by simp)
  have e2 : (List.replicate j (Value.int .i64 (-1)) ++ List.replicate (n - j) (Value.int .i64 0)).drop (j + c) = List.replicate (n - (j + c)) (.int .i64 0) := by
    rw [List.drop_append]
    simp [show n - j - c = n - (j + c) by omega]
  rw [e1, e2, ← List.append_assoc, List.replicate_append_replicate]
theorem made_fill (n : Nat) : madeCells #[.int .i64 0] n = (fillL 0 n).toArray := by
  apply Array.toList_inj.1
  rw [toList_madeCells_one]
  simp [fillL]

set_option maxRecDepth 100000 in
set_option maxHeartbeats 2000000 in
theorem Repeat_any (w : World) {b o c n : Nat} (hc : w.cell? ⟨b, o, none⟩ = some (.int .i64 (-1))) (h0 : 0 < n) (hn : n ≤ 65536) :
    Calls Try.prog 63 #[.slice (some ⟨b, o, none⟩) 1 c, .int .i64 n] w fun e w' => e = .returned (.slice (some ⟨w.heap.size, 0, none⟩) n n) ∧ Ar w' w.heap.size (fillL n n).toArray 3 ∧ Below w.heap.size w w' := by
  obtain ⟨i0, hi, hz0, hz1, hz2⟩ := info_parts info3
  have hmk : ∀ w, (Instr.makeSlice 24 (.int .i64 (n : Nat)) (.int .i64 (n : Nat))).run Try.prog w = .ok (.slice (some ⟨w.heap.size, 0, none⟩) n n) (w.alloc (.cells (madeCells #[.int .i64 0] n) 3)) := fun w =>
    run_make_row' 24 3 (.int .i64 0) 8 Try.underlying24 info3 rfl .i64 .i64 n (by omega) (by omega) w
  have hb : b < w.heap.size := World.block_lt_of_cell? _ _ hc
  have hni : (n : Int) ≤ 65536 := by omega
  go_enter Try.func63, Try.ntmps63
  go_wp2_with fail
  refine (Try.bits_Mul 1 n (by omega) (by omega) _).mono ?_
  rintro e w1 ⟨rfl, rfl⟩
  have hG := Lib.hid (show (w1.alloc (.cells (madeCells #[.int .i64 0] n) 3)).heap[w1.heap.size]? = some (.cells (fillL 0 n).toArray 3 (0, 0)) by
    rw [← made_fill]; exact Ar.new _ _ _)
  have hsrc := Lib.hid (show (w1.alloc (.cells (madeCells #[.int .i64 0] n) 3)).cell? ⟨b, o, none⟩ = some (.int .i64 (-1)) from (((Below.refl _ w1).alloc (Nat.le_refl _) _).cell (p := ⟨b, o, none⟩) hb).trans hc)
  have hB0 := Lib.hid (show Below w1.heap.size w1 (w1.alloc (.cells (madeCells #[.int .i64 0] n) 3)) from (Below.refl _ _).alloc (Nat.le_refl _) _)
  have hu1 : ¬ (9223372036854775807 : Int) < (n : Int) := by omega
  have d1 : (n : Int) / 18446744073709551616 = 0 := by omega
  have d2 : (n : Int) % 18446744073709551616 = n := by omega
  have hm1 : ([Value.int .i64 (-1)] : List Value).length = Nat.min 1 n := by show 1 = min 1 n; omega
  have hf1 : 0 + ([Value.int .i64 (-1)] : List Value).length ≤ (fillL 0 n).length := by rw [fillL_len (Nat.zero_le _)]; show 0 + 1 ≤ n; omega
  have ho1 : ∀ v ∈ ([Value.int .i64 (-1)] : List Value), v.oneCell' = true := fun v hv => by rw [List.mem_singleton.1 hv]; rfl
  have hs1 : ∀ (j : Nat) v, ([Value.int .i64 (-1)] : List Value)[j]? = some v → (w1.alloc (.cells (madeCells #[.int .i64 0] n) 3)).cell? ((⟨b, o, none⟩ : Addr).add j) = some v := fun j v hj => by
    obtain rfl : j = 0 := by have := (List.getElem?_eq_some_iff.1 hj).1; simpa using this
    rw [show v = .int .i64 (-1) by simpa using hj.symm]
    exact hsrc.out
  have HS1 := Lib.hid hs1; have HF1 := Lib.hid hf1; have HM1 := Lib.hid hm1; have HO1 := Lib.hid ho1
  clear hs1 hf1 hm1 ho1
  have isz : (Try.prog.info? 3).map (·.size) = some 1 := by kernel_rfl
  go_wp2_with (with_reducible (refine wpList_copy_splice rfl (.tmp 31) (.tmp 32) 24 24 rfl 3 Try.underlying24 isz _ _ n n 1 c rfl rfl w1.heap.size 0 (fillL 0 n) 3 hG.out [.int .i64 (-1)] HM1.out (fun _ => ⟨rfl, _, rfl, HS1.out⟩) HF1.out HO1.out w1.heap.size w1 hB0.out (Nat.le_refl _) ?_; intro w2 hg2 hb2))
  have HG2 := Lib.hid (show Ar w2 w1.heap.size (fillL 1 n).toArray 3 by
    have := hg2.out
    rw [show [Value.int .i64 (-1)] = List.replicate 1 (.int .i64 (-1)) from rfl, fillL_splice (by omega)] at this
    exact this)
  have HB2 := Lib.hid hb2
  obtain ⟨g, hg⟩ : ∃ g, g = w1.heap.size := ⟨_, rfl⟩
  have HGS := Lib.hid hg
  rw [← hg] at HG2 ⊢
  clear hg2 hb2 hG hsrc hB0 HS1 HF1 HM1 HO1 hmk hg hu1 d1 d2
  go_loopw [8] (fun i wr => ∃ j : Nat, 0 < j ∧ j ≤ n ∧ i = .int .i64 j ∧ Ar wr g (fillL j n).toArray 3 ∧ Below w1.heap.size w1 wr) (fun i _ => n - (intOf i).toNat)
  case atStart => exact ⟨1, by decide, h0, rfl, HG2.out, HB2.out⟩
  case round =>
    obtain ⟨j, hj0, hj, rfl, hA, hB⟩ := hrel
    clear HG2 HB2
    by_cases hlt : j < n
    · have HA := Lib.hid hA; have HB := Lib.hid hB
      clear hA hB
      have hji : (j : Int) < (n : Int) := by omega
      go_wp2_with fail
      obtain ⟨k, hk⟩ : ∃ k, k = min j (n - j) := ⟨_, rfl⟩
      have hk2 : j + k ≤ n ∧ 0 < k ∧ k ≤ j := by omega
      obtain ⟨X, hX⟩ : ∃ X, X = List.replicate k (Value.int .i64 (-1)) := ⟨_, rfl⟩
      have hXl : X.length = k := by rw [hX]; simp
      have HM := Lib.hid (show X.length = Nat.min j (n - j) by rw [hXl]; exact hk)
      have HF := Lib.hid (show j + X.length ≤ (fillL j n).length by rw [fillL_len hj, hXl]; exact hk2.1)
      have HO := Lib.hid (show ∀ v ∈ X, v.oneCell' = true from fun v hv => by rw [hX] at hv; rw [(List.mem_replicate.1 hv).2]; rfl)
      have HS := Lib.hid (show ∀ (i : Nat) v, X[i]? = some v → wr.drew.cell? ((⟨g, 0, none⟩ : Addr).add i) = some v from fun i v hv => by
        have hi : i < k := by have := (List.getElem?_eq_some_iff.1 hv).1; omega
        rw [hX] at hv
        have hv2 : v = .int .i64 (-1) := by simpa [hi] using hv.symm
        have hp : (⟨g, 0, none⟩ : Addr).add i = ⟨g, i, none⟩ := by unfold Addr.add; split <;> simp_all
        rw [hp, hv2]
        show wr.cell? _ = _
        rw [Ar.at' HA.out i]
        have := fillL_at (j := j) (n := n) (i := i) hj (by omega)
        simpa using this)
      have HP := Lib.hid (show splice (fillL j n) j X = fillL (j + k) n by rw [hX]; exact fillL_splice hk2.1)
      have HK := Lib.hid hk2; have HXL := Lib.hid hXl; have HLT := Lib.hid hlt
      have hwr : IntKind.i64.wrap ((j : Int) + (X.length : Int)) = ((j + k : Nat) : Int) := by rw [hXl, IntKind.wrap_i64]; omega
      have hle1 : (j : Int) ≤ (n : Int) := by omega
      have hne : ¬ n = j := by omega
      have HGB := Lib.hid (show w1.heap.size ≤ g by rw [HGS.out]; exact Nat.le_refl _)
      clear hk hk2 hX hXl hlt hj
      go_region_law (refine step_copy_splice rfl (.tmp 41) (.tmp 44) 24 24 rfl 3 Try.underlying24 isz (some ⟨g, j, none⟩) (some ⟨g, 0, none⟩) (n - j) (n - j) j n (by simp only [List.getElem_toArray, List.getElem_cons_succ, List.getElem_cons_zero, Act.put, List.setIfInBounds_toArray, List.set_cons_succ, List.set_cons_zero, Act.eval]; rfl) (by simp only [List.getElem_toArray, List.getElem_cons_succ, List.getElem_cons_zero, Act.put, List.setIfInBounds_toArray, List.set_cons_succ, List.set_cons_zero, Act.eval]; rfl) g j (fillL j n) 3 HA.out X HM.out (fun _ => ⟨rfl, _, rfl, HS.out⟩) HF.out HO.out w1.heap.size w1 (below_drewN HB.out 1) HGB.out ?_; intro w3 hg3 hb3)
      simp only [List.getElem_toArray, List.getElem_cons_succ, List.getElem_cons_zero, Act.put, List.setIfInBounds_toArray, List.set_cons_succ, List.set_cons_zero]
      go_wp2_with fail
      have hA3 : Ar w3 g (fillL (j + k) n).toArray 3 := by have := hg3.out; rw [HP.out] at this; exact this
      exact ⟨⟨j + k, by omega, HK.out.1, by go_num, hA3, hb3⟩, by have := HK.out; have := HLT.out; simp [intOf]; omega⟩
    · obtain rfl : j = n := by omega
      have HA := Lib.hid hA; have HB := Lib.hid hB
      clear hA hB
      go_wp2_with fail
      go_ret
      rw [HGS.out] at HA ⊢
      exact ⟨rfl, HA.out, HB.out⟩
/-- The place of a number; -1 where it is not. -/
def plc (l : List Int) (x : Int) : Int := if x ∈ l then (l.idxOf x : Nat) else -1
theorem plc_in {l : List Int} {x : Int} (h : x ∈ l) : plc l x = (l.idxOf x : Nat) := if_pos h
theorem plc_out {l : List Int} {x : Int} (h : x ∉ l) : plc l x = -1 := if_neg h
theorem idx_take {l : List Int} {j : Nat} {x : Int} (h : x ∈ l.take j) : (l.take j).idxOf x = l.idxOf x := by
  have e : l = l.take j ++ l.drop j := (List.take_append_drop j l).symm
  conv => rhs; rw [e]
  rw [List.idxOf_append, if_pos h]
theorem takeI_snoc (l : List Int) {j : Nat} (hj : j < l.length) : l.take (j + 1) = l.take j ++ [l.getD j 0] := by
  rw [List.take_succ_eq_append_getElem hj, List.getD_eq_getElem?_getD, List.getElem?_eq_getElem hj]; rfl
theorem plc_snoc {l : List Int} {x y : Int} (h : x ∉ l) : plc (l ++ [x]) y = if y = x then (l.length : Int) else plc l y := by
  unfold plc
  by_cases e : y = x
  · subst e
    rw [if_pos (by simp), if_pos rfl, List.idxOf_append, if_neg h, List.idxOf_cons_self]
    simp
  · rw [if_neg e]
    by_cases hm : y ∈ l
    · rw [if_pos (by simp [hm]), if_pos hm, List.idxOf_append, if_pos hm]
    · rw [if_neg (by simp [hm, e]), if_neg hm]
set_option maxRecDepth 100000 in
set_option maxHeartbeats 1000000 in
theorem place_any {v : Value} {l : List Int} {B : Nat} (w : World) (h : IS B w v l) (x : Int) :
    Calls Try.prog 52 #[v, .int .i64 x] w fun e w' => e = .returned (.int .i64 (plc l x)) ∧ w = w' := by
  obtain ⟨a, cap, rfl, h1, h2, h3⟩ := h.open
  obtain ⟨L, hL⟩ : ∃ L, L = l.length := ⟨_, rfl⟩
  have hLi : (L : Int) ≤ 9223372036854775807 := by unfold maxLen at h2; omega
  rw [← hL] at h3 ⊢
  have HC := Lib.hid h3; have HL := Lib.hid hL
  clear h h1 h2 h3 hL
  go_enter Try.func52, Try.ntmps52
  go_wp2_with fail
  go_loopw [5] (fun i wr => ∃ j : Nat, j ≤ L ∧ i = .int .i64 j ∧ w = wr ∧ x ∉ l.take j) (fun i _ => L - (intOf i).toNat)
  case atStart => exact ⟨0, Nat.zero_le _, rfl, rfl, by simp⟩
  case round =>
    obtain ⟨j, hj, rfl, rfl, hx⟩ := hrel
    by_cases hlt : j < L
    · obtain ⟨b, o, rfl, hb, hc⟩ := HC.out j hlt
      have hjl : j < l.length := by rw [← HL.out]; exact hlt
      obtain ⟨y, hy⟩ : ∃ y, y = l.getD j 0 := ⟨_, rfl⟩
      rw [← hy] at hc
      have hw : wrap64 ((j : Int) + 1) = ((j + 1 : Nat) : Int) := by unfold wrap64; omega
      by_cases he : y = x
      · have HE := Lib.hid (show plc l x = (j : Nat) by
          have hm : x ∈ l := by rw [← he, hy]; exact getD_mem hjl
          rw [plc_in hm]
          have e : l = l.take j ++ l.drop j := (List.take_append_drop j l).symm
          have e2 : l.drop j = x :: l.drop (j + 1) := by
            rw [List.drop_eq_getElem_cons hjl, ← he, hy, List.getD_eq_getElem?_getD, List.getElem?_eq_getElem hjl]; rfl
          rw [e, List.idxOf_append, if_neg hx, e2, List.idxOf_cons_self, List.length_take]
          omega)
        have hbe : (y == x) = true := by simpa using he
        clear hx hy he hw
        go_wp2_with fail
        go_ret
        exact ⟨Base.ret_int HE.out.symm, rfl⟩
      · have HX := Lib.hid (show x ∉ l.take (j + 1) by
          rw [takeI_snoc l hjl, ← hy]
          simp only [List.mem_append, List.mem_singleton, not_or]
          exact ⟨hx, fun e => he e.symm⟩)
        have hbe : (y == x) = false := by simpa using he
        have HLT := Lib.hid hlt
        clear hx hy he
        go_wp2_with fail
        exact ⟨⟨j + 1, HLT.out, by go_num, by simp, HX.out⟩, by have := HLT.out; simp [intOf]; omega⟩
    · have HE := Lib.hid (show plc l x = -1 by
        refine plc_out ?_
        rw [List.take_of_length_le (by rw [← HL.out]; omega)] at hx
        exact hx)
      clear hx
      go_wp2_with fail
      go_ret
      exact ⟨Base.ret_int HE.out.symm, rfl⟩
/-- Some of so many states, each once, the first one first. -/
def Pl (N : Nat) (l : List Int) : Prop := (0 < l.length ∧ l.getD 0 0 = 0) ∧ (∀ x ∈ l, 0 ≤ x ∧ x < (N : Int)) ∧ l.Nodup
/-- For each of so many states its place. -/
def plcL (N : Nat) (l : List Int) : List Int := (List.range N).map fun s => plc l ((s : Nat) : Int)
theorem plcL_len (N : Nat) (l : List Int) : (plcL N l).length = N := by simp [plcL]
theorem plcL_at {N s : Nat} (l : List Int) (h : s < N) : (plcL N l).getD s 0 = plc l ((s : Nat) : Int) := by simp [plcL, List.getD, h]
/-- The places lie in a block. -/
def Pc (w : World) (g N : Nat) (l : List Int) : Prop := ∃ C, Ar w g C 3 ∧ C.size = N ∧ ∀ s, s < N → C[s]? = some (.int .i64 (plc l ((s : Nat) : Int)))
theorem Pc.below {w w' : World} {g N : Nat} {l : List Int} (h : Pc w g N l) (hb : Below w.heap.size w w') : Pc w' g N l := by
  obtain ⟨C, h1, h2⟩ := h; exact ⟨C, h1.below hb, h2⟩
theorem Pc.first {w : World} {g N : Nat} (h : Ar w g (fillL N N).toArray 3) : Pc w g N [] :=
  ⟨_, h, by simp [fillL_len], fun s hs => by
    have := fillL_at (j := N) (n := N) (i := s) (Nat.le_refl _) hs
    simpa [plc] using this⟩
theorem Pc.cell {w : World} {g N s : Nat} {l : List Int} (h : Pc w g N l) (hs : s < N) : w.cell? ⟨g, s, none⟩ = some (.int .i64 (plc l ((s : Nat) : Int))) ∧ w.frozen? ⟨g, s, none⟩ = false := by
  obtain ⟨C, h1, h2, h3⟩ := h
  exact ⟨(Ar.at' h1 s).trans (h3 s hs), Ar.frozen h1 s⟩
theorem Pc.put {w : World} {g N k : Nat} {l : List Int} (h : Pc w g N l) (hk : k < N) (hn : ((k : Nat) : Int) ∉ l) : Pc (w.setCell ⟨g, k, none⟩ (.int .i64 (l.length : Nat))) g N (l ++ [((k : Nat) : Int)]) := by
  obtain ⟨C, h1, h2, h3⟩ := h
  refine ⟨_, h1.set k _, by simp [h2], fun s hs => ?_⟩
  rw [Array.getElem?_setIfInBounds, plc_snoc hn]
  by_cases e : k = s
  · subst e
    rw [if_pos rfl, if_pos (by rw [h2]; exact hs), if_pos rfl]
  · have e2 : ¬ ((s : Nat) : Int) = ((k : Nat) : Int) := by omega
    rw [if_neg e, h3 s hs, if_neg e2]
theorem Pc.is {w : World} {g N : Nat} {l : List Int} (h : Pc w g N l) (hN : N ≤ 65536) : IS w.heap.size w (.slice (some ⟨g, 0, none⟩) N N) (plcL N l) := by
  refine ⟨some ⟨g, 0, none⟩, N, by rw [List.length_map, plcL_len], by rw [List.length_map, plcL_len]; exact Nat.le_refl _, by unfold maxLen; omega, fun i hi => ?_⟩
  rw [List.length_map, plcL_len] at hi
  have hc := (h.cell hi).1
  refine ⟨g, 0, rfl, World.block_lt_of_cell? _ _ hc, ?_⟩
  rw [Nat.zero_add, hc]
  simp [plcL, hi]
theorem Pc.keep {w : World} {g k B : Nat} {W : World} (h : Below B W w) (hB : B ≤ g) (v : Value) : Below B W (w.setCell ⟨g, k, none⟩ v) :=
  h.trans ⟨rfl, rfl, rfl, by simp [World.setCell], fun j hj => Below.heap_setCell _ ⟨g, k, none⟩ _ j (fun e => by have e : j = g := e; omega)⟩
set_option maxRecDepth 100000 in
set_option maxHeartbeats 2000000 in
theorem placed_any {v : Value} {l : List Int} (w : World) (h : IS w.heap.size w v l) {N : Nat} (hN0 : 0 < N) (hN : N ≤ 65536) :
    Calls Try.prog 49 #[v, .int .i64 N] w fun e w' => ((¬ Pl N l ∧ e = .returned (.tuple #[.slice none 0 0, .bool false])) ∨ (Pl N l ∧ ∃ g : Nat, e = .returned (.tuple #[.slice (some ⟨g, 0, none⟩) N N, .bool true]) ∧ Pc w' g N l)) ∧ Below w.heap.size w w' := by
  obtain ⟨a, cap, rfl, h1, h2, h3⟩ := h.open
  have HH := Lib.hid h
  obtain ⟨L, hL⟩ : ∃ L, L = l.length := ⟨_, rfl⟩
  have hLi : (L : Int) ≤ 9223372036854775807 := by unfold maxLen at h2; omega
  rw [← hL] at h3 ⊢
  have HC := Lib.hid h3; have HL := Lib.hid hL
  clear h h1 h2 h3
  by_cases h0 : L = 0
  · have HP := Lib.hid (show ¬ Pl N l from fun p => by have := p.1.1; omega)
    clear hL
    subst h0
    go_enter Try.func49, Try.ntmps49
    go_wp2_with fail
    refine bodyPost_ret (results_tmp2 rfl _ _ _) rfl ?_
    exact ⟨.inl ⟨HP.out, rfl⟩, Below.refl _ _⟩
  obtain ⟨b, o, rfl, hb, hc⟩ := HC.out 0 (by omega)
  rw [Nat.add_zero] at hc
  have hl0 : ((L : Int) == 0) = false := by simp; omega
  by_cases hz : l.getD 0 0 = 0
  case neg =>
    have HP := Lib.hid (show ¬ Pl N l from fun p => hz p.1.2)
    obtain ⟨y, hy⟩ : ∃ y, y = l.getD 0 0 := ⟨_, rfl⟩
    rw [← hy] at hc hz
    have hyb : (y == 0) = false := by simpa using hz
    have hL1 : 0 < L := by omega
    clear hL h0 hy hz
    go_enter Try.func49, Try.ntmps49
    go_wp2_with fail
    refine bodyPost_ret (results_tmp2 rfl _ _ _) rfl ?_
    exact ⟨.inl ⟨HP.out, rfl⟩, Below.refl _ _⟩
  have HF := Lib.hid (show 0 < l.length ∧ l.getD 0 0 = 0 from ⟨by omega, hz⟩)
  rw [hz] at hc
  have hL1 : 0 < L := by omega
  have HNN := Lib.hid (show 0 < N ∧ N ≤ 65536 from ⟨hN0, hN⟩)
  have hNi : (N : Int) ≤ 65536 := by omega
  clear hL h0 hz
  go_enter Try.func49, Try.ntmps49
  go_wp2_with fail
  refine (Repeat_any (b := w.heap.size) (o := 0) (c := 1) _ ((World.cell?_alloc_new w #[.int .i64 (-1)] 3 0).trans rfl) hN0 hN).mono ?_
  rintro e w1 ⟨rfl, hA, hB⟩
  have HP0 := Lib.hid (Pc.first hA)
  have HB1 := Lib.hid (((Below.refl w.heap.size w).alloc (Nat.le_refl _) (.cells #[.int .i64 (-1)] 3)).trans (hB.mono (by rw [World.size_alloc]; omega)))
  obtain ⟨g, hg⟩ : ∃ g, g = (w.alloc (.cells #[.int .i64 (-1)] 3)).heap.size := ⟨_, rfl⟩
  have HG := Lib.hid (show w.heap.size ≤ g by rw [hg, World.size_alloc]; omega)
  rw [← hg] at HP0 ⊢
  clear hA hB hg hN0 hN
  go_wp2_with fail
  have HNX := Lib.hid (fun j (hj : j < l.length) (h : l.getD j 0 ∈ l.take j) (p : Pl N l) => by
    have e : l = l.take j ++ l.drop j := (List.take_append_drop j l).symm
    have hn := p.2.2
    rw [e, List.nodup_append] at hn
    refine hn.2.2 _ h (l.getD j 0) ?_ rfl
    rw [List.drop_eq_getElem_cons hj, List.getD_eq_getElem?_getD, List.getElem?_eq_getElem hj]
    exact List.mem_cons_self ..)
  clear hc hL1
  go_loopw [23] (fun i wr => ∃ j : Nat, j ≤ L ∧ i = .int .i64 j ∧ Pc wr g N (l.take j) ∧ (l.take j).Nodup ∧ (∀ x ∈ l.take j, 0 ≤ x ∧ x < (N : Int)) ∧ Below w.heap.size w wr) (fun i _ => L - (intOf i).toNat)
  case atStart => exact ⟨0, Nat.zero_le _, rfl, HP0.out, List.nodup_nil, (fun x hx => by cases hx), HB1.out⟩
  case round =>
    obtain ⟨j, hj, rfl, hP, hn, hlt, hB⟩ := hrel
    clear HP0 HB1
    by_cases hjL : j < L
    · obtain ⟨b', o', e, hb', hc'⟩ := HC.out j hjL
      simp only [Option.some.injEq, Addr.mk.injEq, and_true] at e
      obtain ⟨rfl, rfl⟩ := e
      have c1 := (hB.cell (p := ⟨b, o + j, none⟩) hb').trans hc'
      have hjl : j < l.length := by rw [← HL.out]; exact hjL
      have HTK := Lib.hid (takeI_snoc l hjl)
      have HMEM := Lib.hid (show l.getD j 0 ∈ l from getD_mem hjl)
      have HDUP := Lib.hid (HNX.out j hjl)
      have HLJ := Lib.hid (show (l.take j).length = j by rw [List.length_take]; omega)
      obtain ⟨x, hx⟩ : ∃ x, x = l.getD j 0 := ⟨_, rfl⟩
      rw [← hx] at c1 HTK HMEM HDUP
      have HW := Lib.hid (within_any x N wr)
      have HJL := Lib.hid hjL; have HP := Lib.hid hP; have HN := Lib.hid hn; have HLT := Lib.hid hlt; have HB := Lib.hid hB
      clear hb' hc' hx hP hn hlt hB hjl
      by_cases hw : 0 ≤ x ∧ x < (N : Int)
      case neg =>
        have HPL := Lib.hid (show ¬ Pl N l from fun p => hw (p.2.1 x HMEM.out))
        rw [decide_eq_false hw] at HW
        clear hw
        go_wp2_with fail
        refine HW.out.mono ?_
        rintro e w2 ⟨rfl, rfl⟩
        go_wp2_with fail
        refine bodyPost_ret (results_tmp2 rfl _ _ _) rfl ?_
        exact ⟨.inl ⟨HPL.out, rfl⟩, HB.out⟩
      rw [decide_eq_true hw] at HW
      obtain ⟨k, rfl⟩ : ∃ k : Nat, x = k := ⟨x.toNat, by omega⟩
      have hkN : k < N := by omega
      have HW2 := Lib.hid hw
      obtain ⟨c2, c3⟩ := HP.out.cell hkN
      have hk0 : ¬ (k : Int) < 0 := by omega
      clear hw
      by_cases hm : ((k : Nat) : Int) ∈ l.take j
      · have HPL := Lib.hid (HDUP.out hm)
        rw [plc_in hm] at c2
        obtain ⟨q, hq⟩ : ∃ q, q = (l.take j).idxOf ((k : Nat) : Int) := ⟨_, rfl⟩
        rw [← hq] at c2
        have hqb : ((q : Int) == -1) = false := by simp <;> omega
        clear hm hq
        go_wp2_with fail
        refine HW.out.mono ?_
        rintro e w2 ⟨rfl, rfl⟩
        go_wp2_with fail
        refine bodyPost_ret (results_tmp2 rfl _ _ _) rfl ?_
        exact ⟨.inl ⟨HPL.out, rfl⟩, HB.out⟩
      · rw [plc_out hm] at c2
        have HM := Lib.hid hm
        clear hm
        go_wp2_with fail
        refine HW.out.mono ?_
        rintro e w2 ⟨rfl, rfl⟩
        go_wp2_with fail
        refine ⟨⟨j + 1, HJL.out, by go_num, ?_, ?_, ?_, Pc.keep HB.out HG.out _⟩, by have := HJL.out; simp [intOf]; omega⟩
        · rw [HTK.out]
          have := HP.out.put hkN HM.out
          rw [HLJ.out] at this
          exact this
        · rw [HTK.out, List.nodup_append]
          exact ⟨HN.out, by simp, fun y hy z hz e => HM.out (by rw [List.mem_singleton] at hz; rw [← hz, ← e]; exact hy)⟩
        · rw [HTK.out]
          intro y hy
          rcases List.mem_append.1 hy with hy | hy
          · exact HLT.out y hy
          · rw [List.mem_singleton.1 hy]; exact HW2.out
    · have hjl : l.take j = l := List.take_of_length_le (by rw [← HL.out]; omega)
      rw [hjl] at hP hn hlt
      have HPL := Lib.hid (show Pl N l from ⟨HF.out, hlt, hn⟩)
      have HP := Lib.hid hP; have HB := Lib.hid hB
      clear hP hn hlt hB hjl
      go_wp2_with fail
      refine bodyPost_ret (results_tmp2 rfl _ _ _) rfl ?_
      exact ⟨.inr ⟨HPL.out, _, rfl, HP.out⟩, HB.out⟩
/-- A row by the places of its states. -/
def byP (pl r : List Int) : List Int := r.map fun x => pl.getD x.toNat 0
theorem byP_len (pl r : List Int) : (byP pl r).length = r.length := by simp [byP]
theorem byP_at (pl : List Int) {r : List Int} {i : Nat} (h : i < r.length) : (byP pl r).getD i 0 = pl.getD (r.getD i 0).toNat 0 := by
  unfold byP; rw [getD_map (d := 0) h]
/-- So many cells of a row have been made. -/
def Rw (w : World) (g R : Nat) (M : List Int) (j : Nat) : Prop := ∃ C, Ar w g C 3 ∧ C.size = R ∧ ∀ i, i < j → C[i]? = some (.int .i64 (M.getD i 0))
theorem Rw.cell {w : World} {g R j i : Nat} {M : List Int} (h : Rw w g R M j) (hi : i < R) : (∃ v, w.cell? ⟨g, i, none⟩ = some v) ∧ w.frozen? ⟨g, i, none⟩ = false := by
  obtain ⟨C, h1, h2, h3⟩ := h
  exact ⟨⟨C[i]'(by omega), (Ar.at' h1 i).trans (Array.getElem?_eq_getElem (by omega))⟩, Ar.frozen h1 i⟩
theorem Rw.put {w : World} {g R j : Nat} {M : List Int} (h : Rw w g R M j) (hj : j < R) : Rw (w.setCell ⟨g, j, none⟩ (.int .i64 (M.getD j 0))) g R M (j + 1) := by
  obtain ⟨C, h1, h2, h3⟩ := h
  refine ⟨_, h1.set j _, by simp [h2], fun i hi => ?_⟩
  rw [Array.getElem?_setIfInBounds]
  by_cases e : j = i
  · subst e
    rw [if_pos rfl, if_pos (by rw [h2]; exact hj)]
  · rw [if_neg e, h3 i (by omega)]
theorem Rw.is {w : World} {g : Nat} {M : List Int} (h : Rw w g M.length M M.length) (hN : M.length ≤ 65536) : IS w.heap.size w (.slice (some ⟨g, 0, none⟩) M.length M.length) M := by
  obtain ⟨C, h1, h2, h3⟩ := h
  refine ⟨some ⟨g, 0, none⟩, M.length, by rw [List.length_map], by rw [List.length_map]; exact Nat.le_refl _, by unfold maxLen; omega, fun i hi => ?_⟩
  rw [List.length_map] at hi
  refine ⟨g, 0, rfl, h1.lt, ?_⟩
  rw [Nat.zero_add, Ar.at' h1 i, h3 i hi]
  simp [List.getD, hi]
set_option maxRecDepth 100000 in
set_option maxHeartbeats 2000000 in
theorem turned_any {v vp : Value} {r pl : List Int} (w : World) (h : IS w.heap.size w v r) (hp : IS w.heap.size w vp pl) (hr : ∀ i, i < r.length → 0 ≤ r.getD i 0 ∧ r.getD i 0 < (pl.length : Int)) (hR : r.length ≤ 65536) (hP : pl.length ≤ 65536) :
    Calls Try.prog 51 #[v, vp] w fun e w' => ∃ u : Value, e = .returned (.tuple #[u, .bool (!decide ((-1 : Int) ∈ byP pl r))]) ∧ (∃ g : Nat, w.heap.size ≤ g ∧ u = .slice (some ⟨g, 0, none⟩) (byP pl r).length (byP pl r).length ∧ Rw w' g (byP pl r).length (byP pl r) (byP pl r).length) ∧ Below w.heap.size w w' := by
  obtain ⟨a, cap, rfl, h1, h2, h3⟩ := h.open
  obtain ⟨a', cap', rfl, k1, k2, k3⟩ := hp.open
  obtain ⟨M, hM⟩ : ∃ M, M = byP pl r := ⟨_, rfl⟩
  have hMl : M.length = r.length := by rw [hM, byP_len]
  have HMA := Lib.hid (fun i (hi : i < r.length) => show M.getD i 0 = pl.getD (r.getD i 0).toNat 0 by rw [hM]; exact byP_at pl hi)
  rw [← hM]
  obtain ⟨R, hRr⟩ : ∃ R, R = r.length := ⟨_, rfl⟩
  obtain ⟨Q, hQ⟩ : ∃ Q, Q = pl.length := ⟨_, rfl⟩
  have hmk : ∀ w, (Instr.makeSlice 24 (.int .i64 (R : Nat)) (.int .i64 (R : Nat))).run Try.prog w = .ok (.slice (some ⟨w.heap.size, 0, none⟩) R R) (w.alloc (.cells (madeCells #[.int .i64 0] R) 3)) := fun w =>
    run_make_row' 24 3 (.int .i64 0) 8 Try.underlying24 info3 rfl .i64 .i64 R (by omega) (by omega) w
  have hRi : (R : Int) ≤ 65536 := by omega
  have hQi : (Q : Int) ≤ 65536 := by omega
  rw [← hRr] at h3 hMl HMA hr ⊢
  rw [← hQ] at k3 hr ⊢
  have HC := Lib.hid h3; have HD := Lib.hid k3; have HR := Lib.hid hr; have HML := Lib.hid hMl; have HRR := Lib.hid hRr
  have HM65 := Lib.hid (show R ≤ 65536 by omega)
  have HS0 := Lib.hid (show Rw (w.alloc (.cells (madeCells #[.int .i64 0] R) 3)) w.heap.size R M 0 from ⟨_, Ar.new _ _ _, by rw [made_fill]; simp [fillL_len], fun i hi => by omega⟩)
  have HB0 := Lib.hid (show Below w.heap.size w (w.alloc (.cells (madeCells #[.int .i64 0] R) 3)) from (Below.refl _ _).alloc (Nat.le_refl _) _)
  clear h hp h1 h2 h3 k1 k2 k3 hM hMl hr hR hP hQ hRr
  go_enter Try.func51, Try.ntmps51
  go_wp2_with fail
  obtain ⟨g, hg⟩ : ∃ g, g = w.heap.size := ⟨_, rfl⟩
  have HG := Lib.hid hg
  generalize (w.alloc (.cells (madeCells #[.int .i64 0] R) 3)) = W0 at *
  rw [← hg] at HS0 ⊢
  clear hmk hg
  go_loopw [14] (fun i wr => ∃ j : Nat, j ≤ R ∧ i = .int .i64 j ∧ Rw wr g R M j ∧ Below w.heap.size w wr) (fun i _ => R - (intOf i).toNat)
  case atStart => exact ⟨0, Nat.zero_le _, rfl, HS0.out, by have := HB0.out; rw [← HG.out] at this ⊢; exact this⟩
  case round =>
    obtain ⟨j, hj, rfl, hS, hB⟩ := hrel
    clear HS0 HB0
    by_cases hjR : j < R
    · obtain ⟨b, o, rfl, hb, hc⟩ := HC.out j hjR
      obtain ⟨y0, y1⟩ := HR.out j hjR
      have hma := HMA.out j hjR
      obtain ⟨k, hk⟩ : ∃ k : Nat, r.getD j 0 = k := ⟨(r.getD j 0).toNat, by omega⟩
      rw [hk] at hc y1 hma
      have hkQ : k < Q := by omega
      obtain ⟨b', o', rfl, hb', hc'⟩ := HD.out k hkQ
      rw [show ((k : Nat) : Int).toNat = k by omega] at hma
      rw [← hma] at hc'
      have c1 := (hB.cell (p := ⟨b, o + j, none⟩) hb).trans hc
      have c2 := (hB.cell (p := ⟨b', o' + k, none⟩) hb').trans hc'
      obtain ⟨⟨x, c3⟩, c4⟩ := hS.cell hjR
      have HS := Lib.hid hS; have HB := Lib.hid hB; have HJ := Lib.hid hjR
      have HGG := Lib.hid (show w.heap.size ≤ g by rw [HG.out]; exact Nat.le_refl _)
      obtain ⟨z, hz⟩ : ∃ z, z = M.getD j 0 := ⟨_, rfl⟩
      have HP := Lib.hid (hS.put hjR)
      rw [← hz] at c2 HP
      clear hma hk y0 y1 hb hc hb' hc' hS hB hz
      go_wp2_with fail
      exact ⟨⟨j + 1, HJ.out, by go_num, HP.out, Pc.keep HB.out HGG.out _⟩, by have := HJ.out; simp [intOf]; omega⟩
    · obtain rfl : j = R := by omega
      have HB := Lib.hid hB
      have his : IS wr.heap.size wr (.slice (some ⟨g, 0, none⟩) j j) M := by
        have h1 : Rw wr g M.length M M.length := by rw [HML.out]; exact hS
        have := h1.is (by rw [HML.out]; exact HM65.out)
        rw [HML.out] at this; exact this
      have HIS := Lib.hid (show ∃ g' : Nat, w.heap.size ≤ g' ∧ Value.slice (some ⟨g, 0, none⟩) j j = .slice (some ⟨g', 0, none⟩) M.length M.length ∧ Rw wr g' M.length M M.length from ⟨g, by rw [HG.out]; exact Nat.le_refl _, by rw [HML.out], by rw [HML.out]; exact hS⟩)
      have HCC := Lib.hid (ContainsI_any his (-1))
      clear hS hB his
      go_wp2_with fail
      refine HCC.out.mono ?_
      rintro e w2 ⟨rfl, rfl⟩
      go_wp2_with fail
      refine bodyPost_ret (results_tmp2 rfl _ _ _) rfl ?_
      exact ⟨_, rfl, HIS.out, HB.out⟩
end Go.Proofs.Ytkghnjgioijgpaa.DfaW
