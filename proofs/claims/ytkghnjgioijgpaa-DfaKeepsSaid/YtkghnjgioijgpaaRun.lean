/- Machines that may be, in natural numbers; walks of To, Run, Tell, Name. -/
import Derived.Test.YtkghnjgioijgpaaRightD
namespace Go.Proofs.Ytkghnjgioijgpaa.DfaW
set_option linter.unusedVariables false
open Go.RowKit Go.Maps Go.Proofs.Ytkghnjgioijgpaa.PartM Go.Proofs.Ytkghnjgioijgpaa.PartW

/-- Where a row leads from a state, by a class. -/
def at2 (nx : List (List Int)) (s c : Nat) : Nat := ((nx.getD s []).getD c 0).toNat
/-- The state behind, by a byte. -/
def step (m : Mc) (s : Nat) (b : Nat) : Nat := at2 m.nx s (m.of b)
def run (m : Mc) (bs : List Nat) : Nat := bs.foldl (step m) 0
def lab (m : Mc) (s : Nat) : Nat := (m.lb.getD s 0).toNat
/-- The name of a label. -/
def nameOf (m : Mc) (k : Nat) : ByteArray := if k = 0 then ByteArray.empty else m.nm.getD (k - 1) ByteArray.empty
theorem Ok.len {m : Mc} (h : Ok m) : m.nx.length = m.lb.length := by have := h.rws.1; omega
theorem Ok.row {m : Mc} (h : Ok m) {s : Nat} (hs : s < m.lb.length) : ((m.nx.getD s []).length : Int) = m.wd := (h.rws.2 s (by rw [h.len]; exact hs)).1
theorem Ok.cell {m : Mc} (h : Ok m) {s c : Nat} (hs : s < m.lb.length) (hc : (c : Int) < m.wd) : (m.nx.getD s []).getD c 0 = (at2 m.nx s c : Nat) ∧ at2 m.nx s c < m.lb.length := by
  have h1 := h.row hs
  have h2 := (h.rws.2 s (by rw [h.len]; exact hs)).2 c (by omega)
  unfold at2
  omega
theorem Ok.cls' {m : Mc} (h : Ok m) {b : Nat} (hb : b < 256) : (m.of b : Int) < m.wd := by
  have h1 := (sameA_iff _ _).1 h.cls b hb
  rw [h1, h.wd]
  have := nm_lt (byKey_eqv m.of) hb
  omega
theorem Ok.step {m : Mc} (h : Ok m) {s b : Nat} (hs : s < m.lb.length) (hb : b < 256) : (m.nx.getD s []).getD (m.of b) 0 = (step m s b : Nat) ∧ step m s b < m.lb.length := h.cell hs (h.cls' hb)
theorem Ok.zero {m : Mc} (h : Ok m) : 0 < m.lb.length := h.lbs.1
theorem run_lt {m : Mc} (h : Ok m) {bs : List Nat} (hb : ∀ b ∈ bs, b < 256) : ∀ s, s < m.lb.length → bs.foldl (step m) s < m.lb.length := by
  induction bs with
  | nil => intro s hs; exact hs
  | cons b bs ih =>
    intro s hs
    exact ih (fun b' hb' => hb b' (List.mem_cons_of_mem _ hb')) _ (h.step hs (hb b (List.mem_cons_self ..))).2
theorem Ok.lab {m : Mc} (h : Ok m) {s : Nat} (hs : s < m.lb.length) : m.lb.getD s 0 = (lab m s : Nat) ∧ lab m s ≤ m.nm.length := by
  have := h.lbs.2.2 s hs
  unfold DfaW.lab
  omega

/-- What is read of one step, at whatever world that has grown out of W0. -/
theorem read_step {W0 W : World} {b : Nat} {C : Array Value} {m : Mc} (hx : Bx W0 b C m) (hk : Ok m) (hb : Below W0.heap.size W0 W) {s c : Nat} (hs : s < m.lb.length) (hc : c < 256) :
    ∃ (b1 o1 c1 b2 o2 c2 n : Nat), W.cell? ⟨b, 257, none⟩ = some (.slice (some ⟨b1, o1, none⟩) m.lb.length c1) ∧ W.cell? ⟨b1, o1 + s, none⟩ = some (.slice (some ⟨b2, o2, none⟩) n c2) ∧ m.of c < n ∧ n ≤ 256 ∧
      W.cell? ⟨b, c, none⟩ = some (.int .u8 (m.of c : Nat)) ∧ W.cell? ⟨b2, o2 + m.of c, none⟩ = some (.int .i64 (step m s c : Nat)) := by
  obtain ⟨v1, x1, hv1⟩ := hx.nx
  obtain ⟨a1, c1, rfl, p1, p2, p3⟩ := hv1.open
  obtain ⟨b1, o1, vi, rfl, h1, h2, h3⟩ := p3 s (by rw [hk.len]; exact hs)
  obtain ⟨ar, cr, rfl, q1, q2, q3⟩ := h3.open
  have hcl := hk.cls' hc
  have hrow := hk.row hs
  obtain ⟨b2, o2, rfl, g1, g2⟩ := q3 (m.of c) (by omega)
  have hst := (hk.step hs hc).1
  have hbl := hx.ar.lt
  refine ⟨b1, o1, c1, b2, o2, cr, _, ?_, (hb.cell (p := ⟨b1, _, none⟩) h1).trans h2, by omega, ?_, ?_, ?_⟩
  · rw [← hk.len]; exact (hb.cell (p := ⟨b, _, none⟩) hbl).trans x1
  · have := rk_le (E := byKey m.of) 256
    have := hk.wd
    omega
  · exact ((hb.cell (p := ⟨b, _, none⟩) hbl).trans (Ar.at' hx.ar c)).trans (hx.is.of' c hc)
  · rw [← hst]; exact (hb.cell (p := ⟨b2, _, none⟩) g1).trans g2
open Classical in
/-- What is told of a step, a word's end, its label, its name. -/
noncomputable def toV (m : Mc) (s : Int) (c : Nat) : Int := if Ok m ∧ 0 ≤ s ∧ s < (m.lb.length : Int) then (step m s.toNat c : Int) else -1
open Classical in
noncomputable def runV (m : Mc) (bs : List Nat) : Int := if Ok m then (run m bs : Int) else -1
open Classical in
noncomputable def tellV (m : Mc) (bs : List Nat) : Int := if Ok m then (lab m (run m bs) : Int) else 0
open Classical in
noncomputable def nameV (m : Mc) (bs : List Nat) : ByteArray := if Ok m then nameOf m (lab m (run m bs)) else ByteArray.empty
theorem toV_no {m : Mc} {s : Int} {c : Nat} (h : ¬ Ok m) : toV m s c = -1 := if_neg fun x => h x.1
theorem toV_out {m : Mc} {s : Int} {c : Nat} (h : ¬ (0 ≤ s ∧ s < (m.lb.length : Int))) : toV m s c = -1 := if_neg fun x => h x.2
theorem toV_yes {m : Mc} {s c : Nat} (h : Ok m) (hs : s < m.lb.length) : toV m s c = (step m s c : Nat) := if_pos ⟨h, by omega, by omega⟩
theorem runV_no {m : Mc} {bs : List Nat} (h : ¬ Ok m) : runV m bs = -1 := if_neg h
theorem runV_yes {m : Mc} {bs : List Nat} (h : Ok m) : runV m bs = (run m bs : Nat) := if_pos h
theorem tellV_no {m : Mc} {bs : List Nat} (h : ¬ Ok m) : tellV m bs = 0 := if_neg h
theorem tellV_yes {m : Mc} {bs : List Nat} (h : Ok m) : tellV m bs = (lab m (run m bs) : Nat) := if_pos h
theorem nameV_no {m : Mc} {bs : List Nat} (h : ¬ Ok m) : nameV m bs = ByteArray.empty := if_neg h
theorem nameV_yes {m : Mc} {bs : List Nat} (h : Ok m) : nameV m bs = nameOf m (lab m (run m bs)) := if_pos h

set_option maxRecDepth 100000 in
set_option maxHeartbeats 2000000 in
theorem To_any {C : Array Value} {m : Mc} (w : World) (h : IsM w.heap.size w C m) (s : Int) (c : Nat) (hc : c < 256) :
    Calls Try.prog 14 #[.agg C, .int .i64 s, .int .u8 c] w fun e w' => e = .returned (.int .i64 (toV m s c)) ∧ Below w.heap.size w w' := by
  have hx := Bx.new h
  have hb0 : Below w.heap.size w (w.alloc (.cells C 27)) := (Below.refl _ _).alloc (Nat.le_refl _) _
  have HR := Lib.hid (RightD_any (w.alloc (.cells C 27)) hx.is)
  have HX := Lib.hid hx; have HB0 := Lib.hid hb0
  clear h hx hb0
  go_enter Try.func14, Try.ntmps14
  go_wp2_with (refine wpList_load_dfa rfl (.tmp 3) rfl rfl HX.out ?_)
  refine HR.out.mono ?_
  rintro e w1 ⟨hs, hb1⟩
  have HX1 := Lib.hid (HX.out.below hb1)
  have HB1 := Lib.hid (HB0.out.trans (hb1.mono HB0.out.size))
  rcases hs.elim with ⟨rfl, hn⟩ | ⟨rfl, hn⟩
  · have HK := Lib.hid hn
    clear hs hn hb1
    obtain ⟨v1, x1, hv1⟩ := HX1.out.nx
    obtain ⟨a1, c1, rfl, _, _, _⟩ := hv1.open
    rw [HK.out.len] at x1
    obtain ⟨n, hn⟩ : ∃ n, n = m.lb.length := ⟨_, rfl⟩
    have HN := Lib.hid hn
    rw [← hn] at x1
    have HW := Lib.hid (fun w => within_any s n w)
    have hn2 : (n : Int) ≤ 65536 := by have := HK.out.lbs.2.1; omega
    clear hv1
    by_cases hr : 0 ≤ s ∧ s < (n : Int)
    · obtain ⟨k, rfl⟩ : ∃ k : Nat, s = k := ⟨s.toNat, by omega⟩
      have hkn : k < n := by omega
      have HD := Lib.hid (decide_eq_true hr)
      have HI := Lib.hid (toV_yes (c := c) HK.out (show k < m.lb.length by rw [← hn]; exact hkn))
      clear hr hn
      go_wp2_with fail
      refine (HW.out _).mono ?_
      rintro e w2 ⟨rfl, rfl⟩
      rw [HD.out]
      clear x1
      obtain ⟨b1, o1, c1, b2, o2, c2, r, y1, y2, y3, y3', y4, y5⟩ := read_step HX1.out HK.out (Below.refl _ _).drew (show k < m.lb.length by rw [← HN.out]; exact hkn) hc
      rw [← HN.out] at y1
      obtain ⟨t, ht⟩ : ∃ t, t = step m k c := ⟨_, rfl⟩
      obtain ⟨f, hf⟩ : ∃ f, f = m.of c := ⟨_, rfl⟩
      rw [← ht] at y5 HI
      rw [← hf] at y3 y4 y5
      have hc2 : ¬ (256 : Int) ≤ (c : Int) := by omega
      clear ht hf
      go_wp2_with fail
      go_region
      go_wp2_with fail
      go_ret
      exact ⟨Base.ret_int HI.out.symm, HB1.out.drew⟩
    · have HD := Lib.hid (decide_eq_false hr)
      have HI := Lib.hid (toV_out (c := c) (show ¬ (0 ≤ s ∧ s < (m.lb.length : Int)) by rw [← hn]; exact hr))
      clear hr hn
      go_wp2_with fail
      refine (HW.out _).mono ?_
      rintro e w2 ⟨rfl, rfl⟩
      rw [HD.out]
      go_wp2_with fail
      go_ret
      exact ⟨Base.ret_int HI.out.symm, HB1.out⟩
  · have HK := Lib.hid (toV_no (s := s) (c := c) hn)
    clear hs hn hb1
    go_wp2_with fail
    go_ret
    exact ⟨Base.ret_int HK.out.symm, HB1.out⟩
/-- A slice of bytes. -/
def BS (B : Nat) (w : World) (v : Value) (l : List Nat) : Prop := VS B w v (l.map fun (b : Nat) => Value.int .u8 (b : Int)) ∧ ∀ b ∈ l, b < 256
theorem BS.open {B : Nat} {w : World} {v : Value} {l : List Nat} (h : BS B w v l) : ∃ a cap, v = .slice a l.length cap ∧ l.length ≤ cap ∧ cap ≤ maxLen ∧
    ∀ i, i < l.length → ∃ b o : Nat, a = some ⟨b, o, none⟩ ∧ b < B ∧ w.cell? ⟨b, o + i, none⟩ = some (.int .u8 (l.getD i 0 : Nat)) := by
  obtain ⟨a, cap, h1, h2, h3, h4⟩ := h.1
  simp only [List.length_map] at h1 h2 h4
  exact ⟨a, cap, h1, h2, h3, fun i hi => by obtain ⟨b, o, h5, h6, h7⟩ := h4 i hi; exact ⟨b, o, h5, h6, by rw [h7]; simp [List.getD, hi]⟩⟩
theorem BS.below {B : Nat} {w w' : World} {v : Value} {l : List Nat} (h : BS B w v l) (hb : Below B w w') : BS B w' v l := ⟨h.1.below hb, h.2⟩
theorem BS.up {B B' : Nat} {w : World} {v : Value} {l : List Nat} (h : BS B w v l) (hb : B ≤ B') : BS B' w v l := ⟨h.1.up hb, h.2⟩
theorem BS.next {w w' : World} {v : Value} {l : List Nat} (h : BS w.heap.size w v l) (hb : Below w.heap.size w w') : BS w'.heap.size w' v l := (h.below hb).up hb.size
theorem BS.lt {B : Nat} {w : World} {v : Value} {l : List Nat} (h : BS B w v l) {i : Nat} (hi : i < l.length) : l.getD i 0 < 256 := by
  rw [List.getD_eq_getElem?_getD, List.getElem?_eq_getElem hi]
  exact h.2 _ (List.getElem_mem hi)
theorem take_snoc (l : List Nat) {j : Nat} (hj : j < l.length) : l.take (j + 1) = l.take j ++ [l.getD j 0] := by
  rw [List.take_succ_eq_append_getElem hj, List.getD_eq_getElem?_getD, List.getElem?_eq_getElem hj]; rfl
theorem run_snoc (m : Mc) (bs : List Nat) (b : Nat) : run m (bs ++ [b]) = step m (run m bs) b := by simp [run]

set_option maxRecDepth 100000 in
set_option maxHeartbeats 2000000 in
theorem Run_any {C : Array Value} {m : Mc} {v : Value} {l : List Nat} (w : World) (h : IsM w.heap.size w C m) (hv : BS w.heap.size w v l) :
    Calls Try.prog 13 #[.agg C, v] w fun e w' => e = .returned (.int .i64 (runV m l)) ∧ Below w.heap.size w w' := by
  have hx := Bx.new h
  have hb0 : Below w.heap.size w (w.alloc (.cells C 27)) := (Below.refl _ _).alloc (Nat.le_refl _) _
  have HR := Lib.hid (RightD_any (w.alloc (.cells C 27)) hx.is)
  have HLT := Lib.hid (fun i (hi : i < l.length) => hv.lt hi)
  have HL2 := Lib.hid hv.2
  obtain ⟨a, cap, rfl, g1, g2, g3⟩ := hv.open
  have HG := Lib.hid g3
  obtain ⟨L, hL⟩ : ∃ L, L = l.length := ⟨_, rfl⟩
  have hmL : (L : Int) ≤ 9223372036854775807 := by unfold maxLen at g2; omega
  have HLL := Lib.hid hL
  rw [← hL] at HG HLT ⊢
  have HX := Lib.hid hx; have HB0 := Lib.hid hb0
  clear h hx hb0 hv g1 g2 g3 hL
  go_enter Try.func13, Try.ntmps13
  go_wp2_with (refine wpList_load_dfa rfl (.tmp 2) rfl rfl HX.out ?_)
  refine HR.out.mono ?_
  rintro e w1 ⟨hs, hb1⟩
  have HX1 := Lib.hid (HX.out.below hb1)
  have HB1 := Lib.hid (HB0.out.trans (hb1.mono HB0.out.size))
  rcases hs.elim with ⟨rfl, hn⟩ | ⟨rfl, hn⟩
  · have HK := Lib.hid hn
    clear hs hn hb1
    obtain ⟨n, hn⟩ : ∃ n, n = m.lb.length := ⟨_, rfl⟩
    have HN := Lib.hid hn
    have hn2 : (n : Int) ≤ 65536 := by have := HK.out.lbs.2.1; omega
    clear hn
    go_wp2_with fail
    go_loopw [5, 13] (fun s i wr => ∃ j : Nat, j ≤ L ∧ i = .int .i64 j ∧ s = .int .i64 (run m (l.take j) : Nat) ∧ Below w1.heap.size w1 wr) (fun _ i _ => L - (intOf i).toNat)
    case atStart => exact ⟨0, Nat.zero_le _, rfl, rfl, Below.refl _ _⟩
    case round =>
      obtain ⟨j, hj, rfl, rfl, hb⟩ := hrel
      by_cases hlt : j < L
      · obtain ⟨b, o, rfl, hb1, hc1⟩ := HG.out j hlt
        have hbw := HB1.out.trans (hb.mono HB1.out.size)
        have c1 := (hbw.cell (p := ⟨b, o + j, none⟩) hb1).trans hc1
        have hrl : run m (l.take j) < n := by rw [HN.out]; exact run_lt HK.out (fun b hb => HL2.out b (List.mem_of_mem_take hb)) 0 HK.out.zero
        have HS := Lib.hid (show run m (l.take (j + 1)) = step m (run m (l.take j)) (l.getD j 0) by rw [take_snoc l (by rw [← HLL.out]; exact hlt), run_snoc])
        obtain ⟨s, hs⟩ : ∃ s, s = run m (l.take j) := ⟨_, rfl⟩
        have hc := HLT.out j hlt
        obtain ⟨c, hcc⟩ : ∃ c, c = l.getD j 0 := ⟨_, rfl⟩
        rw [← hcc] at c1 hc HS
        rw [← hs] at hrl HS ⊢
        obtain ⟨b1, o1, c1', b2, o2, c2, r, y1, y2, y3, y3', y4, y5⟩ := read_step HX1.out HK.out hb.drew (show s < m.lb.length by rw [← HN.out]; exact hrl) hc
        rw [← HN.out] at y1
        obtain ⟨t, ht⟩ : ∃ t, t = step m s c := ⟨_, rfl⟩
        obtain ⟨f, hf⟩ : ∃ f, f = m.of c := ⟨_, rfl⟩
        rw [← ht] at y5 HS
        rw [← hf] at y3 y4 y5
        have hc2 : ¬ (256 : Int) ≤ (c : Int) := by omega
        have HB := Lib.hid hb
        have HLJ := Lib.hid hlt
        clear ht hf hs hcc hb hb1 hc1 hbw
        go_wp2_with fail
        go_region
        go_wp2_with fail
        exact ⟨⟨j + 1, HLJ.out, by go_num, by rw [HS.out], HB.out.drew⟩, by have := HLJ.out; simp [intOf]; omega⟩
      · have hjL : j = L := by omega
        have HE := Lib.hid (show runV m l = (run m (l.take j) : Nat) by rw [runV_yes HK.out, hjL, HLL.out, List.take_length])
        have HB := Lib.hid (HB1.out.trans (hb.mono HB1.out.size))
        clear hjL hb
        go_wp2_with fail
        go_ret
        exact ⟨Base.ret_int HE.out.symm, HB.out⟩
  · have HK := Lib.hid (runV_no (bs := l) hn)
    clear hs hn hb1
    go_wp2_with fail
    go_ret
    exact ⟨Base.ret_int HK.out.symm, HB1.out⟩
end Go.Proofs.Ytkghnjgioijgpaa.DfaW
