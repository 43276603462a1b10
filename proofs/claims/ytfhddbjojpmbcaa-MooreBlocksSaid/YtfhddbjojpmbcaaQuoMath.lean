/- Blocks of states: normal, joined, finer, stable; the machine of blocks; bytes that are not told apart; what these tell. -/
import Derived.Test.YtfhddbjojpmbcaaMach
namespace Go.Proofs.Ytfhddbjojpmbcaa.DfaW
set_option linter.unusedVariables false
open Go.RowKit Go.Maps Go.Proofs.Ytfhddbjojpmbcaa.PartM Go.Proofs.Ytfhddbjojpmbcaa.PartW
/-- States in one block; in one block of both. -/
def blkE (l : List Int) : Nat → Nat → Bool := byKey fun i => l.getD i 0
def blkE2 (a b : List Int) : Nat → Nat → Bool := byKey fun i => (a.getD i 0, b.getD i 0)
theorem blkE_iff {l : List Int} {i j : Nat} : blkE l i j = true ↔ l.getD i 0 = l.getD j 0 := by simp [blkE, byKey]
theorem blkE2_iff {a b : List Int} {i j : Nat} : blkE2 a b i j = true ↔ a.getD i 0 = a.getD j 0 ∧ b.getD i 0 = b.getD j 0 := by simp [blkE2, byKey]
theorem blkE_eqv (l : List Int) : Eqv (blkE l) := byKey_eqv _
theorem blkE2_eqv (a b : List Int) : Eqv (blkE2 a b) := byKey_eqv _
/-- The numbers of the first n, by E. -/
def numsTo (E : Nat → Nat → Bool) (n : Nat) : List Int := (List.range n).map fun i => (nm E i : Int)
def normV (l : List Int) : List Int := numsTo (blkE l) l.length
def joinV (a b : List Int) : List Int := numsTo (blkE2 a b) (min a.length b.length)
def FinerP (a b : List Int) : Prop := a.length = b.length ∧ ∀ i j, i < a.length → j < a.length → a.getD i 0 = a.getD j 0 → b.getD i 0 = b.getD j 0
def StableP (m : Mc) (l : List Int) : Prop := Ok m ∧ l.length = m.lb.length ∧ ∀ s t, s < l.length → t < l.length → l.getD s 0 = l.getD t 0 → m.lb.getD s 0 = m.lb.getD t 0 ∧ ∀ k : Nat, (k : Int) < m.wd → l.getD (at2 m.nx s k) 0 = l.getD (at2 m.nx t k) 0
theorem numsTo_len (E : Nat → Nat → Bool) (n : Nat) : (numsTo E n).length = n := by simp [numsTo]
theorem numsTo_at (E : Nat → Nat → Bool) {n i : Nat} (hi : i < n) : (numsTo E n).getD i 0 = (nm E i : Nat) := by simp [numsTo, List.getD, hi]
theorem numsTo_succ (E : Nat → Nat → Bool) (n : Nat) : numsTo E (n + 1) = numsTo E n ++ [(nm E n : Int)] := by unfold numsTo; rw [List.range_succ, List.map_append]; rfl
theorem numsTo_congr {E E' : Nat → Nat → Bool} {n : Nat} (h : ∀ a b, a < n → b < n → E a b = E' a b) : numsTo E n = numsTo E' n := by
  unfold numsTo
  refine List.map_congr_left fun i hi => ?_
  rw [(nm_ext n h).1 i (List.mem_range.1 hi)]
theorem normV_len (l : List Int) : (normV l).length = l.length := numsTo_len _ _
theorem joinV_len (a b : List Int) : (joinV a b).length = min a.length b.length := numsTo_len _ _
/-- Normal blocks are the same blocks. -/
theorem normV_iff {l : List Int} {i j : Nat} (hi : i < l.length) (hj : j < l.length) : (normV l).getD i 0 = (normV l).getD j 0 ↔ l.getD i 0 = l.getD j 0 := by
  unfold normV
  rw [numsTo_at _ hi, numsTo_at _ hj, ← blkE_iff, nm_iff (blkE_eqv l), beq_iff_eq]
  constructor <;> intro h <;> omega
theorem joinV_iff {a b : List Int} {i j : Nat} (hi : i < min a.length b.length) (hj : j < min a.length b.length) : (joinV a b).getD i 0 = (joinV a b).getD j 0 ↔ a.getD i 0 = a.getD j 0 ∧ b.getD i 0 = b.getD j 0 := by
  unfold joinV
  rw [numsTo_at _ hi, numsTo_at _ hj, ← blkE2_iff, nm_iff (blkE2_eqv a b), beq_iff_eq]
  constructor <;> intro h <;> omega
theorem finer_norm (l : List Int) : FinerP l (normV l) := ⟨(normV_len l).symm, fun i j hi hj h => (normV_iff hi hj).2 h⟩
theorem stable_len {m : Mc} {a b : List Int} (ha : StableP m a) (hb : StableP m b) : min a.length b.length = a.length ∧ a.length = b.length := by
  have := ha.2.1; have := hb.2.1; omega
theorem join_finer {m : Mc} {a b : List Int} (ha : StableP m a) (hb : StableP m b) : FinerP (joinV a b) a ∧ FinerP (joinV a b) b := by
  obtain ⟨h1, h2⟩ := stable_len ha hb
  refine ⟨⟨by rw [joinV_len, h1], fun i j hi hj h => ?_⟩, ⟨by rw [joinV_len, h1, h2], fun i j hi hj h => ?_⟩⟩
  · rw [joinV_len] at hi hj; exact ((joinV_iff hi hj).1 h).1
  · rw [joinV_len] at hi hj; exact ((joinV_iff hi hj).1 h).2
theorem join_stable {m : Mc} {a b : List Int} (ha : StableP m a) (hb : StableP m b) : StableP m (joinV a b) := by
  obtain ⟨h1, h2⟩ := stable_len ha hb
  have hl := joinV_len a b
  refine ⟨ha.1, by rw [hl, h1]; exact ha.2.1, fun s t hs ht h => ?_⟩
  rw [hl] at hs ht
  have h3 := (joinV_iff hs ht).1 h
  rw [h1] at hs ht
  have h4 := ha.2.2 s t hs ht h3.1
  have h5 := hb.2.2 s t (by omega) (by omega) h3.2
  refine ⟨h4.1, fun k hk => ?_⟩
  have ls : ∀ s, s < a.length → at2 m.nx s k < min a.length b.length := fun s hs => by
    have := (ha.1.cell (s := s) (by rw [← ha.2.1]; exact hs) hk).2
    rw [h1, ha.2.1]; exact this
  exact (joinV_iff (ls s hs) (ls t ht)).2 ⟨h4.2 k hk, h5.2 k hk⟩
/-! ### The machine of blocks -/
/-- The first ones of theirs, below n. -/
def reps (E : Nat → Nat → Bool) (n : Nat) : List Nat := (List.range n).filter fun i => fst E i == i
theorem reps_succ (E : Nat → Nat → Bool) (n : Nat) : reps E (n + 1) = if fst E n = n then reps E n ++ [n] else reps E n := by
  unfold reps
  rw [List.range_succ, List.filter_append, List.filter_cons]
  by_cases h : fst E n = n
  · simp [h]
  · simp [h]
theorem reps_len (E : Nat → Nat → Bool) : ∀ n, (reps E n).length = rk E n
  | 0 => rfl
  | n + 1 => by
    rw [reps_succ]
    by_cases h : fst E n = n
    · rw [if_pos h, rk_new h, List.length_append, reps_len E n]; rfl
    · rw [if_neg h, rk_old h, reps_len E n]
theorem reps_at (E : Nat → Nat → Bool) {d : Nat} (hd : fst E d = d) : ∀ {n}, d < n → (reps E n)[rk E d]? = some d
  | 0, h => absurd h (Nat.not_lt_zero _)
  | n + 1, h => by
    rw [reps_succ]
    by_cases e : d = n
    · subst e
      rw [if_pos hd, List.getElem?_append_right (by rw [reps_len]; exact Nat.le_refl _), reps_len, Nat.sub_self]; rfl
    · have ih := reps_at E hd (n := n) (by omega)
      split
      · rw [List.getElem?_append_left (List.getElem?_eq_some_iff.1 ih).1]; exact ih
      · exact ih
theorem reps_nm {E : Nat → Nat → Bool} (hE : Eqv E) {s n : Nat} (hs : s < n) : (reps E n)[nm E s]? = some (fst E s) := reps_at E (fst_fst hE s) (Nat.lt_of_le_of_lt (fst_le E s) hs)
/-- No machine. -/
def zeroM : Mc := ⟨fun _ => 0, 0, [], [], []⟩
def ofRow (m : Mc) (l : List Int) (s : Nat) : List Int := (m.nx.getD s []).map fun t => (nm (blkE l) t.toNat : Int)
def ofN (m : Mc) (l : List Int) : Mc := ⟨m.of, m.wd, (reps (blkE l) l.length).map (ofRow m l), (reps (blkE l) l.length).map fun s => m.lb.getD s 0, m.nm⟩
open Classical in
noncomputable def ofE (m : Mc) (l : List Int) : Int := if Ok m then if StableP m l then 0 else 1 else 6
open Classical in
noncomputable def ofM (m : Mc) (l : List Int) : Mc := if StableP m l then ofN m l else zeroM
theorem of_no {m : Mc} {l : List Int} (h : ¬ Ok m) : ofE m l = 6 ∧ ofM m l = zeroM := ⟨if_neg h, if_neg fun x => h x.1⟩
theorem of_arg {m : Mc} {l : List Int} (h : Ok m) (k : ¬ StableP m l) : ofE m l = 1 ∧ ofM m l = zeroM := ⟨by unfold ofE; rw [if_pos h, if_neg k], if_neg k⟩
theorem of_yes {m : Mc} {l : List Int} (k : StableP m l) : ofE m l = 0 ∧ ofM m l = ofN m l := ⟨by unfold ofE; rw [if_pos k.1, if_pos k], if_pos k⟩
theorem fst_lt (E : Nat → Nat → Bool) {s n : Nat} (hs : s < n) : fst E s < n := Nat.lt_of_le_of_lt (fst_le E s) hs
theorem fst_blk (l : List Int) (s : Nat) : l.getD (fst (blkE l) s) 0 = l.getD s 0 := blkE_iff.1 (fst_alike (blkE_eqv l) s)
theorem ofN_row {m : Mc} {l : List Int} {s : Nat} (hs : s < l.length) : (ofN m l).nx.getD (nm (blkE l) s) [] = ofRow m l (fst (blkE l) s) := by
  show ((reps (blkE l) l.length).map (ofRow m l)).getD _ [] = _
  rw [List.getD_eq_getElem?_getD, List.getElem?_map, reps_nm (blkE_eqv l) hs]; rfl
theorem ofN_lb {m : Mc} {l : List Int} {s : Nat} (hs : s < l.length) : (ofN m l).lb.getD (nm (blkE l) s) 0 = m.lb.getD (fst (blkE l) s) 0 := by
  show ((reps (blkE l) l.length).map fun s => m.lb.getD s 0).getD _ 0 = _
  rw [List.getD_eq_getElem?_getD, List.getElem?_map, reps_nm (blkE_eqv l) hs]; rfl
theorem ofRow_len (m : Mc) (l : List Int) (s : Nat) : (ofRow m l s).length = (m.nx.getD s []).length := by simp [ofRow]
theorem ofRow_at (m : Mc) (l : List Int) {s c : Nat} (hc : c < (m.nx.getD s []).length) : (ofRow m l s).getD c 0 = (nm (blkE l) (at2 m.nx s c) : Nat) := by
  unfold ofRow at2
  obtain ⟨r, hr⟩ : ∃ r, r = m.nx.getD s [] := ⟨_, rfl⟩
  rw [← hr] at hc ⊢
  simp [List.getD, hc]
theorem ofN_len (m : Mc) (l : List Int) : (ofN m l).lb.length = rk (blkE l) l.length ∧ (ofN m l).nx.length = rk (blkE l) l.length := by simp [ofN, reps_len]
theorem ofN_step {m : Mc} {l : List Int} (h : StableP m l) {s b : Nat} (hs : s < l.length) (hb : b < 256) : step (ofN m l) (nm (blkE l) s) b = nm (blkE l) (step m s b) := by
  have hf := fst_lt (blkE l) hs
  have hc := h.1.cls' hb
  have hfm : fst (blkE l) s < m.lb.length := by have := h.2.1; omega
  have hr := h.1.row hfm
  show (((ofN m l).nx.getD (nm (blkE l) s) []).getD (m.of b) 0).toNat = _
  rw [ofN_row hs, ofRow_at m l (by omega)]
  have h1 := (h.2.2 _ _ hf hs (fst_blk l s)).2 (m.of b) hc
  rw [nm_congr (blkE_eqv l) (blkE_iff.2 h1)]
  rfl
theorem ofN_fold {m : Mc} {l : List Int} (h : StableP m l) : ∀ (bs : List Nat), (∀ b ∈ bs, b < 256) → ∀ s, s < l.length → bs.foldl (step (ofN m l)) (nm (blkE l) s) = nm (blkE l) (bs.foldl (step m) s)
  | [], _, s, _ => rfl
  | b :: bs, hb, s, hs => by
    rw [List.foldl_cons, List.foldl_cons, ofN_step h hs (hb b (by simp))]
    exact ofN_fold h bs (fun b' h' => hb b' (List.mem_cons_of_mem _ h')) _ (by rw [h.2.1]; exact (h.1.step (by rw [← h.2.1]; exact hs) (hb b (by simp))).2)
theorem nm_zero (E : Nat → Nat → Bool) : nm E 0 = 0 := by have := nm_le (E := E) 0; omega
theorem ofN_run {m : Mc} {l : List Int} (h : StableP m l) {bs : List Nat} (hb : ∀ b ∈ bs, b < 256) : run (ofN m l) bs = nm (blkE l) (run m bs) := by
  have := ofN_fold h bs hb 0 (by rw [h.2.1]; exact h.1.zero)
  rw [nm_zero] at this; exact this
theorem ofN_ok {m : Mc} {l : List Int} (h : StableP m l) : Ok (ofN m l) := by
  have hz : 0 < l.length := by rw [h.2.1]; exact h.1.zero
  have hl := ofN_len m l
  have hrk : 0 < rk (blkE l) l.length := by have := nm_lt (blkE_eqv l) hz; omega
  have hle : rk (blkE l) l.length ≤ l.length := rk_le _
  refine ⟨h.1.cls, h.1.wd, h.1.nms, ⟨by rw [hl.1]; exact hrk, by rw [hl.1]; have := h.1.lbs.2.1; rw [← h.2.1] at this; omega, fun i hi => ?_⟩, ⟨by rw [hl.1, hl.2], fun j hj => ?_⟩⟩
  · rw [hl.1] at hi
    obtain ⟨d, h1, h2, h3⟩ := nth _ _ hi
    have e : i = nm (blkE l) d := by rw [nm_first h2]; exact h3.symm
    rw [e, ofN_lb h1]
    exact h.1.lbs.2.2 _ (by rw [← h.2.1]; exact fst_lt _ h1)
  · rw [hl.2] at hj
    obtain ⟨d, h1, h2, h3⟩ := nth _ _ hj
    have e : j = nm (blkE l) d := by rw [nm_first h2]; exact h3.symm
    rw [e, ofN_row h1, h2]
    have hd : d < m.lb.length := by rw [← h.2.1]; exact h1
    refine ⟨by rw [ofRow_len]; exact h.1.row hd, fun c hc => ?_⟩
    rw [ofRow_len] at hc
    rw [ofRow_at m l hc, hl.1]
    have h4 := (h.1.cell hd (c := c) (by have := h.1.row hd; show (c : Int) < m.wd; omega)).2
    have h5 := nm_lt (blkE_eqv l) (b := at2 m.nx d c) (n := l.length) (by rw [h.2.1]; exact h4)
    omega
theorem of_name {m : Mc} {l : List Int} (h : StableP m l) {bs : List Nat} (hb : ∀ b ∈ bs, b < 256) : nameV (ofN m l) bs = nameV m bs := by
  rw [nameV_yes (ofN_ok h), nameV_yes h.1, ofN_run h hb]
  have hr : run m bs < m.lb.length := run_lt h.1 hb 0 h.1.zero
  rw [← h.2.1] at hr
  have e : lab (ofN m l) (nm (blkE l) (run m bs)) = lab m (run m bs) := by
    unfold lab
    rw [ofN_lb hr, (h.2.2 _ _ (fst_lt _ hr) hr (fst_blk l _)).1]
  rw [e]; rfl
/-! ### Bytes that are not told apart -/
/-- What stands behind each state, by a byte. -/
def colB (m : Mc) (b : Nat) : List Int := m.nx.map fun r => r.getD (m.of b) 0
def colE (m : Mc) : Nat → Nat → Bool := byKey (colB m)
theorem colE_iff {m : Mc} {a b : Nat} : colE m a b = true ↔ colB m a = colB m b := by simp [colE, byKey]
theorem colE_eqv (m : Mc) : Eqv (colE m) := byKey_eqv _
theorem colB_at (m : Mc) (b : Nat) {s : Nat} (hs : s < m.nx.length) : (colB m b).getD s 0 = (m.nx.getD s []).getD (m.of b) 0 := by
  unfold colB
  rw [List.getD_eq_getElem?_getD, List.getElem?_map, List.getElem?_eq_getElem hs]
  simp [List.getD, hs]
def mergeRow (m : Mc) (r : List Int) : List Int := (reps (colE m) 256).map fun b => r.getD (m.of b) 0
def mergeN (m : Mc) : Mc := ⟨nm (colE m), (rk (colE m) 256 : Nat), m.nx.map (mergeRow m), m.lb, m.nm⟩
open Classical in
noncomputable def mergeE (m : Mc) : Int := if Ok m then 0 else 6
open Classical in
noncomputable def mergeM (m : Mc) : Mc := if Ok m then mergeN m else zeroM
open Classical in
/-- The classes of the bytes that are not told apart; how many. -/
noncomputable def clsV (m : Mc) : Nat → Nat := if Ok m then nm (colE m) else fun _ => 0
open Classical in
noncomputable def clsN (m : Mc) : Int := if Ok m then (rk (colE m) 256 : Nat) else 0
theorem cls_no {m : Mc} (h : ¬ Ok m) : clsN m = 0 ∧ clsV m = fun _ => 0 := ⟨if_neg h, if_neg h⟩
theorem cls_yes {m : Mc} (h : Ok m) : clsN m = (rk (colE m) 256 : Nat) ∧ clsV m = nm (colE m) := ⟨if_pos h, if_pos h⟩
theorem merge_no {m : Mc} (h : ¬ Ok m) : mergeE m = 6 ∧ mergeM m = zeroM := ⟨if_neg h, if_neg h⟩
theorem merge_yes {m : Mc} (h : Ok m) : mergeE m = 0 ∧ mergeM m = mergeN m := ⟨if_pos h, if_pos h⟩
theorem mergeRow_len (m : Mc) (r : List Int) : (mergeRow m r).length = rk (colE m) 256 := by simp [mergeRow, reps_len]
theorem mergeRow_at (m : Mc) (r : List Int) {b : Nat} (hb : b < 256) : (mergeRow m r).getD (nm (colE m) b) 0 = r.getD (m.of (fst (colE m) b)) 0 := by
  unfold mergeRow
  rw [List.getD_eq_getElem?_getD, List.getElem?_map, reps_nm (colE_eqv m) hb]; rfl
theorem col_same (m : Mc) {s b : Nat} (hs : s < m.nx.length) : (m.nx.getD s []).getD (m.of (fst (colE m) b)) 0 = (m.nx.getD s []).getD (m.of b) 0 := by
  have := colE_iff.1 (fst_alike (colE_eqv m) b)
  rw [← colB_at m _ hs, ← colB_at m _ hs, this]
theorem mergeN_row (m : Mc) {s : Nat} (hs : s < m.nx.length) : (mergeN m).nx.getD s [] = mergeRow m (m.nx.getD s []) := by
  show (m.nx.map (mergeRow m)).getD s [] = _
  simp [List.getD, hs]
theorem mergeN_step {m : Mc} {s b : Nat} (hs : s < m.nx.length) (hb : b < 256) : step (mergeN m) s b = step m s b := by
  show (((mergeN m).nx.getD s []).getD (nm (colE m) b) 0).toNat = ((m.nx.getD s []).getD (m.of b) 0).toNat
  rw [mergeN_row m hs, mergeRow_at m _ hb, col_same m hs]
theorem mergeN_fold {m : Mc} (h : Ok m) : ∀ (bs : List Nat), (∀ b ∈ bs, b < 256) → ∀ s, s < m.lb.length → bs.foldl (step (mergeN m)) s = bs.foldl (step m) s
  | [], _, s, _ => rfl
  | b :: bs, hb, s, hs => by
    rw [List.foldl_cons, List.foldl_cons, mergeN_step (by rw [h.len]; exact hs) (hb b (by simp))]
    exact mergeN_fold h bs (fun b' h' => hb b' (List.mem_cons_of_mem _ h')) _ (h.step hs (hb b (by simp))).2
theorem mergeN_run {m : Mc} (h : Ok m) {bs : List Nat} (hb : ∀ b ∈ bs, b < 256) : run (mergeN m) bs = run m bs := mergeN_fold h bs hb 0 h.zero
/-- The number of a class of numbers that are normal is its own. -/
theorem nm_nm {E : Nat → Nat → Bool} (hE : Eqv E) : (∀ b, b < 256 → nm E b = nm (byKey (nm E)) b) ∧ ∀ k, k ≤ 256 → rk E k = rk (byKey (nm E)) k :=
  nm_ext 256 fun a b _ _ => by rw [nm_iff hE]; unfold byKey; exact Bool.eq_iff_iff.2 (by rw [beq_iff_eq, decide_eq_true_eq])
theorem mergeN_ok {m : Mc} (h : Ok m) : Ok (mergeN m) := by
  have hn := nm_nm (colE_eqv m)
  refine ⟨(sameA_iff _ _).2 fun b hb => hn.1 b hb, ?_, h.nms, h.lbs, ⟨?_, fun j hj => ?_⟩⟩
  · show ((rk (colE m) 256 : Nat) : Int) = _
    rw [hn.2 256 (Nat.le_refl _)]; rfl
  · show ((m.nx.map (mergeRow m)).length : Int) = _
    rw [List.length_map]; exact h.rws.1
  · have hj2 : j < m.nx.length := by simpa [mergeN] using hj
    rw [mergeN_row m hj2]
    refine ⟨by rw [mergeRow_len]; rfl, fun c hc => ?_⟩
    rw [mergeRow_len] at hc
    obtain ⟨d, h1, h2, h3⟩ := nth _ _ hc
    have e : c = nm (colE m) d := by rw [nm_first h2]; exact h3.symm
    rw [e, mergeRow_at m _ h1]
    have hr := h.rws.2 j hj2
    exact hr.2 _ (by have := h.cls' (b := fst (colE m) d) (fst_lt _ h1); have := hr.1; omega)
theorem merge_name {m : Mc} (h : Ok m) {bs : List Nat} (hb : ∀ b ∈ bs, b < 256) : nameV (mergeN m) bs = nameV m bs := by
  rw [nameV_yes (mergeN_ok h), nameV_yes h, mergeN_run h hb]; rfl
/-- Not more classes than there were. -/
theorem merge_wd {m : Mc} (h : Ok m) : (mergeN m).wd ≤ m.wd := by
  show ((rk (colE m) 256 : Nat) : Int) ≤ m.wd
  rw [h.wd]
  have key : ∀ n, rk (colE m) n ≤ rk (byKey m.of) n := fun n => by
    induction n with
    | zero => exact Nat.le_refl _
    | succ n ih =>
      by_cases h1 : fst (colE m) n = n
      · rw [rk_new h1]
        have h2 : fst (byKey m.of) n = n := (first_iff (byKey_eqv m.of) n).2 fun a ha => by
          have := (first_iff (colE_eqv m) n).1 h1 a ha
          cases h3 : byKey m.of a n with
          | false => rfl
          | true =>
            have h4 : m.of a = m.of n := by simpa [byKey] using h3
            have h5 : colE m a n = true := colE_iff.2 (by unfold colB; rw [h4])
            rw [this] at h5; cases h5
        rw [rk_new h2]; omega
      · rw [rk_old h1]
        exact Nat.le_trans ih (rk_mono (Nat.le_succ n))
  have := key 256
  omega
theorem of_less {m : Mc} {l : List Int} (h : StableP m l) : (ofN m l).lb.length ≤ m.lb.length := by
  rw [(ofN_len m l).1, ← h.2.1]; exact rk_le _
end Go.Proofs.Ytfhddbjojpmbcaa.DfaW
