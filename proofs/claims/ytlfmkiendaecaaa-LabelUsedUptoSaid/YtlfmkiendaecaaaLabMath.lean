/- What machines with other labels are, in plain data; what they tell. -/
import Derived.Test.YtlfmkiendaecaaaMach
import Derived.Test.YtlfmkiendaecaaaTextMath
namespace Go.Proofs.Ytlfmkiendaecaaa.DfaW
set_option linter.unusedVariables false
open Go.Proofs.Ytlfmkiendaecaaa.PartM Go.Proofs.Ytlfmkiendaecaaa.TxM

def zeroM : Mc := ⟨fun _ => 0, 0, [], [], []⟩
/-- The name of a label. -/
def nmAt (m : Mc) (x : Int) : ByteArray := m.nm.getD (x.toNat - 1) ByteArray.empty
/-- The names of labels that states have. -/
def usedL (m : Mc) : List ByteArray := (m.lb.filter fun x => decide (0 < x)).map (nmAt m)
theorem mem_usedL {m : Mc} {x : ByteArray} : x ∈ usedL m ↔ ∃ i, i < m.lb.length ∧ 0 < m.lb.getD i 0 ∧ nmAt m (m.lb.getD i 0) = x := by
  unfold usedL
  rw [List.mem_map]
  constructor
  · rintro ⟨y, hy, rfl⟩
    rw [List.mem_filter, decide_eq_true_eq] at hy
    obtain ⟨i, hi, rfl⟩ := List.mem_iff_getElem.1 hy.1
    refine ⟨i, hi, ?_, ?_⟩
    · rw [List.getD_eq_getElem?_getD, List.getElem?_eq_getElem hi]; exact hy.2
    · rw [List.getD_eq_getElem?_getD, List.getElem?_eq_getElem hi]; rfl
  · rintro ⟨i, hi, h1, rfl⟩
    refine ⟨m.lb.getD i 0, List.mem_filter.2 ⟨?_, decide_eq_true h1⟩, rfl⟩
    rw [List.getD_eq_getElem?_getD, List.getElem?_eq_getElem hi]; exact List.getElem_mem _
open Classical in
/-- What Used tells. -/
noncomputable def usedV (m : Mc) : List ByteArray := if Ok m then risen (usedL m) else []
theorem usedV_yes {m : Mc} (h : Ok m) : usedV m = risen (usedL m) := if_pos h
theorem usedV_no {m : Mc} (h : ¬ Ok m) : usedV m = [] := if_neg h
theorem mem_usedV {m : Mc} (h : Ok m) {x : ByteArray} : x ∈ usedV m ↔ x ∈ usedL m := by rw [usedV_yes h, mem_risen]
/-- The same machine with other names and labels. -/
def relab (m : Mc) (l : List ByteArray) (f : Int → Int) : Mc := ⟨m.of, m.wd, m.nx, m.lb.map f, l⟩
def nameF (m : Mc) (l : List ByteArray) (x : Int) : Int := if 0 < x then (atT l (nmAt m x) : Int) + 1 else 0
def onlyF (m : Mc) (s : ByteArray) (x : Int) : Int := if 0 < x ∧ nmAt m x = s then 1 else 0
def AllIn (m : Mc) (l : List ByteArray) : Prop := ∀ x ∈ usedL m, x ∈ l
open Classical in
noncomputable def namesE (m : Mc) (l : List ByteArray) : Int := if Ok m then if NamesOk l then if AllIn m l then 0 else 5 else 1 else 6
open Classical in
noncomputable def namesM (m : Mc) (l : List ByteArray) : Mc := if Ok m ∧ NamesOk l ∧ AllIn m l then relab m l (nameF m l) else zeroM
open Classical in
noncomputable def onlyE (m : Mc) (s : ByteArray) : Int := if Ok m then if nameOk s = true then 0 else 1 else 6
open Classical in
noncomputable def onlyM (m : Mc) (s : ByteArray) : Mc := if Ok m ∧ nameOk s = true then relab m [s] (onlyF m s) else zeroM
/-- One further on. -/
def upL (r : List Int) : List Int := r.map fun x => x + 1
def plusN (m : Mc) : Mc := ⟨m.of, m.wd, upL (m.nx.getD 0 []) :: m.nx.map upL, 0 :: m.lb, m.nm⟩
open Classical in
noncomputable def plusE (m : Mc) : Int := if Ok m then if m.lb.getD 0 0 = 0 then 0 else if m.lb.length = 65536 then 7 else 0 else 6
open Classical in
noncomputable def plusM (m : Mc) : Mc := if Ok m then if m.lb.getD 0 0 = 0 then m else if m.lb.length = 65536 then zeroM else plusN m else zeroM
theorem names_no {m : Mc} {l : List ByteArray} (h : ¬ Ok m) : namesE m l = 6 ∧ namesM m l = zeroM := ⟨if_neg h, if_neg fun x => h x.1⟩
theorem names_arg {m : Mc} {l : List ByteArray} (h : Ok m) (k : ¬ NamesOk l) : namesE m l = 1 ∧ namesM m l = zeroM := ⟨by unfold namesE; rw [if_pos h, if_neg k], if_neg fun x => k x.2.1⟩
theorem names_none {m : Mc} {l : List ByteArray} (h : Ok m) (k : NamesOk l) (j : ¬ AllIn m l) : namesE m l = 5 ∧ namesM m l = zeroM := ⟨by unfold namesE; rw [if_pos h, if_pos k, if_neg j], if_neg fun x => j x.2.2⟩
theorem names_yes {m : Mc} {l : List ByteArray} (h : Ok m) (k : NamesOk l) (j : AllIn m l) : namesE m l = 0 ∧ namesM m l = relab m l (nameF m l) := ⟨by unfold namesE; rw [if_pos h, if_pos k, if_pos j], if_pos ⟨h, k, j⟩⟩
theorem only_no {m : Mc} {s : ByteArray} (h : ¬ Ok m) : onlyE m s = 6 ∧ onlyM m s = zeroM := ⟨if_neg h, if_neg fun x => h x.1⟩
theorem only_arg {m : Mc} {s : ByteArray} (h : Ok m) (k : ¬ nameOk s = true) : onlyE m s = 1 ∧ onlyM m s = zeroM := ⟨by unfold onlyE; rw [if_pos h, if_neg k], if_neg fun x => k x.2⟩
theorem only_yes {m : Mc} {s : ByteArray} (h : Ok m) (k : nameOk s = true) : onlyE m s = 0 ∧ onlyM m s = relab m [s] (onlyF m s) := ⟨by unfold onlyE; rw [if_pos h, if_pos k], if_pos ⟨h, k⟩⟩
theorem plus_no {m : Mc} (h : ¬ Ok m) : plusE m = 6 ∧ plusM m = zeroM := ⟨if_neg h, if_neg h⟩
theorem plus_same {m : Mc} (h : Ok m) (k : m.lb.getD 0 0 = 0) : plusE m = 0 ∧ plusM m = m := ⟨by unfold plusE; rw [if_pos h, if_pos k], by unfold plusM; rw [if_pos h, if_pos k]⟩
theorem plus_big {m : Mc} (h : Ok m) (k : ¬ m.lb.getD 0 0 = 0) (j : m.lb.length = 65536) : plusE m = 7 ∧ plusM m = zeroM := ⟨by unfold plusE; rw [if_pos h, if_neg k, if_pos j], by unfold plusM; rw [if_pos h, if_neg k, if_pos j]⟩
theorem plus_yes {m : Mc} (h : Ok m) (k : ¬ m.lb.getD 0 0 = 0) (j : ¬ m.lb.length = 65536) : plusE m = 0 ∧ plusM m = plusN m := ⟨by unfold plusE; rw [if_pos h, if_neg k, if_neg j], by unfold plusM; rw [if_pos h, if_neg k, if_neg j]⟩

/-! ### Labels and their names -/
theorem Ok.nmAt {m : Mc} (h : Ok m) {i : Nat} (hi : i < m.lb.length) (h0 : 0 < m.lb.getD i 0) : (m.lb.getD i 0).toNat - 1 < m.nm.length := by
  have := h.lbs.2.2 i hi
  omega
theorem used_ok {m : Mc} (h : Ok m) {x : ByteArray} (hx : x ∈ usedL m) : nameOk x = true := by
  obtain ⟨i, hi, h0, rfl⟩ := mem_usedL.1 hx
  exact (h.nms.2 _ (h.nmAt hi h0)).1
theorem used_mem {m : Mc} (h : Ok m) {x : ByteArray} (hx : x ∈ usedL m) : x ∈ m.nm := by
  obtain ⟨i, hi, h0, rfl⟩ := mem_usedL.1 hx
  have := h.nmAt hi h0
  unfold DfaW.nmAt
  rw [List.getD_eq_getElem?_getD, List.getElem?_eq_getElem this]
  exact List.getElem_mem _
theorem names_nodup {l : List ByteArray} : NamesOk l ↔ l.length ≤ 64 ∧ (∀ x ∈ l, nameOk x = true) ∧ l.Nodup := by
  unfold NamesOk
  constructor
  · rintro ⟨h1, h2⟩
    refine ⟨h1, fun x hx => ?_, ?_⟩
    · obtain ⟨i, hi, rfl⟩ := List.mem_iff_getElem.1 hx
      have := (h2 i hi).1
      rw [List.getD_eq_getElem?_getD, List.getElem?_eq_getElem hi] at this; exact this
    · unfold List.Nodup
      rw [List.pairwise_iff_getElem]
      intro i j hi hj hij e
      refine (h2 j hj).2 ?_
      rw [List.getD_eq_getElem?_getD, List.getElem?_eq_getElem hj]
      show l[j] ∈ l.take j
      rw [← e]
      exact List.mem_take_iff_getElem.2 ⟨i, by omega, rfl⟩
  · rintro ⟨h1, h2, h3⟩
    refine ⟨h1, fun i hi => ⟨?_, fun hm => ?_⟩⟩
    · rw [List.getD_eq_getElem?_getD, List.getElem?_eq_getElem hi]; exact h2 _ (List.getElem_mem _)
    · rw [List.getD_eq_getElem?_getD, List.getElem?_eq_getElem hi] at hm
      obtain ⟨j, hj, e⟩ := List.mem_take_iff_getElem.1 hm
      exact List.pairwise_iff_getElem.1 h3 j i (by omega) hi (by omega) e
theorem sub_len {α : Type} [DecidableEq α] {a b : List α} (ha : a.Nodup) (h : ∀ x ∈ a, x ∈ b) : a.length ≤ b.length := by
  induction a generalizing b with
  | nil => simp
  | cons x a ih =>
    have hx := h x (by simp)
    have hn := List.nodup_cons.1 ha
    have := ih (b := b.erase x) hn.2 (fun y hy => by
      have hy2 := h y (List.mem_cons_of_mem _ hy)
      exact (List.mem_erase_of_ne (by rintro rfl; exact hn.1 hy)).2 hy2)
    rw [List.length_erase_of_mem hx] at this
    have := List.length_pos_of_mem hx
    simp only [List.length_cons]; omega
theorem used_len {m : Mc} (h : Ok m) : (usedV m).length ≤ m.nm.length := by
  rw [usedV_yes h]
  exact sub_len (risen_nodup _) fun x hx => used_mem h (mem_risen.1 hx)
/-- Names that rise, all of which may be names. -/
theorem risen_names {xs : List ByteArray} (h1 : (risen xs).length ≤ 64) (h2 : ∀ x ∈ xs, nameOk x = true) : NamesOk (risen xs) :=
  names_nodup.2 ⟨h1, fun x hx => h2 x (mem_risen.1 hx), risen_nodup xs⟩
theorem norm_names {m : Mc} (h : Ok m) : NamesOk (usedV m) := by
  have h1 := used_len h
  have h2 := h.nms.1
  rw [usedV_yes h] at h1 ⊢
  exact risen_names (by omega) fun x hx => used_ok h hx
theorem norm_all {m : Mc} (h : Ok m) : AllIn m (usedV m) := fun x hx => (mem_usedV h).2 hx
theorem norm_yes {m : Mc} (h : Ok m) : namesE m (usedV m) = 0 ∧ namesM m (usedV m) = relab m (usedV m) (nameF m (usedV m)) := names_yes h (norm_names h) (norm_all h)

/-! ### What is told -/
theorem relab_len (m : Mc) (l : List ByteArray) (f : Int → Int) : (relab m l f).lb.length = m.lb.length := by simp [relab]
theorem relab_lb (m : Mc) (l : List ByteArray) (f : Int → Int) {i : Nat} (hi : i < m.lb.length) : (relab m l f).lb.getD i 0 = f (m.lb.getD i 0) := by
  simp [relab, List.getD, hi]
theorem relab_ok {m : Mc} (h : Ok m) {l : List ByteArray} (hl : NamesOk l) {f : Int → Int} (hf : ∀ i, i < m.lb.length → 0 ≤ f (m.lb.getD i 0) ∧ f (m.lb.getD i 0) ≤ (l.length : Int)) : Ok (relab m l f) := by
  refine ⟨h.cls, h.wd, hl, ⟨?_, ?_, fun i hi => ?_⟩, ?_⟩
  · rw [relab_len]; exact h.lbs.1
  · rw [relab_len]; exact h.lbs.2.1
  · rw [relab_len] at hi
    rw [relab_lb m l f hi]
    exact hf i hi
  · rw [relab_len]; exact h.rws
theorem relab_run (m : Mc) (l : List ByteArray) (f : Int → Int) (bs : List Nat) : run (relab m l f) bs = run m bs := rfl
theorem relab_lab (m : Mc) (l : List ByteArray) (f : Int → Int) {s : Nat} (hs : s < m.lb.length) : lab (relab m l f) s = (f (m.lb.getD s 0)).toNat := by
  unfold lab
  rw [relab_lb m l f hs]
theorem nameF_ok {m : Mc} (h : Ok m) {l : List ByteArray} (ha : AllIn m l) {i : Nat} (hi : i < m.lb.length) : 0 ≤ nameF m l (m.lb.getD i 0) ∧ nameF m l (m.lb.getD i 0) ≤ (l.length : Int) := by
  unfold nameF
  split
  · rename_i h0
    have := atT_mem.1 (ha _ (mem_usedL.2 ⟨i, hi, h0, rfl⟩))
    omega
  · omega
theorem named_ok {m : Mc} (h : Ok m) {l : List ByteArray} (hl : NamesOk l) (ha : AllIn m l) : Ok (relab m l (nameF m l)) := relab_ok h hl fun i hi => nameF_ok h ha hi
theorem named_name {m : Mc} (h : Ok m) {l : List ByteArray} (hl : NamesOk l) (ha : AllIn m l) {bs : List Nat} (hb : ∀ b ∈ bs, b < 256) : nameV (relab m l (nameF m l)) bs = nameV m bs := by
  have hs := run_ok h hb
  rw [nameV_yes (named_ok h hl ha), nameV_yes h, relab_run, relab_lab m l _ hs]
  obtain ⟨s, hs'⟩ : ∃ s, s = run m bs := ⟨_, rfl⟩
  rw [← hs'] at hs ⊢
  have h1 := (h.lab hs).1
  unfold nameF
  rw [h1]
  by_cases h0 : lab m s = 0
  · rw [h0]; rfl
  · have hp : 0 < m.lb.getD s 0 := by omega
    have hm := ha _ (mem_usedL.2 ⟨s, hs, hp, rfl⟩)
    rw [h1] at hm
    rw [if_pos (by omega)]
    unfold nameOf
    rw [if_neg (by omega), if_neg h0]
    have e : ((atT l (nmAt m (lab m s : Nat)) : Int) + 1).toNat - 1 = atT l (nmAt m (lab m s : Nat)) := by omega
    rw [e]
    show l.getD _ _ = _
    rw [getD_atT hm]
    unfold nmAt
    rw [show ((lab m s : Nat) : Int).toNat = lab m s by omega]
theorem onlyF_ok (m : Mc) (s : ByteArray) (x : Int) : 0 ≤ onlyF m s x ∧ onlyF m s x ≤ 1 := by unfold onlyF; split <;> omega
theorem one_names {s : ByteArray} (h : nameOk s = true) : NamesOk [s] := names_nodup.2 ⟨by simp, by simpa using h, by simp⟩
theorem onlyd_ok {m : Mc} (h : Ok m) {s : ByteArray} (hs : nameOk s = true) : Ok (relab m [s] (onlyF m s)) := relab_ok h (one_names hs) fun i hi => onlyF_ok m s _
theorem name_some {s : ByteArray} (h : nameOk s = true) : s ≠ ByteArray.empty := by
  rintro rfl
  have := ((nameOk_iff _).1 h).1
  simp at this
theorem nameOf_ok {m : Mc} (h : Ok m) {k : Nat} (h0 : k ≠ 0) (hk : k ≤ m.nm.length) : nameOk (nameOf m k) = true := by
  unfold nameOf
  rw [if_neg h0]
  exact (h.nms.2 _ (by omega)).1
theorem only_name {m : Mc} (h : Ok m) {s : ByteArray} (hs : nameOk s = true) {bs : List Nat} (hb : ∀ b ∈ bs, b < 256) : nameV (relab m [s] (onlyF m s)) bs = s ↔ nameV m bs = s := by
  have hr := run_ok h hb
  rw [nameV_yes (onlyd_ok h hs), nameV_yes h, relab_run, relab_lab m _ _ hr]
  obtain ⟨r, hr'⟩ : ∃ s, s = run m bs := ⟨_, rfl⟩
  rw [← hr'] at hr ⊢
  have h1 := (h.lab hr).1
  unfold onlyF
  rw [h1]
  by_cases h0 : lab m r = 0
  · rw [h0]
    rw [if_neg (by simp)]
    exact Iff.rfl
  · have e : nmAt m (lab m r : Nat) = nameOf m (lab m r) := by
      unfold nmAt nameOf
      rw [if_neg h0, show ((lab m r : Nat) : Int).toNat = lab m r by omega]
    rw [e]
    by_cases he : nameOf m (lab m r) = s
    · rw [if_pos ⟨by omega, he⟩]
      exact ⟨fun _ => he, fun _ => rfl⟩
    · rw [if_neg fun x => he x.2]
      exact ⟨fun x => absurd x.symm (name_some hs), fun x => absurd x he⟩
theorem upL_len (r : List Int) : (upL r).length = r.length := by simp [upL]
theorem upL_at (r : List Int) {i : Nat} (hi : i < r.length) : (upL r).getD i 0 = r.getD i 0 + 1 := by simp [upL, List.getD, hi]
theorem plus_row (m : Mc) (s : Nat) : (plusN m).nx.getD (s + 1) [] = upL (m.nx.getD s []) := by
  show (m.nx.map upL).getD s [] = _
  rcases Nat.lt_or_ge s m.nx.length with h | h
  · simp [List.getD, h]
  · simp [List.getD, h, upL]
theorem plus_row0 (m : Mc) : (plusN m).nx.getD 0 [] = upL (m.nx.getD 0 []) := rfl
theorem up_ok {m : Mc} (h : Ok m) {s : Nat} (hs : s < m.lb.length) : RowOk ((m.lb.length + 1 : Nat) : Int) m.wd (upL (m.nx.getD s [])) := by
  have := h.rws.2 s (by rw [h.len]; exact hs)
  refine ⟨by rw [upL_len]; exact this.1, fun i hi => ?_⟩
  rw [upL_len] at hi
  rw [upL_at _ hi]
  have := this.2 i hi
  omega
theorem plus_ok {m : Mc} (h : Ok m) (hn : ¬ m.lb.length = 65536) : Ok (plusN m) := by
  have h1 := h.lbs
  have h2 := h1.2.1
  refine ⟨h.cls, h.wd, h.nms, ⟨by simp [plusN], ?_, fun i hi => ?_⟩, ⟨?_, fun j hj => ?_⟩⟩
  · simp [plusN]; omega
  · cases i with
    | zero => exact ⟨Int.le_refl _, by simp [plusN]⟩
    | succ i => exact h1.2.2 i (by simpa [plusN] using hi)
  · simp [plusN, h.len]
  · have e : ((plusN m).lb.length : Nat) = m.lb.length + 1 := by simp [plusN]
    rw [e]
    cases j with
    | zero => rw [plus_row0]; exact up_ok h h.zero
    | succ j =>
      rw [plus_row]
      exact up_ok h (by have : j + 1 < (plusN m).nx.length := hj; simp [plusN, h.len] at this; exact this)
theorem plus_step {m : Mc} (h : Ok m) {s b : Nat} (hs : s < m.lb.length) (hb : b < 256) : step (plusN m) (s + 1) b = step m s b + 1 := by
  have h1 := (h.step hs hb).1
  have hr := h.row hs
  have hc := h.cls' hb
  show (((plusN m).nx.getD (s + 1) []).getD (m.of b) 0).toNat = _
  rw [plus_row, upL_at _ (by omega), h1]
  omega
theorem plus_step0 {m : Mc} (h : Ok m) {b : Nat} (hb : b < 256) : step (plusN m) 0 b = step m 0 b + 1 := by
  have h1 := (h.step h.zero hb).1
  have hr := h.row h.zero
  have hc := h.cls' hb
  show (((plusN m).nx.getD 0 []).getD (m.of b) 0).toNat = _
  rw [plus_row0, upL_at _ (by omega), h1]
  omega
theorem plus_fold {m : Mc} (h : Ok m) : ∀ (bs : List Nat), (∀ b ∈ bs, b < 256) → ∀ s, s < m.lb.length → bs.foldl (step (plusN m)) (s + 1) = bs.foldl (step m) s + 1
  | [], _, s, _ => rfl
  | b :: bs, hb, s, hs => by
    rw [List.foldl_cons, List.foldl_cons, plus_step h hs (hb b (by simp))]
    exact plus_fold h bs (fun b' h' => hb b' (List.mem_cons_of_mem _ h')) _ (h.step hs (hb b (by simp))).2
theorem plus_run {m : Mc} (h : Ok m) {b : Nat} {bs : List Nat} (hb : ∀ x ∈ b :: bs, x < 256) : run (plusN m) (b :: bs) = run m (b :: bs) + 1 := by
  unfold run
  rw [List.foldl_cons, List.foldl_cons, plus_step0 h (hb b (by simp))]
  exact plus_fold h bs (fun b' h' => hb b' (List.mem_cons_of_mem _ h')) _ (h.step h.zero (hb b (by simp))).2
theorem plus_lab (m : Mc) (s : Nat) : lab (plusN m) (s + 1) = lab m s := rfl
theorem plus_name {m : Mc} (h : Ok m) (hn : ¬ m.lb.length = 65536) {bs : List Nat} (hb : ∀ x ∈ bs, x < 256) : nameV (plusN m) bs = if bs = [] then ByteArray.empty else nameV m bs := by
  rw [nameV_yes (plus_ok h hn)]
  cases bs with
  | nil => rfl
  | cons b bs =>
    rw [plus_run h hb, plus_lab, if_neg (by simp), nameV_yes h]
    rfl
theorem none_name {m : Mc} (h : Ok m) (h0 : m.lb.getD 0 0 = 0) : nameV m [] = ByteArray.empty := by
  rw [nameV_yes h]
  show nameOf m (lab m 0) = _
  unfold lab
  rw [h0]; rfl
/-- Of Plus, whichever way. -/
theorem plusM_ok {m : Mc} (h : Ok m) (he : plusE m = 0) : Ok (plusM m) := by
  by_cases k : m.lb.getD 0 0 = 0
  · rw [(plus_same h k).2]; exact h
  · by_cases j : m.lb.length = 65536
    · rw [(plus_big h k j).1] at he; cases he
    · rw [(plus_yes h k j).2]; exact plus_ok h j
theorem plusM_name {m : Mc} (h : Ok m) (he : plusE m = 0) {bs : List Nat} (hb : ∀ x ∈ bs, x < 256) : nameV (plusM m) bs = if bs = [] then ByteArray.empty else nameV m bs := by
  by_cases k : m.lb.getD 0 0 = 0
  · rw [(plus_same h k).2]
    split
    · rename_i e; rw [e]; exact none_name h k
    · rfl
  · by_cases j : m.lb.length = 65536
    · rw [(plus_big h k j).1] at he; cases he
    · rw [(plus_yes h k j).2]; exact plus_name h j hb
theorem plusE_of {m : Mc} (h : Ok m) : plusE m = 0 ∨ plusE m = 7 := by
  by_cases k : m.lb.getD 0 0 = 0
  · exact .inl (plus_same h k).1
  · by_cases j : m.lb.length = 65536
    · exact .inr (plus_big h k j).1
    · exact .inl (plus_yes h k j).1
/-- Other names with one more. -/
theorem more_names {m : Mc} (h : Ok m) {o : ByteArray} (ho : nameOk o = true) (hl : (usedV m).length < 64) : NamesOk (risen (usedV m ++ [o])) := by
  refine risen_names ?_ fun x hx => ?_
  · have := risen_len (usedV m ++ [o])
    rw [List.length_append, List.length_singleton] at this; omega
  · rcases List.mem_append.1 hx with hx | hx
    · exact used_ok h ((mem_usedV h).1 hx)
    · rw [List.mem_singleton.1 hx]; exact ho
theorem more_all {m : Mc} (h : Ok m) (o : ByteArray) : AllIn m (risen (usedV m ++ [o])) := fun x hx => mem_risen.2 (List.mem_append.2 (.inl ((mem_usedV h).2 hx)))
end Go.Proofs.Ytlfmkiendaecaaa.DfaW
