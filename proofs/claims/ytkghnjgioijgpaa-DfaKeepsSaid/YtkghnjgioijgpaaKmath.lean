/- Plain mathematics of machines with some of their states alone. -/
import Derived.Test.YtkghnjgioijgpaaReach
namespace Go.Proofs.Ytkghnjgioijgpaa.DfaW
set_option linter.unusedVariables false
open Go.RowKit Go.Maps Go.Proofs.Ytkghnjgioijgpaa.PartM Go.Proofs.Ytkghnjgioijgpaa.PartW Go.Proofs.Ytkghnjgioijgpaa.DfaM

theorem getD_mem {α : Type} {l : List α} {i : Nat} {d : α} (h : i < l.length) : l.getD i d ∈ l := by
  rw [List.getD_eq_getElem?_getD, List.getElem?_eq_getElem h]; exact List.getElem_mem h
theorem getD_map {α β : Type} {l : List α} {f : α → β} {i : Nat} {d : α} {e : β} (h : i < l.length) : (l.map f).getD i e = f (l.getD i d) := by
  simp [List.getD, h]
theorem idx_getD {l : List Int} (hn : l.Nodup) {i : Nat} (h : i < l.length) : l.idxOf (l.getD i 0) = i := by
  rw [List.getD_eq_getElem?_getD, List.getElem?_eq_getElem h]
  exact hn.idxOf_getElem i h
theorem getD_idx {l : List Int} {x : Int} (h : x ∈ l) : l.getD (l.idxOf x) 0 = x := by
  have := List.idxOf_lt_length_of_mem h
  rw [List.getD_eq_getElem?_getD, List.getElem?_eq_getElem this]
  exact List.getElem_idxOf this
/-- May a machine be kept with these states alone? -/
structure Good (m : Mc) (l : List Int) : Prop where
  first : 0 < l.length ∧ l.getD 0 0 = 0
  lt : ∀ x ∈ l, 0 ≤ x ∧ x < (m.lb.length : Int)
  once : l.Nodup
  closed : ∀ x ∈ l, ∀ y ∈ m.nx.getD x.toNat [], y ∈ l
/-- A row, its states by their places. -/
def turnL (l : List Int) (r : List Int) : List Int := r.map fun t => ((l.idxOf t : Nat) : Int)
def keepM (m : Mc) (l : List Int) : Mc := ⟨m.of, m.wd, l.map (fun s => turnL l (m.nx.getD s.toNat [])), l.map (fun s => m.lb.getD s.toNat 0), m.nm⟩
/-- The machine of nothing. -/
def zeroM : Mc := ⟨fun _ => 0, 0, [], [], []⟩
open Classical in
noncomputable def keptM (m : Mc) (l : List Int) : Mc := if Ok m ∧ Good m l then keepM m l else zeroM
open Classical in
noncomputable def keptE (m : Mc) (l : List Int) : Int := if Ok m then if Good m l then 0 else 1 else 6
theorem keptM_no {m : Mc} {l : List Int} (h : ¬ Ok m) : keptM m l = zeroM := if_neg fun x => h x.1
theorem keptM_bad {m : Mc} {l : List Int} (h : ¬ Good m l) : keptM m l = zeroM := if_neg fun x => h x.2
theorem keptM_yes {m : Mc} {l : List Int} (h : Ok m) (g : Good m l) : keptM m l = keepM m l := if_pos ⟨h, g⟩
theorem keptE_no {m : Mc} {l : List Int} (h : ¬ Ok m) : keptE m l = 6 := if_neg h
theorem keptE_bad {m : Mc} {l : List Int} (h : Ok m) (g : ¬ Good m l) : keptE m l = 1 := by unfold keptE; rw [if_pos h, if_neg g]
theorem keptE_yes {m : Mc} {l : List Int} (h : Ok m) (g : Good m l) : keptE m l = 0 := by unfold keptE; rw [if_pos h, if_pos g]

section
variable {m : Mc} {l : List Int}
/-- The state that is at a place. -/
def at1 (l : List Int) (i : Nat) : Nat := (l.getD i 0).toNat
theorem Good.at (g : Good m l) {i : Nat} (h : i < l.length) : l.getD i 0 = (at1 l i : Nat) ∧ at1 l i < m.lb.length := by
  have := g.lt _ (getD_mem (d := 0) h)
  unfold at1
  omega
theorem Good.len (k : Ok m) (g : Good m l) : l.length ≤ m.lb.length := by
  have h1 : (l.map Int.toNat).Nodup := by
    unfold List.Nodup
    rw [List.pairwise_map]
    refine List.Pairwise.imp_of_mem ?_ g.once
    intro a b ha hb hab e
    have h1 := g.lt a ha
    have h2 := g.lt b hb
    exact hab (by omega)
  have := nodup_le h1 (n := m.lb.length) fun x hx => by
    obtain ⟨y, hy, rfl⟩ := List.mem_map.1 hx
    have := g.lt y hy
    omega
  simpa using this
theorem keepM_row (m : Mc) (l : List Int) {i : Nat} (h : i < l.length) : (keepM m l).nx.getD i [] = turnL l (m.nx.getD (at1 l i) []) := by
  show (l.map fun s => turnL l (m.nx.getD s.toNat [])).getD i [] = _
  rw [getD_map (d := 0) h]; rfl
theorem keepM_lb (m : Mc) (l : List Int) {i : Nat} (h : i < l.length) : (keepM m l).lb.getD i 0 = m.lb.getD (at1 l i) 0 := by
  show (l.map fun s => m.lb.getD s.toNat 0).getD i 0 = _
  rw [getD_map (d := 0) h]; rfl
theorem keepM_len (m : Mc) (l : List Int) : (keepM m l).lb.length = l.length ∧ (keepM m l).nx.length = l.length := ⟨by simp [keepM], by simp [keepM]⟩
theorem Good.row (k : Ok m) (g : Good m l) {i c : Nat} (h : i < l.length) (hc : (c : Int) < m.wd) : (m.nx.getD (at1 l i) []).getD c 0 ∈ l := by
  have h1 := g.at h
  have hr := k.row h1.2
  exact g.closed _ (getD_mem (d := 0) h) _ (getD_mem (show c < (m.nx.getD (at1 l i) []).length by omega))
theorem keep_ok (k : Ok m) (g : Good m l) : Ok (keepM m l) := by
  have hlen := Good.len k g
  refine ⟨k.cls, k.wd, k.nms, ⟨?_, ?_, fun i hi => ?_⟩, ⟨?_, fun j hj => ?_⟩⟩
  · rw [(keepM_len m l).1]; exact g.first.1
  · rw [(keepM_len m l).1]; have := k.lbs.2.1; omega
  · rw [(keepM_len m l).1] at hi
    rw [keepM_lb m l hi]
    exact k.lbs.2.2 _ (g.at hi).2
  · rw [(keepM_len m l).1, (keepM_len m l).2]
  · rw [(keepM_len m l).2] at hj
    rw [(keepM_len m l).1, keepM_row m l hj]
    have hr := k.row (g.at hj).2
    refine ⟨by simp only [turnL, List.length_map]; exact hr, fun i hi => ?_⟩
    simp only [turnL, List.length_map] at hi
    have hm := g.row k hj (c := i) (by omega)
    have : (turnL l (m.nx.getD (at1 l j) [])).getD i 0 = ((l.idxOf ((m.nx.getD (at1 l j) []).getD i 0) : Nat) : Int) := getD_map (d := 0) hi
    rw [this]
    have := List.idxOf_lt_length_of_mem hm
    omega
/-- A step of it is a step of the whole. -/
theorem keep_step (k : Ok m) (g : Good m l) {i b : Nat} (h : i < l.length) (hb : b < 256) : step (keepM m l) i b < l.length ∧ at1 l (step (keepM m l) i b) = step m (at1 l i) b := by
  have hc := k.cls' hb
  have hm := g.row k h (c := m.of b) hc
  have hr := k.row (g.at h).2
  have e : step (keepM m l) i b = l.idxOf ((m.nx.getD (at1 l i) []).getD (m.of b) 0) := by
    show (((keepM m l).nx.getD i []).getD (m.of b) 0).toNat = _
    rw [keepM_row m l h]
    have : (turnL l (m.nx.getD (at1 l i) [])).getD (m.of b) 0 = ((l.idxOf ((m.nx.getD (at1 l i) []).getD (m.of b) 0) : Nat) : Int) := getD_map (d := 0) (by omega)
    rw [this]; omega
  have h1 := List.idxOf_lt_length_of_mem hm
  refine ⟨by omega, ?_⟩
  rw [e]
  show (l.getD _ 0).toNat = _
  rw [getD_idx hm]
  rfl
theorem keep_fold (k : Ok m) (g : Good m l) : ∀ (bs : List Nat), (∀ b ∈ bs, b < 256) → ∀ i, i < l.length → bs.foldl (step (keepM m l)) i < l.length ∧ at1 l (bs.foldl (step (keepM m l)) i) = bs.foldl (step m) (at1 l i)
  | [], _, i, h => ⟨h, rfl⟩
  | b :: bs, hb, i, h => by
    have h1 := keep_step k g h (hb b (List.mem_cons_self ..))
    have h2 := keep_fold k g bs (fun c hc => hb c (List.mem_cons_of_mem _ hc)) _ h1.1
    rw [List.foldl_cons, List.foldl_cons, h2.2, h1.2]
    exact ⟨h2.1, rfl⟩
theorem keep_run (k : Ok m) (g : Good m l) {bs : List Nat} (hb : ∀ b ∈ bs, b < 256) : run (keepM m l) bs < l.length ∧ at1 l (run (keepM m l) bs) = run m bs := by
  have := keep_fold k g bs hb 0 g.first.1
  rw [show at1 l 0 = 0 by unfold at1; rw [g.first.2]; rfl] at this
  exact this
theorem keep_tell (k : Ok m) (g : Good m l) {bs : List Nat} (hb : ∀ b ∈ bs, b < 256) : tellV (keepM m l) bs = tellV m bs ∧ nameV (keepM m l) bs = nameV m bs := by
  have h1 := keep_run k g hb
  have e : lab (keepM m l) (run (keepM m l) bs) = lab m (run m bs) := by
    show ((keepM m l).lb.getD _ 0).toNat = _
    rw [keepM_lb m l h1.1, h1.2]; rfl
  have k2 := keep_ok k g
  exact ⟨by rw [tellV_yes k2, tellV_yes k, e], by rw [nameV_yes k2, nameV_yes k, e]; rfl⟩
end
/-- What is met of what was met already, by its places. -/
theorem puts_idx {L : List Nat} : ∀ (ts o : List Nat), puts o ts <+: L → puts (List.range o.length) (ts.map L.idxOf) = List.range (puts o ts).length
  | [], o, _ => rfl
  | t :: ts, o, h => by
    have hp : put o t <+: L := (puts_prefix (ts := ts) (put o t)).trans h
    have e : put (List.range o.length) (L.idxOf t) = List.range (put o t).length := by
      by_cases ht : t ∈ o
      · rw [put_old ht] at hp ⊢
        obtain ⟨r, rfl⟩ := hp
        rw [List.idxOf_append, if_pos ht, put_old (List.mem_range.2 (List.idxOf_lt_length_of_mem ht))]
      · rw [put_new ht] at hp ⊢
        obtain ⟨r, rfl⟩ := hp
        rw [List.append_assoc, List.idxOf_append, if_neg ht, List.singleton_append, List.idxOf_cons_self, Nat.zero_add, put_new (by simp), List.length_append]
        exact List.range_succ.symm
    show puts (put (List.range o.length) (L.idxOf t)) (ts.map L.idxOf) = _
    rw [e]
    exact puts_idx ts (put o t) h
theorem bfs_idx {nb nb' : Nat → List Nat} {l : List Nat} {N : Nat} (hin : In nb l N) (hl : l.map (fin nb l N).idxOf = l.map (fin nb l N).idxOf) (hnb : ∀ i, i < (fin nb l N).length → nb' i = (nb ((fin nb l N).getD i 0)).map (fin nb l N).idxOf) :
    ∀ k, k ≤ N → bfs nb' (l.map (fin nb l N).idxOf) k = List.range (bfs nb l k).length
  | 0, _ => puts_idx l [] (bfs_mono (Nat.zero_le N))
  | k + 1, hk => by
    have ih := bfs_idx hin hl hnb k (by omega)
    rcases Nat.lt_or_ge k (bfs nb l k).length with h | h
    · have e : (bfs nb l k)[k]? = some (bfs nb l k)[k] := List.getElem?_eq_getElem h
      have e' : (bfs nb' (l.map (fin nb l N).idxOf) k)[k]? = some k := by rw [ih]; simp [h]
      have hpre : bfs nb l k <+: fin nb l N := bfs_mono (show k ≤ N by omega)
      have hlt : k < (fin nb l N).length := Nat.lt_of_lt_of_le h hpre.length_le
      have hs : (fin nb l N).getD k 0 = (bfs nb l k)[k] := by
        obtain ⟨r, hr⟩ := hpre
        rw [← hr, List.getD_eq_getElem?_getD, List.getElem?_append_left h, e]; rfl
      rw [bfs_next e, bfs_next e', ih, hnb k hlt, hs]
      exact puts_idx _ _ (by rw [← bfs_next e]; exact bfs_mono hk)
    · rw [bfs_stop h, bfs_stop (by rw [ih]; simpa using h), ih]

theorem cast_inj : ∀ {l : List Nat} {x : Nat}, (castL l).idxOf (x : Int) = l.idxOf x
  | [], x => rfl
  | y :: l, x => by
    show ((y : Int) :: castL l).idxOf (x : Int) = _
    have e : ((y : Int) == (x : Int)) = (y == x) := by
      rw [Bool.eq_iff_iff]
      simp only [beq_iff_eq]
      omega
    rw [List.idxOf_cons, List.idxOf_cons, cast_inj, e]
theorem mem_cast {l : List Nat} {x : Int} : x ∈ castL l ↔ 0 ≤ x ∧ x.toNat ∈ l := by
  unfold castL
  rw [List.mem_map]
  constructor
  · rintro ⟨y, hy, rfl⟩; exact ⟨by omega, by simpa using hy⟩
  · rintro ⟨h0, h⟩; exact ⟨x.toNat, h, by omega⟩
section
variable {m : Mc}
theorem reach_first (k : Ok m) : 0 < (reachL m).length ∧ (reachL m).getD 0 0 = 0 := by
  have hp : [0] <+: reachL m := bfs_mono (nb := nbM m) (l := [0]) (Nat.zero_le m.lb.length)
  obtain ⟨r, hr⟩ := hp
  unfold reachL at *
  rw [← hr]
  exact ⟨by simp, rfl⟩
theorem reach_lt (k : Ok m) {x : Nat} (h : x ∈ reachL m) : x < m.lb.length := k.in0.lt _ x h
/-- A machine may be kept with the states at which it may be. -/
theorem reach_good (k : Ok m) : Good m (castL (reachL m)) := by
  refine ⟨⟨by rw [castL_len]; exact (reach_first k).1, by rw [castL_at, (reach_first k).2]; rfl⟩, fun x hx => ?_, ?_, fun x hx y hy => ?_⟩
  · have h := mem_cast.1 hx
    have := reach_lt k h.2
    omega
  · unfold castL List.Nodup
    rw [List.pairwise_map]
    exact (fin_nodup (nb := nbM m) (l := [0]) (n := m.lb.length)).imp fun h e => h (by omega)
  · have h := mem_cast.1 hx
    have hlt := reach_lt k h.2
    obtain ⟨j, hj, rfl⟩ := List.mem_iff_getElem.1 hy
    have hrow := (k.rws.2 x.toNat (by rw [k.len]; exact hlt)).2 j hj
    rw [List.getD_eq_getElem?_getD, List.getElem?_eq_getElem hj] at hrow
    have h0 : 0 ≤ (m.nx.getD x.toNat [])[j] := hrow.1
    refine mem_cast.2 ⟨h0, fin_closed k.in0 h.2 _ ?_⟩
    rw [nbM_at]
    exact List.mem_map.2 ⟨_, List.getElem_mem hj, rfl⟩
/-- A machine with those states alone. -/
def trimM (m : Mc) : Mc := keepM m (castL (reachL m))
theorem trim_ok (k : Ok m) : Ok (trimM m) := keep_ok k (reach_good k)
theorem trim_len (m : Mc) : (trimM m).lb.length = (reachL m).length := by rw [trimM, (keepM_len _ _).1, castL_len]
theorem trim_nb (k : Ok m) {i : Nat} (h : i < (reachL m).length) : nbM (trimM m) i = (nbM m ((reachL m).getD i 0)).map (reachL m).idxOf := by
  have h' : i < (castL (reachL m)).length := by rw [castL_len]; exact h
  have ha : at1 (castL (reachL m)) i = (reachL m).getD i 0 := by unfold at1; rw [castL_at]; omega
  rw [nbM_at, nbM_at]
  show ((keepM m (castL (reachL m))).nx.getD i []).map Int.toNat = _
  rw [keepM_row m _ h', ha]
  unfold turnL
  rw [List.map_map, List.map_map]
  refine List.map_congr_left fun y hy => ?_
  have hs := reach_lt k (getD_mem (d := 0) h)
  obtain ⟨j, hj, rfl⟩ := List.mem_iff_getElem.1 hy
  have hrow := (k.rws.2 _ (by rw [k.len]; exact hs)).2 j hj
  rw [List.getD_eq_getElem?_getD, List.getElem?_eq_getElem hj] at hrow
  have h0 : 0 ≤ (m.nx.getD ((reachL m).getD i 0) [])[j] := hrow.1
  show ((((castL (reachL m)).idxOf _ : Nat) : Int)).toNat = (reachL m).idxOf (Int.toNat _)
  have := cast_inj (l := reachL m) (x := ((m.nx.getD ((reachL m).getD i 0) [])[j]).toNat)
  rw [show ((((m.nx.getD ((reachL m).getD i 0) [])[j]).toNat : Nat) : Int) = (m.nx.getD ((reachL m).getD i 0) [])[j] by omega] at this
  rw [this]; omega
theorem trim_reach (k : Ok m) : reachL (trimM m) = List.range (reachL m).length := by
  have hle := reach_len k
  have h1 := bfs_idx (nb := nbM m) (nb' := nbM (trimM m)) k.in0 rfl (fun i hi => trim_nb k hi) (reachL m).length hle
  have h0 : [0].map (fin (nbM m) [0] m.lb.length).idxOf = [0] := by
    have hp : [0] <+: reachL m := bfs_mono (nb := nbM m) (l := [0]) (Nat.zero_le m.lb.length)
    obtain ⟨r, hr⟩ := hp
    have hr' : [0] ++ r = fin (nbM m) [0] m.lb.length := hr
    rw [← hr']
    rfl
  rw [h0] at h1
  have h2 : bfs (nbM m) [0] (reachL m).length = reachL m := by
    have hp : bfs (nbM m) [0] (reachL m).length <+: reachL m := bfs_mono hle
    exact (fin_of k.in0 hle hp.length_le).symm
  unfold reachL at h1 h2 ⊢
  rw [h2] at h1
  have h3 := trim_len m
  unfold reachL at h3
  show bfs _ _ _ = _
  rw [h3]; exact h1
theorem idx_range {n : Nat} {x : Nat} (h : x < n) : (List.range n).idxOf x = x := by
  have := (List.nodup_range (n := n)).idxOf_getElem x (by simpa using h)
  simpa using this
/-- What is trimmed is its own. -/
theorem trim_trim (k : Ok m) : trimM (trimM m) = trimM m := by
  have k2 := trim_ok k
  have hr := trim_reach k
  have hl := trim_len m
  obtain ⟨n, hn⟩ : ∃ n, n = (reachL m).length := ⟨_, rfl⟩
  rw [← hn] at hr hl
  obtain ⟨t, ht⟩ : ∃ t, t = trimM m := ⟨_, rfl⟩
  rw [← ht] at hr hl k2 ⊢
  have hlen : (castL (List.range n)).length = n := by rw [castL_len]; simp
  have hat : ∀ i, i < n → at1 (castL (List.range n)) i = i := fun i hi => by unfold at1; rw [castL_at]; simp [List.getD, hi]
  unfold trimM
  rw [hr]
  have e1 : (keepM t (castL (List.range n))).nx = t.nx := by
    apply List.ext_getElem
    · rw [(keepM_len _ _).2, hlen, k2.len, hl]
    · intro i h1 h2
      have hi : i < n := by rw [(keepM_len _ _).2, hlen] at h1; exact h1
      have := keepM_row t (castL (List.range n)) (i := i) (by rw [hlen]; exact hi)
      rw [hat i hi] at this
      have a1 : (keepM t (castL (List.range n))).nx[i] = (keepM t (castL (List.range n))).nx.getD i [] := by simp [List.getD, h1]
      rw [a1, this]
      have a2 : t.nx[i] = t.nx.getD i [] := by simp [List.getD, h2]
      rw [a2]
      unfold turnL
      refine (List.map_congr_left (g := id) fun y hy => ?_).trans (List.map_id _)
      obtain ⟨j, hj, rfl⟩ := List.mem_iff_getElem.1 hy
      have hrow := (k2.rws.2 i h2).2 j hj
      rw [List.getD_eq_getElem?_getD, List.getElem?_eq_getElem hj, hl] at hrow
      have h0 : 0 ≤ (t.nx.getD i [])[j] ∧ (t.nx.getD i [])[j] < n := hrow
      have h3 := cast_inj (l := List.range n) (x := ((t.nx.getD i [])[j]).toNat)
      rw [show ((((t.nx.getD i [])[j]).toNat : Nat) : Int) = (t.nx.getD i [])[j] by omega, idx_range (by omega)] at h3
      show (((castL (List.range n)).idxOf _ : Nat) : Int) = _
      rw [h3]
      show _ = (t.nx.getD i [])[j]
      omega
  have e2 : (keepM t (castL (List.range n))).lb = t.lb := by
    apply List.ext_getElem
    · rw [(keepM_len _ _).1, hlen, hl]
    · intro i h1 h2
      have hi : i < n := by rw [(keepM_len _ _).1, hlen] at h1; exact h1
      have := keepM_lb t (castL (List.range n)) (i := i) (by rw [hlen]; exact hi)
      rw [hat i hi] at this
      have a1 : (keepM t (castL (List.range n))).lb[i] = (keepM t (castL (List.range n))).lb.getD i 0 := by simp [List.getD, h1]
      have a2 : t.lb[i] = t.lb.getD i 0 := by simp [List.getD, h2]
      rw [a1, this, a2]
  have e3 : keepM t (castL (List.range n)) = ⟨t.of, t.wd, (keepM t (castL (List.range n))).nx, (keepM t (castL (List.range n))).lb, t.nm⟩ := rfl
  rw [e3, e1, e2]
end
end Go.Proofs.Ytkghnjgioijgpaa.DfaW
