/- Walk of slices.Insert, of one thing at the front: of rows, of numbers. -/
import Derived.Test.YtlfmkiendaecaaaMade2
import Derived.Shelf.Spec.SlicesInsertGrow
import Derived.StillTailTactics
namespace Go.Proofs.Ytlfmkiendaecaaa.DfaW
set_option linter.unusedVariables false
set_option linter.unusedSimpArgs false
open Go.RowKit Go.Maps Go.Proofs.Ytlfmkiendaecaaa.PartM Go.Proofs.Ytlfmkiendaecaaa.PartW
/-- A list written from o on. -/
def putL : List Value → Array Value → Nat → Array Value
  | [], C, _ => C
  | v :: r, C, o => putL r (C.setIfInBounds o v) (o + 1)
theorem putL_size : ∀ (l : List Value) (C : Array Value) (o : Nat), (putL l C o).size = C.size
  | [], _, _ => rfl
  | v :: r, C, o => by rw [putL, putL_size r, Array.size_setIfInBounds]
theorem putL_at : ∀ (l : List Value) (C : Array Value) (o j : Nat), o + l.length ≤ C.size → (putL l C o)[j]? = if o ≤ j ∧ j < o + l.length then l[j - o]? else C[j]?
  | [], C, o, j, _ => by rw [putL, if_neg (by simp)]
  | v :: r, C, o, j, h => by
    rw [List.length_cons] at h
    rw [putL, putL_at r _ (o + 1) j (by rw [Array.size_setIfInBounds]; omega), Array.getElem?_setIfInBounds, List.length_cons]
    by_cases e : o = j
    · subst e
      rw [if_neg (by omega), if_pos rfl, if_pos (by omega), if_pos (by omega), Nat.sub_self]; rfl
    · rw [if_neg e]
      by_cases k : o + 1 ≤ j ∧ j < o + 1 + r.length
      · rw [if_pos k, if_pos (by omega), show j - o = (j - (o + 1)) + 1 by omega]; rfl
      · rw [if_neg k, if_neg (by omega)]
theorem ar_puts {b : Nat} {t : TypeId} : ∀ (l : List Value) (o : Nat) {w : World} {C : Array Value}, Ar w b C t → Ar (w.setCells b o l) b (putL l C o) t
  | [], _, _, _, h => h
  | v :: r, o, _, _, h => ar_puts r (o + 1) (h.set o v)
theorem heap_puts {b k : Nat} (hk : k ≠ b) : ∀ (l : List Value) (o : Nat) (w : World), (w.setCells b o l).heap[k]? = w.heap[k]?
  | [], _, _ => rfl
  | v :: r, o, w => (heap_puts hk r (o + 1) _).trans (Below.heap_setCell _ ⟨b, o, none⟩ _ k hk)
theorem size_puts (b : Nat) : ∀ (l : List Value) (o : Nat) (w : World), (w.setCells b o l).heap.size = w.heap.size ∧ (w.setCells b o l).os = w.os ∧ (w.setCells b o l).tape = w.tape ∧ (w.setCells b o l).output = w.output
  | [], _, _ => ⟨rfl, rfl, rfl, rfl⟩
  | v :: r, o, w => by
    obtain ⟨h1, h2, h3, h4⟩ := size_puts b r (o + 1) (w.setCell ⟨b, o, none⟩ v)
    exact ⟨h1.trans (by simp [World.setCell]), h2, h3, h4⟩
/-- One thing, and a list behind it, as they stand. -/
theorem put_front {C : Array Value} {x : Value} {vs : List Value} {n c : Nat} (hl : vs.length = n) (hC : C.size = c) (hn : n + 1 ≤ c) {D : Array Value} (hD : D = putL vs (putL [x] C 0) 1 ∨ D = putL [x] (putL vs C 1) 0) : D.size = c ∧ D.toList.take (n + 1) = x :: vs := by
  have hs : D.size = c := by rcases hD with rfl | rfl <;> rw [putL_size, putL_size, hC]
  refine ⟨hs, List.ext_getElem? fun j => ?_⟩
  have hj : j < n + 1 → D[j]? = (x :: vs)[j]? := fun hj => by
    rcases hD with rfl | rfl
    · rw [putL_at _ _ _ _ (by rw [putL_size]; omega), putL_at _ _ _ _ (by simp; omega)]
      cases j with
      | zero => simp
      | succ j => rw [if_pos (by omega)]; simp
    · rw [putL_at _ _ _ _ (by rw [putL_size]; simp; omega), putL_at _ _ _ _ (by omega)]
      cases j with
      | zero => simp
      | succ j => rw [if_neg (by simp), if_pos (by omega)]; simp
  rw [List.getElem?_take]
  by_cases h : j < n + 1
  · rw [if_pos h, ← hj h]; simp
  · rw [if_neg h, List.getElem?_eq_none (by simp; omega)]
theorem grown_puts {w w' : World} {b : Nat} {row : Option Nat} (h : w.grownBy w' row) (hb : row = some b ∨ w.heap.size ≤ b) (l : List Value) (o : Nat) : w.grownBy (w'.setCells b o l) row := by
  obtain ⟨h1, h2, h3, h4⟩ := size_puts b l o w'
  refine ⟨h2.trans h.os, h3.trans h.tape, h4.trans h.output, by rw [h1]; exact h.size, fun k hk hr => ?_⟩
  rw [heap_puts (fun e => by
    subst e
    rcases hb with hb | hb
    · exact hr hb.symm
    · omega)]
  exact h.block k hk hr
theorem grown_refl (w : World) (row : Option Nat) : w.grownBy w row := ⟨rfl, rfl, rfl, Nat.le_refl _, fun _ _ _ => rfl⟩
theorem grown_drew {w w' : World} {row : Option Nat} (h : w.grownBy w' row) : w.grownBy w'.drew row := ⟨h.os, h.tape, h.output, h.size, h.block⟩
theorem grown_alloc {w w' : World} {row : Option Nat} (h : w.grownBy w' row) (o : Obj) : w.grownBy (w'.alloc o) row := ⟨h.os, h.tape, h.output, by simp; exact Nat.le_trans h.size (Nat.le_succ _), fun k hk hr => (Below.heap_alloc w' o k (Nat.lt_of_lt_of_le hk h.size)).trans (h.block k hk hr)⟩

set_option maxRecDepth 100000 in
set_option maxHeartbeats 400000 in
theorem insR_any {w : World} {B n : Nat} {v : Value} {vs : List Value} (ho : w.ownsRow B 24 1 v n vs) (h1 : ∀ x ∈ vs, x.oneCell' = true) (hn : 0 < n) (hn2 : n ≤ 65536) {bx : Nat} {x : Value} (hbx : Ar w bx #[x] 24) (hx1 : x.oneCell' = true) (hne : v.ownBlock ≠ some bx) :
    Calls Try.prog 41 #[v, .int .i64 0, .slice (some ⟨bx, 0, none⟩) 1 1] w fun e w' => ∃ v', e = .returned v' ∧ w'.ownsRow B 24 1 v' (n + 1) (x :: vs) ∧ w.grownBy w' v.ownBlock ∧ (v'.ownBlock = v.ownBlock ∨ v'.ownBlock = some w.heap.size) := by
  have hl : vs.length = n := by simpa using ho.1
  rcases ho.2 with ⟨_, h0⟩ | ⟨g, c, cur, rfl, hg, hh, hnc, hcm, hs, ht⟩
  · omega
  rw [Nat.mul_one] at hs ht
  have hA : Ar w g cur 24 := hh
  have hgx : bx ≠ g := fun e => hne (by rw [e]; rfl)
  have hgl := hA.lt
  have hcs : ∀ j u, vs[j]? = some u → cur[j]? = some u := fun j u hj => by
    rw [← ht, List.getElem?_take] at hj
    split at hj
    · simpa using hj
    · cases hj
  obtain ⟨i0, hi0, hz0, hzs, hzb⟩ := info_parts infoR
  have hsz : (Try.prog.info? 24).map (·.size) = some 1 := by rw [hi0]; simp [hzs]
  have uS : Try.prog.underlying 23 = some (.slice 24) := Try.underlying23
  have uI : Try.prog.underlying 3 = some (.int .i64) := Try.underlying3
  have HW := Lib.hid (show IntKind.i64.wrap ((n : Int) + 1) = (n : Int) + 1 ∧ wrap64 ((n : Int) + 1) = (n : Int) + 1 from ⟨by rw [IntKind.wrap_i64]; omega, by unfold wrap64; omega⟩)
  have hnz : ¬ ((0 : Int) = (n : Int)) := by omega
  have e0 : ((0 : Int) == (n : Int)) = false := by simp; omega
  have hni : (n : Int) ≤ 65536 := by omega
  have hci : (c : Int) ≤ 9223372036854775807 := by unfold maxLen at hcm; omega
  have tn1 : ((n : Int) + 1).toNat = n + 1 := by omega
  have hp1 : (0 : Int) ≤ (n : Int) + 1 := by omega
  by_cases hr : c < n + 1
  · have t1 : decide ((c : Int) < (n : Int) + 1) = true := by simp; omega
    have t1' : (c : Int) < (n : Int) + 1 := by omega
    have hold : (Builtin.firstCells i0.size 0 (.slice (some ⟨g, 0, none⟩) 0 c)).run Try.prog w.drew = .ok ([] : List Value).toArray w.drew := by
      rw [hzs]
      exact run_firstCells_some w.drew 1 0 ⟨g, 0, none⟩ 0 c [] rfl (fun j u hj => by cases hj)
    have hrz := fun ty => Lib.run_append_grow_zeros w 23 3 ty 24 i0 _ .i64 .i64 uS uI hi0 hz0 (some ⟨g, 0, none⟩) 0 c [] hold (n + 1) (by omega) (by omega) (by omega) (by omega) (by rw [hzb]; omega) (by rw [hzb, Nat.zero_add]; exact growslice_fits hr (by omega))
    rw [Nat.zero_add] at hrz
    have hGn := grownCap_ge w (n + 1) c 24
    have hGm := grownCap_le_maxLen w (n + 1) c 24 (by unfold maxLen; omega)
    obtain ⟨G, hG⟩ : ∃ G, G = grownCap w (n + 1) c 24 := ⟨_, rfl⟩
    rw [← hG] at hrz hGn hGm
    obtain ⟨ROW, hROW⟩ : ∃ ROW : Array Value, ROW = ([] : List Value).toArray ++ Builtin.zeroCells (Value.slice none 0 0).cells (n + 1) ++ Builtin.zeroCells (Value.slice none 0 0).cells (G - (n + 1)) := ⟨_, rfl⟩
    have hRs : ROW.size = G := by
      rw [hROW]
      simp [Builtin.zeroCells, Value.cells]
      omega
    have hcast : ((n + 1 : Nat) : Int) = (n : Int) + 1 := by omega
    rw [hcast] at hrz
    rw [← hROW] at hrz
    obtain ⟨b, hb⟩ : ∃ b, b = w.heap.size := ⟨_, rfl⟩
    have hbg : g ≠ b := by omega
    have hbx2 := hbx.lt
    have HA := Lib.hid hA; have HX := Lib.hid hbx
    have hcpA : ∀ (W : World), Ar W b ROW 24 → Ar W bx #[x] 24 → ∀ ty dc, (Builtin.copy_ #[23, 23] ty #[.slice (some ⟨b, 0, none⟩) (n + 1) dc, .slice (some ⟨bx, 0, none⟩) 1 1]).run Try.prog W = .ok (goInt [x].length) (W.setCells b 0 [x]) := fun W a1 a2 ty dc =>
      run_copy_cells W _ _ ty 24 b 0 (n + 1) dc ⟨bx, 0, none⟩ 1 1 [x] uS hsz (by simp [Nat.min_def]) (fun j u hj => by rw [Addr.add_lit, Ar.at' a2]; simpa using hj) (fun j hj => by rw [Ar.at' a1, Array.getElem?_eq_getElem (by simp at hj; omega)]; rfl) (fun j _ => Ar.frozen a1 _) (fun u hu => by rw [List.mem_singleton] at hu; rw [hu]; exact hx1)
    have hcpB : ∀ (W : World), Ar W b (putL [x] ROW 0) 24 → Ar W g cur 24 → ∀ ty dc sc, (Builtin.copy_ #[23, 23] ty #[.slice (some ⟨b, 1, none⟩) n dc, .slice (some ⟨g, 0, none⟩) n sc]).run Try.prog W = .ok (goInt vs.length) (W.setCells b 1 vs) := fun W a1 a2 ty dc sc =>
      run_copy_cells W _ _ ty 24 b 1 n dc ⟨g, 0, none⟩ n sc vs uS hsz (by rw [hl]; simp) (fun j u hj => by rw [Addr.add_lit, Ar.at' a2, Nat.zero_add]; exact hcs j u hj) (fun j hj => by rw [Ar.at' a1, Array.getElem?_eq_getElem (by rw [putL_size]; omega)]; rfl) (fun j _ => Ar.frozen a1 _) h1
    have hAN : Ar ((w.alloc (.cells ROW 24)).drew) b ROW 24 := by rw [hb]; exact (Ar.new w ROW _).drew
    have hAG : Ar ((w.alloc (.cells ROW 24)).drew) g cur 24 := (hA.alloc _).drew
    have hAX : Ar ((w.alloc (.cells ROW 24)).drew) bx #[x] 24 := (hbx.alloc _).drew
    have hG0 : ¬ (G = 0) := by omega
    have hG1 : ¬ (G = 1) := by omega
    have hc0 : ¬ (c = 0) := by omega
    have hf := put_front (x := x) hl hRs hGn (.inl rfl)
    have HF : Hid (Ar (((((w.alloc (.cells ROW 24)).drew).setCells b 0 [x]).drew).setCells b 1 vs) b (putL vs (putL [x] ROW 0) 1) 24 ∧ w.grownBy (((((w.alloc (.cells ROW 24)).drew).setCells b 0 [x]).drew).setCells b 1 vs) (some g)) := Lib.hid ⟨ar_puts _ _ (Ar.drew (ar_puts _ _ hAN)), grown_puts (grown_drew (grown_puts (grown_drew (grown_alloc (grown_refl w _) _)) (.inr (by omega)) _ _)) (.inr (by omega)) _ _⟩
    have HFF := Lib.hid hf
    have HPA := Lib.hid hcpA; have HPB := Lib.hid hcpB; have HRZ := Lib.hid hrz
    have HAN := Lib.hid hAN; have HAG := Lib.hid hAG; have HAX := Lib.hid hAX
    have HG := Lib.hid (show B ≤ b ∧ n + 1 ≤ G ∧ G ≤ maxLen from ⟨by omega, hGn, hGm⟩)
    have hGni : (G : Int) ≤ 9223372036854775807 := by unfold maxLen at hGm; omega
    have HL := Lib.hid hl
    clear hcpA hcpB hrz hAN hAG hAX hf hROW hRs hA hh hbx ho hne ht hcs hold hi0 hz0 hzs hzb
    rw [← hb] at HRZ ⊢
    clear hb hG
    have mixed : Try.prog.follows Departure.mixedOrders = true := by kernel_rfl
    have hw3 : IntKind.i64.wrap 1 = 1 := by decide
    have hq1 : (1 : Int) ≤ (n : Int) + 1 := by omega
    have hq0 : (0 : Int) ≤ (n : Int) := by omega
    obtain ⟨hw1, hw2⟩ := HW.out
    go_enter Try.func41, Try.ntmps41
    go_wp2_with (at_builtin; refine Lib.wpList_append_run _ rfl _ _ _ _ rfl _ _ rfl rfl _ _ (HRZ.out _) ?_)
    rw [HPA.out _ HAN.out HAX.out]
    go_wp2_with fail
    have HC := Lib.hid (HPB.out (((w.alloc (.cells ROW 24)).drew.setCells b 0 [x]).drew) (Ar.drew (ar_puts _ _ HAN.out)) ((heap_puts hbg _ _ _).trans HAG.out) 3 (G - 1) c)
    go_region_law_o (refine step_copy_runI rfl _ _ 23 23 rfl (.slice (some ⟨b, 1, none⟩) n (G - 1)) (.slice (some ⟨g, 0, none⟩) n c) (by simp [Act.eval, Act.put]) (by simp [Act.eval, Act.put]) HC.out ?_)
    go_wp2_with fail
    go_ret
    exact ⟨_, rfl, ⟨by simp [HL.out], .inr ⟨b, G, _, rfl, HG.out.1, HF.out.1, HG.out.2.1, HG.out.2.2, by rw [Nat.mul_one]; exact HFF.out.1, by rw [Nat.mul_one]; exact HFF.out.2⟩⟩, HF.out.2, .inr rfl⟩
  · have t1 : decide ((c : Int) < (n : Int) + 1) = false := by simp; omega
    have t1' : ¬ (c : Int) < (n : Int) + 1 := by omega
    have hroom : n + 1 ≤ c := by omega
    have hrI : (n : Int) + 1 ≤ (c : Int) := by omega
    have hov : ∀ lb cb, (callFunc 59 #[.slice (some ⟨bx, 0, none⟩) 1 1, .slice (some ⟨g, 1, none⟩) lb cb]).run Try.prog w = .ok (.value (.bool false)) w := fun lb cb => by
      rw [run_callFunc_extern Try.func59 (by kernel_rfl) (by kernel_rfl) (by kernel_rfl) (e := Extern.SlicesOverlaps.overlaps #[23, 23] #[4]) (by kernel_rfl),
        Lib.run_overlaps_apart w 23 4 24 uS 1 Try.sizeOf24 ⟨bx, 0, none⟩ ⟨g, 1, none⟩ 1 1 lb cb hgx 24 24 1 c (by have hbx' : w.heap[bx]? = _ := hbx; simp [World.shape?, hbx']) (by simp [World.shape?, hh, hs]) (by omega) (Ar.frozen hbx _) (Ar.frozen hbx _)]
      rfl
    have hcpA : ∀ (W : World), Ar W g cur 24 → ∀ ty dc sc, (Builtin.copy_ #[23, 23] ty #[.slice (some ⟨g, 1, none⟩) n dc, .slice (some ⟨g, 0, none⟩) (n + 1) sc]).run Try.prog W = .ok (goInt vs.length) (W.setCells g 1 vs) := fun W a1 ty dc sc =>
      run_copy_cells W _ _ ty 24 g 1 n dc ⟨g, 0, none⟩ (n + 1) sc vs uS hsz (by rw [hl]; simp [Nat.min_def]) (fun j u hj => by rw [Addr.add_lit, Ar.at' a1, Nat.zero_add]; exact hcs j u hj) (fun j hj => by rw [Ar.at' a1, Array.getElem?_eq_getElem (by omega)]; rfl) (fun j _ => Ar.frozen a1 _) h1
    have hcpB : ∀ (W : World), Ar W g (putL vs cur 1) 24 → Ar W bx #[x] 24 → ∀ ty dc, (Builtin.copy_ #[23, 23] ty #[.slice (some ⟨g, 0, none⟩) (n + 1) dc, .slice (some ⟨bx, 0, none⟩) 1 1]).run Try.prog W = .ok (goInt [x].length) (W.setCells g 0 [x]) := fun W a1 a2 ty dc =>
      run_copy_cells W _ _ ty 24 g 0 (n + 1) dc ⟨bx, 0, none⟩ 1 1 [x] uS hsz (by simp [Nat.min_def]) (fun j u hj => by rw [Addr.add_lit, Ar.at' a2]; simpa using hj) (fun j hj => by rw [Ar.at' a1, Array.getElem?_eq_getElem (by rw [putL_size]; simp at hj; omega)]; rfl) (fun j _ => Ar.frozen a1 _) (fun u hu => by rw [List.mem_singleton] at hu; rw [hu]; exact hx1)
    have hf := put_front (x := x) hl hs hroom (.inr rfl)
    have HF : Hid (Ar ((w.drew.setCells g 1 vs).setCells g 0 [x]) g (putL [x] (putL vs cur 1) 0) 24 ∧ w.grownBy ((w.drew.setCells g 1 vs).setCells g 0 [x]) (some g)) := Lib.hid ⟨ar_puts _ _ (ar_puts _ _ hA.drew), grown_puts (grown_puts (grown_drew (grown_refl w _)) (.inl rfl) _ _) (.inl rfl) _ _⟩
    have HFF := Lib.hid hf
    have HL := Lib.hid hl
    have HG := Lib.hid (show B ≤ g ∧ n + 1 ≤ c ∧ c ≤ maxLen from ⟨hg, hroom, hcm⟩)
    have HCA := Lib.hid (hcpA w.drew hA.drew 3 (c - 1) c)
    have HCB := Lib.hid (hcpB (w.drew.setCells g 1 vs) (ar_puts _ _ hA.drew) ((heap_puts hgx _ _ _).trans hbx.drew))
    have hc0 : ¬ (c = 0) := by omega
    have hc1 : ¬ (c = 1) := by omega
    have hw3 : IntKind.i64.wrap 1 = 1 := by decide
    have hq1 : (1 : Int) ≤ (n : Int) + 1 := by omega
    have hq0 : (0 : Int) ≤ (n : Int) := by omega
    have mixed : Try.prog.follows Departure.mixedOrders = true := by kernel_rfl
    clear hcpA hcpB hf hA hh hbx ho hne ht hcs hi0 hz0 hzs hzb hs hroom hgl hgx hg hcm hr
    obtain ⟨hw1, hw2⟩ := HW.out
    go_enter Try.func41, Try.ntmps41
    go_wp2_with (simp only [hov])
    go_region_law_o (refine step_copy_runI rfl _ _ 23 23 rfl (.slice (some ⟨g, 1, none⟩) n (c - 1)) (.slice (some ⟨g, 0, none⟩) (n + 1) c) (by simp [Act.eval, Act.put]) (by simp [Act.eval, Act.put]) HCA.out ?_)
    go_wp2_with fail
    rw [HCB.out]
    go_wp2_with fail
    go_ret
    exact ⟨_, rfl, ⟨by simp [HL.out], .inr ⟨g, c, _, rfl, HG.out.1, HF.out.1, HG.out.2.1, HG.out.2.2, by rw [Nat.mul_one]; exact HFF.out.1, by rw [Nat.mul_one]; exact HFF.out.2⟩⟩, HF.out.2, .inl rfl⟩

set_option maxRecDepth 100000 in
set_option maxHeartbeats 400000 in
theorem insI_any {w : World} {B n : Nat} {v : Value} {vs : List Value} (ho : w.ownsRow B 3 1 v n vs) (h1 : ∀ x ∈ vs, x.oneCell' = true) (hn : 0 < n) (hn2 : n ≤ 65536) {bx : Nat} {x : Value} (hbx : Ar w bx #[x] 3) (hx1 : x.oneCell' = true) (hne : v.ownBlock ≠ some bx) :
    Calls Try.prog 43 #[v, .int .i64 0, .slice (some ⟨bx, 0, none⟩) 1 1] w fun e w' => ∃ v', e = .returned v' ∧ w'.ownsRow B 3 1 v' (n + 1) (x :: vs) ∧ w.grownBy w' v.ownBlock ∧ (v'.ownBlock = v.ownBlock ∨ v'.ownBlock = some w.heap.size) := by
  have hl : vs.length = n := by simpa using ho.1
  rcases ho.2 with ⟨_, h0⟩ | ⟨g, c, cur, rfl, hg, hh, hnc, hcm, hs, ht⟩
  · omega
  rw [Nat.mul_one] at hs ht
  have hA : Ar w g cur 3 := hh
  have hgx : bx ≠ g := fun e => hne (by rw [e]; rfl)
  have hgl := hA.lt
  have hcs : ∀ j u, vs[j]? = some u → cur[j]? = some u := fun j u hj => by
    rw [← ht, List.getElem?_take] at hj
    split at hj
    · simpa using hj
    · cases hj
  obtain ⟨i0, hi0, hz0, hzs, hzb⟩ := info_parts info3
  have hsz : (Try.prog.info? 3).map (·.size) = some 1 := by rw [hi0]; simp [hzs]
  have uS : Try.prog.underlying 24 = some (.slice 3) := Try.underlying24
  have uI : Try.prog.underlying 3 = some (.int .i64) := Try.underlying3
  have HW := Lib.hid (show IntKind.i64.wrap ((n : Int) + 1) = (n : Int) + 1 ∧ wrap64 ((n : Int) + 1) = (n : Int) + 1 from ⟨by rw [IntKind.wrap_i64]; omega, by unfold wrap64; omega⟩)
  have hnz : ¬ ((0 : Int) = (n : Int)) := by omega
  have e0 : ((0 : Int) == (n : Int)) = false := by simp; omega
  have hni : (n : Int) ≤ 65536 := by omega
  have hci : (c : Int) ≤ 9223372036854775807 := by unfold maxLen at hcm; omega
  have tn1 : ((n : Int) + 1).toNat = n + 1 := by omega
  have hp1 : (0 : Int) ≤ (n : Int) + 1 := by omega
  by_cases hr : c < n + 1
  · have t1 : decide ((c : Int) < (n : Int) + 1) = true := by simp; omega
    have t1' : (c : Int) < (n : Int) + 1 := by omega
    have hold : (Builtin.firstCells i0.size 0 (.slice (some ⟨g, 0, none⟩) 0 c)).run Try.prog w.drew = .ok ([] : List Value).toArray w.drew := by
      rw [hzs]
      exact run_firstCells_some w.drew 1 0 ⟨g, 0, none⟩ 0 c [] rfl (fun j u hj => by cases hj)
    have hrz := fun ty => Lib.run_append_grow_zeros w 24 3 ty 3 i0 _ .i64 .i64 uS uI hi0 hz0 (some ⟨g, 0, none⟩) 0 c [] hold (n + 1) (by omega) (by omega) (by omega) (by omega) (by rw [hzb]; omega) (by rw [hzb, Nat.zero_add]; exact growslice_fits hr (by omega))
    rw [Nat.zero_add] at hrz
    have hGn := grownCap_ge w (n + 1) c 3
    have hGm := grownCap_le_maxLen w (n + 1) c 3 (by unfold maxLen; omega)
    obtain ⟨G, hG⟩ : ∃ G, G = grownCap w (n + 1) c 3 := ⟨_, rfl⟩
    rw [← hG] at hrz hGn hGm
    obtain ⟨ROW, hROW⟩ : ∃ ROW : Array Value, ROW = ([] : List Value).toArray ++ Builtin.zeroCells (Value.int .i64 0).cells (n + 1) ++ Builtin.zeroCells (Value.int .i64 0).cells (G - (n + 1)) := ⟨_, rfl⟩
    have hRs : ROW.size = G := by
      rw [hROW]
      simp [Builtin.zeroCells, Value.cells]
      omega
    have hcast : ((n + 1 : Nat) : Int) = (n : Int) + 1 := by omega
    rw [hcast] at hrz
    rw [← hROW] at hrz
    obtain ⟨b, hb⟩ : ∃ b, b = w.heap.size := ⟨_, rfl⟩
    have hbg : g ≠ b := by omega
    have hbx2 := hbx.lt
    have HA := Lib.hid hA; have HX := Lib.hid hbx
    have hcpA : ∀ (W : World), Ar W b ROW 3 → Ar W bx #[x] 3 → ∀ ty dc, (Builtin.copy_ #[24, 24] ty #[.slice (some ⟨b, 0, none⟩) (n + 1) dc, .slice (some ⟨bx, 0, none⟩) 1 1]).run Try.prog W = .ok (goInt [x].length) (W.setCells b 0 [x]) := fun W a1 a2 ty dc =>
      run_copy_cells W _ _ ty 3 b 0 (n + 1) dc ⟨bx, 0, none⟩ 1 1 [x] uS hsz (by simp [Nat.min_def]) (fun j u hj => by rw [Addr.add_lit, Ar.at' a2]; simpa using hj) (fun j hj => by rw [Ar.at' a1, Array.getElem?_eq_getElem (by simp at hj; omega)]; rfl) (fun j _ => Ar.frozen a1 _) (fun u hu => by rw [List.mem_singleton] at hu; rw [hu]; exact hx1)
    have hcpB : ∀ (W : World), Ar W b (putL [x] ROW 0) 3 → Ar W g cur 3 → ∀ ty dc sc, (Builtin.copy_ #[24, 24] ty #[.slice (some ⟨b, 1, none⟩) n dc, .slice (some ⟨g, 0, none⟩) n sc]).run Try.prog W = .ok (goInt vs.length) (W.setCells b 1 vs) := fun W a1 a2 ty dc sc =>
      run_copy_cells W _ _ ty 3 b 1 n dc ⟨g, 0, none⟩ n sc vs uS hsz (by rw [hl]; simp) (fun j u hj => by rw [Addr.add_lit, Ar.at' a2, Nat.zero_add]; exact hcs j u hj) (fun j hj => by rw [Ar.at' a1, Array.getElem?_eq_getElem (by rw [putL_size]; omega)]; rfl) (fun j _ => Ar.frozen a1 _) h1
    have hAN : Ar ((w.alloc (.cells ROW 3)).drew) b ROW 3 := by rw [hb]; exact (Ar.new w ROW _).drew
    have hAG : Ar ((w.alloc (.cells ROW 3)).drew) g cur 3 := (hA.alloc _).drew
    have hAX : Ar ((w.alloc (.cells ROW 3)).drew) bx #[x] 3 := (hbx.alloc _).drew
    have hG0 : ¬ (G = 0) := by omega
    have hG1 : ¬ (G = 1) := by omega
    have hc0 : ¬ (c = 0) := by omega
    have hf := put_front (x := x) hl hRs hGn (.inl rfl)
    have HF : Hid (Ar (((((w.alloc (.cells ROW 3)).drew).setCells b 0 [x]).drew).setCells b 1 vs) b (putL vs (putL [x] ROW 0) 1) 3 ∧ w.grownBy (((((w.alloc (.cells ROW 3)).drew).setCells b 0 [x]).drew).setCells b 1 vs) (some g)) := Lib.hid ⟨ar_puts _ _ (Ar.drew (ar_puts _ _ hAN)), grown_puts (grown_drew (grown_puts (grown_drew (grown_alloc (grown_refl w _) _)) (.inr (by omega)) _ _)) (.inr (by omega)) _ _⟩
    have HFF := Lib.hid hf
    have HPA := Lib.hid hcpA; have HPB := Lib.hid hcpB; have HRZ := Lib.hid hrz
    have HAN := Lib.hid hAN; have HAG := Lib.hid hAG; have HAX := Lib.hid hAX
    have HG := Lib.hid (show B ≤ b ∧ n + 1 ≤ G ∧ G ≤ maxLen from ⟨by omega, hGn, hGm⟩)
    have hGni : (G : Int) ≤ 9223372036854775807 := by unfold maxLen at hGm; omega
    have HL := Lib.hid hl
    clear hcpA hcpB hrz hAN hAG hAX hf hROW hRs hA hh hbx ho hne ht hcs hold hi0 hz0 hzs hzb
    rw [← hb] at HRZ ⊢
    clear hb hG
    have mixed : Try.prog.follows Departure.mixedOrders = true := by kernel_rfl
    have hw3 : IntKind.i64.wrap 1 = 1 := by decide
    have hq1 : (1 : Int) ≤ (n : Int) + 1 := by omega
    have hq0 : (0 : Int) ≤ (n : Int) := by omega
    obtain ⟨hw1, hw2⟩ := HW.out
    go_enter Try.func43, Try.ntmps43
    go_wp2_with (at_builtin; refine Lib.wpList_append_run _ rfl _ _ _ _ rfl _ _ rfl rfl _ _ (HRZ.out _) ?_)
    rw [HPA.out _ HAN.out HAX.out]
    go_wp2_with fail
    have HC := Lib.hid (HPB.out (((w.alloc (.cells ROW 3)).drew.setCells b 0 [x]).drew) (Ar.drew (ar_puts _ _ HAN.out)) ((heap_puts hbg _ _ _).trans HAG.out) 3 (G - 1) c)
    go_region_law_o (refine step_copy_runI rfl _ _ 24 24 rfl (.slice (some ⟨b, 1, none⟩) n (G - 1)) (.slice (some ⟨g, 0, none⟩) n c) (by simp [Act.eval, Act.put]) (by simp [Act.eval, Act.put]) HC.out ?_)
    go_wp2_with fail
    go_ret
    exact ⟨_, rfl, ⟨by simp [HL.out], .inr ⟨b, G, _, rfl, HG.out.1, HF.out.1, HG.out.2.1, HG.out.2.2, by rw [Nat.mul_one]; exact HFF.out.1, by rw [Nat.mul_one]; exact HFF.out.2⟩⟩, HF.out.2, .inr rfl⟩
  · have t1 : decide ((c : Int) < (n : Int) + 1) = false := by simp; omega
    have t1' : ¬ (c : Int) < (n : Int) + 1 := by omega
    have hroom : n + 1 ≤ c := by omega
    have hrI : (n : Int) + 1 ≤ (c : Int) := by omega
    have hov : ∀ lb cb, (callFunc 61 #[.slice (some ⟨bx, 0, none⟩) 1 1, .slice (some ⟨g, 1, none⟩) lb cb]).run Try.prog w = .ok (.value (.bool false)) w := fun lb cb => by
      rw [run_callFunc_extern Try.func61 (by kernel_rfl) (by kernel_rfl) (by kernel_rfl) (e := Extern.SlicesOverlaps.overlaps #[24, 24] #[4]) (by kernel_rfl),
        Lib.run_overlaps_apart w 24 4 3 uS 1 Try.sizeOf3 ⟨bx, 0, none⟩ ⟨g, 1, none⟩ 1 1 lb cb hgx 3 3 1 c (by have hbx' : w.heap[bx]? = _ := hbx; simp [World.shape?, hbx']) (by simp [World.shape?, hh, hs]) (by omega) (Ar.frozen hbx _) (Ar.frozen hbx _)]
      rfl
    have hcpA : ∀ (W : World), Ar W g cur 3 → ∀ ty dc sc, (Builtin.copy_ #[24, 24] ty #[.slice (some ⟨g, 1, none⟩) n dc, .slice (some ⟨g, 0, none⟩) (n + 1) sc]).run Try.prog W = .ok (goInt vs.length) (W.setCells g 1 vs) := fun W a1 ty dc sc =>
      run_copy_cells W _ _ ty 3 g 1 n dc ⟨g, 0, none⟩ (n + 1) sc vs uS hsz (by rw [hl]; simp [Nat.min_def]) (fun j u hj => by rw [Addr.add_lit, Ar.at' a1, Nat.zero_add]; exact hcs j u hj) (fun j hj => by rw [Ar.at' a1, Array.getElem?_eq_getElem (by omega)]; rfl) (fun j _ => Ar.frozen a1 _) h1
    have hcpB : ∀ (W : World), Ar W g (putL vs cur 1) 3 → Ar W bx #[x] 3 → ∀ ty dc, (Builtin.copy_ #[24, 24] ty #[.slice (some ⟨g, 0, none⟩) (n + 1) dc, .slice (some ⟨bx, 0, none⟩) 1 1]).run Try.prog W = .ok (goInt [x].length) (W.setCells g 0 [x]) := fun W a1 a2 ty dc =>
      run_copy_cells W _ _ ty 3 g 0 (n + 1) dc ⟨bx, 0, none⟩ 1 1 [x] uS hsz (by simp [Nat.min_def]) (fun j u hj => by rw [Addr.add_lit, Ar.at' a2]; simpa using hj) (fun j hj => by rw [Ar.at' a1, Array.getElem?_eq_getElem (by rw [putL_size]; simp at hj; omega)]; rfl) (fun j _ => Ar.frozen a1 _) (fun u hu => by rw [List.mem_singleton] at hu; rw [hu]; exact hx1)
    have hf := put_front (x := x) hl hs hroom (.inr rfl)
    have HF : Hid (Ar ((w.drew.setCells g 1 vs).setCells g 0 [x]) g (putL [x] (putL vs cur 1) 0) 3 ∧ w.grownBy ((w.drew.setCells g 1 vs).setCells g 0 [x]) (some g)) := Lib.hid ⟨ar_puts _ _ (ar_puts _ _ hA.drew), grown_puts (grown_puts (grown_drew (grown_refl w _)) (.inl rfl) _ _) (.inl rfl) _ _⟩
    have HFF := Lib.hid hf
    have HL := Lib.hid hl
    have HG := Lib.hid (show B ≤ g ∧ n + 1 ≤ c ∧ c ≤ maxLen from ⟨hg, hroom, hcm⟩)
    have HCA := Lib.hid (hcpA w.drew hA.drew 3 (c - 1) c)
    have HCB := Lib.hid (hcpB (w.drew.setCells g 1 vs) (ar_puts _ _ hA.drew) ((heap_puts hgx _ _ _).trans hbx.drew))
    have hc0 : ¬ (c = 0) := by omega
    have hc1 : ¬ (c = 1) := by omega
    have hw3 : IntKind.i64.wrap 1 = 1 := by decide
    have hq1 : (1 : Int) ≤ (n : Int) + 1 := by omega
    have hq0 : (0 : Int) ≤ (n : Int) := by omega
    have mixed : Try.prog.follows Departure.mixedOrders = true := by kernel_rfl
    clear hcpA hcpB hf hA hh hbx ho hne ht hcs hi0 hz0 hzs hzb hs hroom hgl hgx hg hcm hr
    obtain ⟨hw1, hw2⟩ := HW.out
    go_enter Try.func43, Try.ntmps43
    go_wp2_with (simp only [hov])
    go_region_law_o (refine step_copy_runI rfl _ _ 24 24 rfl (.slice (some ⟨g, 1, none⟩) n (c - 1)) (.slice (some ⟨g, 0, none⟩) (n + 1) c) (by simp [Act.eval, Act.put]) (by simp [Act.eval, Act.put]) HCA.out ?_)
    go_wp2_with fail
    rw [HCB.out]
    go_wp2_with fail
    go_ret
    exact ⟨_, rfl, ⟨by simp [HL.out], .inr ⟨g, c, _, rfl, HG.out.1, HF.out.1, HG.out.2.1, HG.out.2.2, by rw [Nat.mul_one]; exact HFF.out.1, by rw [Nat.mul_one]; exact HFF.out.2⟩⟩, HF.out.2, .inl rfl⟩
end Go.Proofs.Ytlfmkiendaecaaa.DfaW
