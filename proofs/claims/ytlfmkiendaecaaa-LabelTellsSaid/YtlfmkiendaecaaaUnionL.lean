/- Walk of Union: all texts of some lists, in a map; its keys, sorted. -/
import Derived.Test.YtlfmkiendaecaaaLabC
import Derived.Test.YtlfmkiendaecaaaMach
import Derived.Maps.RangeWalk
import Derived.Sort.KeysCollected
import Derived.Sort.OwnSorted
import Derived.Shelf.SlIter.Nil
namespace Go.Proofs.Ytlfmkiendaecaaa.DfaW
set_option linter.unusedVariables false
set_option linter.unusedSimpArgs false
open Go.RowKit Go.Maps Go.Sort Go.Shelf Go.Proofs.Ytlfmkiendaecaaa.PartM Go.Proofs.Ytlfmkiendaecaaa.PartW Go.Proofs.Ytlfmkiendaecaaa.TxM
/-- What a map tells: its keys are the texts of xs. -/
def SetOf (D : DataW Unit) (xs : List ByteArray) : Prop := ∀ t : ByteArray, has D (.string t.data.toList) = true ↔ t ∈ xs
theorem SetOf.empty : SetOf (.map []) [] := fun t => by
  constructor
  · intro h; cases h
  · intro h; cases h
theorem SetOf.put {D : DataW Unit} {xs : List ByteArray} (h : SetOf D xs) (hm : IsMap D) {s : ByteArray} (hk : WideAt.IsKeyLit (.string s.data.toList)) (d : DataW Unit) : SetOf (D.put (.string s.data.toList) d) (xs ++ [s]) := fun t => by
  by_cases e : t = s
  · subst e
    rw [has_put_same hm hk]; simp
  · have hne : (Lit.string t.data.toList) ≠ .string s.data.toList := fun h' => e (tx_ext (by simpa using h'))
    rw [has_put_other hne, h t]; simp [e]
/-- Whatever a map's element is, it reads as nothing. -/
def anyE : Value → Option (DataW Unit × List MemPlace) := fun _ => some (.lit (.bool true), [])
theorem lawS : Keyed Try.prog 9 := string_keyed Try.underlying9
/-- What was collected, as texts. -/
def txs (ss : List (List UInt8)) : List ByteArray := ss.map fun x => ⟨x.toArray⟩
theorem txs_cells (ss : List (List UInt8)) : (txs ss).map Value.string = ss.map Go.Proofs.encStr := by
  unfold txs Go.Proofs.encStr; simp
theorem mem_txs {ss : List (List UInt8)} {t : ByteArray} : t ∈ txs ss ↔ t.data.toList ∈ ss := by
  unfold txs
  rw [List.mem_map]
  constructor
  · rintro ⟨x, hx, rfl⟩; simpa using hx
  · intro h; exact ⟨_, h, tx_ext (by simp)⟩
theorem txs_len (ss : List (List UInt8)) : (txs ss).length = ss.length := by simp [txs]
/-- Sorted, what was collected is what rises. -/
theorem sorted_risen {D : DataW Unit} {xs : List ByteArray} {left : Lit → Bool} {ss : List (List UInt8)} (hD : SetOf D xs) (hc : Collected D left ss) (hl : ∀ kl, left kl = false) : txs (ss.mergeSort fun x y => decide (x ≤ y)) = risen xs := by
  have hp := List.mergeSort_perm ss fun x y => decide (x ≤ y)
  refine risen_one (rising_of_sorted ?_ ?_) fun t => ?_
  · have tr : ∀ a b c : List UInt8, decide (a ≤ b) = true → decide (b ≤ c) = true → decide (a ≤ c) = true := fun a b c h1 h2 => by simp only [decide_eq_true_eq] at *; exact List.le_trans h1 h2
    have to : ∀ a b : List UInt8, (decide (a ≤ b) || decide (b ≤ a)) = true := fun a b => by simp only [Bool.or_eq_true, decide_eq_true_eq]; exact List.le_total a b
    have := List.pairwise_mergeSort tr to ss
    unfold txs
    rw [List.pairwise_map]
    exact this.imp fun {a b} h => by simpa using h
  · unfold txs
    unfold List.Nodup
    rw [List.pairwise_map]
    exact (hp.nodup_iff.2 hc.1).imp fun {a b} h e => h (by injection e with e; simpa using congrArg Array.toList e)
  · rw [mem_txs, hp.mem_iff, hc.2, hl, ← hD t]; simp
theorem collected_of {D : DataW Unit} {xs : List ByteArray} (hD : SetOf D xs) {W : World} {b n : Nat} (ho : W.ownsMap Try.prog 9 anyE b n D) {ss : List (List UInt8)} (h : ss.Perm (strKeys D)) : Collected D (fun _ => false) ss := by
  have h0 : Collected D (fun _ => false) ((risen xs).map fun t => t.data.toList) := by
    refine ⟨?_, fun x => ?_⟩
    · unfold List.Nodup
      rw [List.pairwise_map]
      exact (risen_nodup xs).imp fun {a b} h e => h (tx_ext e)
    · have := hD ⟨x.toArray⟩
      rw [List.mem_map]
      constructor
      · rintro ⟨t, ht, rfl⟩
        exact ⟨(hD t).2 (mem_risen.1 ht), rfl⟩
      · rintro ⟨k, _⟩
        exact ⟨⟨x.toArray⟩, mem_risen.2 (this.1 (by simpa using k)), by simp⟩
  have hp := h.trans (h0.perm ho lawS Try.underlying9 (fun _ => rfl)).symm
  exact ⟨hp.nodup_iff.2 h0.1, fun x => by rw [hp.mem_iff]; exact h0.2 x⟩
theorem sortsK (m : Nat) : AnyZ.SortsIn Try.prog Try.sortedK_ren Fence.wide m :=
  ⟨fun blk off cap ss W hH hblk hsz => callsIn_wide.2 (Try.slices_Sort_string blk off cap ss W hH hblk hsz), fun p cap W => callsIn_wide.2 (Try.slices_Sort_string_none p cap W)⟩
theorem keysK_any (mb : Option Nat) (W : World) : Calls Try.prog 28 #[.map mb] W fun e w' => e = .returned (.func (.func 52) #[] #[.pointer (some ⟨W.heap.size, 0, none⟩)]) ∧ w' = W.alloc (.cells #[.map mb] 47) :=
  callsIn_wide.1 (AnyZ.keys_in Try.keysK Fence.wide 5 trivial rfl mb W)
set_option maxHeartbeats 1000000 in
theorem sortedK_any (b nn : Nat) (D0 : DataW Unit) (w : World) (hown : w.ownsMap Try.prog 9 anyE b nn D0) (hmax : Maps.size D0 ≤ maxLen) (hbytes : Maps.size D0 * 16 ≤ 140737488355328) :
    Calls Try.prog 27 #[.func (.func 52) #[] #[.pointer (some ⟨w.heap.size, 0, none⟩)]] (w.alloc (.cells #[.map (some b)] 47)) fun e w' => ∃ (v : Value) (ss : List (List UInt8)), e = .returned v ∧ ss.Perm (strKeys D0) ∧
      w'.ownsRow (w.alloc (.cells #[.map (some b)] 47)).heap.size 9 1 v ss.length ((ss.mergeSort (fun x y => decide (x ≤ y))).map encStr) ∧ (v = .slice none 0 0 ↔ ss = []) ∧ Below (w.alloc (.cells #[.map (some b)] 47)).heap.size (w.alloc (.cells #[.map (some b)] 47)) w' := by
  have hbl := hown.lt
  have hseq : SeqGives Fence.wide 2 Try.prog 52 #[.pointer (some ⟨w.heap.size, 0, none⟩)] encStr (fun ss => ss.Perm (strKeys D0)) (Maps.size D0) (w.alloc (.cells #[.map (some b)] 47)) :=
    AnyZ.keys_gives (ρ := Try.keysK_ren) { Try.keysK with } Fence.wide _ trivial rfl (by omega) w.heap.size b nn D0 _ (by simp) (by simp) (by
      obtain ⟨es, clock, hb, Ft, hs, hD⟩ := hown
      exact ⟨es, clock, (Below.heap_alloc _ _ b hbl).trans hb, Ft, hs, hD⟩)
  exact callsIn_wide.1 (AnyZ.sorted_in Try.sortedK Fence.wide 5 trivial trivial trivial trivial rfl (by omega) (sortsK _) (enters_of Try.func51 (by kernel_rfl) rfl) 52 #[.pointer (some ⟨w.heap.size, 0, none⟩)] trivial (enters_of Try.func52 (by kernel_rfl) rfl) _ _ hmax hbytes _ hseq)
theorem mapB : Try.prog.underlying 47 = some (.map 9 48) := Try.underlying47
theorem putS_ok {D : DataW Unit} {xs : List ByteArray} (h : SetOf D xs) {W : World} {b n : Nat} (ho : W.ownsMap Try.prog 9 anyE b n D) {s : ByteArray} (hs : s.size ≤ maxLen) (d : DataW Unit) : SetOf (D.put (.string s.data.toList) d) (xs ++ [s]) := by
  obtain ⟨es, hD, _⟩ := ho.entries lawS
  exact h.put ⟨es, hD⟩ (lawS.key (WideMaps.keyOf_string_mk (P := Try.prog) Try.underlying9 hs)) d
set_option maxRecDepth 100000 in
set_option maxHeartbeats 4000000 in
theorem labUnion_any : UnionC 10 := fun {v ll} w h hl hz => by
  have hmm := @run_makeMap Try.prog
  have HZ := Lib.hid hz
  obtain ⟨a, cap, rfl, h1, h2, h3⟩ := h.open
  obtain ⟨n, hn⟩ : ∃ n, n = ll.length := ⟨_, rfl⟩
  have hni : (n : Int) ≤ 9223372036854775807 := by unfold maxLen at h2; omega
  have HN := Lib.hid hn
  rw [← hn] at h3 ⊢
  have HC := Lib.hid h3; have HLL := Lib.hid hl
  have hm0 := World.ownsMap_made (H := Unit) w Try.prog 9 anyE
  have HM0 := Lib.hid hm0
  have HB0 := Lib.hid (show Below w.heap.size w (w.alloc (.map #[] 0)) from (Below.refl _ _).alloc (Nat.le_refl _) _)
  clear h h1 h2 h3 hn hl hz hm0
  go_enter Try.func10, Try.ntmps10
  go_wp2_with fail
  go_loopw [11] (fun i wr => ∃ (k : Nat) (D : DataW Unit), k ≤ n ∧ i = .int .i64 k ∧ wr.ownsMap Try.prog 9 anyE w.heap.size (flatTo ll k).length D ∧ Hid (SetOf D (flatTo ll k)) ∧ Below w.heap.size w wr) (fun i _ => n - (intOf i).toNat)
  case atStart => exact ⟨0, .map [], Nat.zero_le _, rfl, HM0.out, Lib.hid SetOf.empty, HB0.out⟩
  case round =>
    obtain ⟨k, D, hk, rfl, hM, HS, hb⟩ := hrel
    clear HM0 HB0
    by_cases hlt : k < n
    · obtain ⟨b, o, vi, rfl, hb1, hc1, hi1⟩ := HC.out k hlt
      obtain ⟨ar, cr, rfl, g1, g2, g3⟩ := hi1.open
      obtain ⟨r, hr⟩ : ∃ r, r = ll.getD k [] := ⟨_, rfl⟩
      obtain ⟨R, hR⟩ : ∃ R, R = r.length := ⟨_, rfl⟩
      have hmR : (R : Int) ≤ 9223372036854775807 := by unfold maxLen at g2; rw [← hr, ← hR] at g1; omega
      rw [← hr, ← hR] at g3 hc1
      have HG := Lib.hid g3
      have HRR := Lib.hid (show r = ll.getD k [] ∧ R = r.length from ⟨hr, hR⟩)
      have HLT := Lib.hid hlt
      have c1 := (hb.cell (p := ⟨b, o + k, none⟩) hb1).trans hc1
      have HM := Lib.hid hM; have HB := Lib.hid hb
      clear hM hb hi1 g1 g2 g3 hr hR hc1 hb1
      go_wp2_with fail
      clear c1
      go_loopw [17] (fun i wr => ∃ (j : Nat) (D : DataW Unit), j ≤ R ∧ i = .int .i64 j ∧ wr.ownsMap Try.prog 9 anyE w.heap.size (flatTo ll k ++ r.take j).length D ∧ Hid (SetOf D (flatTo ll k ++ r.take j)) ∧ Below w.heap.size w wr) (fun i _ => R - (intOf i).toNat)
      case atStart => exact ⟨0, D, Nat.zero_le _, rfl, by rw [List.take_zero, List.append_nil]; exact HM.out, by rw [List.take_zero, List.append_nil]; exact HS, HB.out⟩
      case round =>
        obtain ⟨j, D2, hj, rfl, hM, HS2, hb⟩ := hrel
        clear HM HB HS
        by_cases hlj : j < R
        · obtain ⟨b4, o4, rfl, hb4, hc4⟩ := HG.out j hlj
          have c2 := (hb.cell (p := ⟨b4, o4 + j, none⟩) hb4).trans hc4
          have HE := Lib.hid (takeT_snoc r (show j < r.length by rw [← HRR.out.2]; exact hlj))
          obtain ⟨x, hx⟩ : ∃ x, x = r.getD j ByteArray.empty := ⟨_, rfl⟩
          rw [← hx] at c2 HE
          have hxs : x.size ≤ maxLen := HZ.out x (part_mem ll (show k < ll.length by rw [← HN.out]; exact HLT.out) (j := j + 1) (by rw [← HRR.out.1, HE.out]; simp))
          have hkey := WideMaps.keyOf_string_mk (P := Try.prog) Try.underlying9 hxs
          have hln : (flatTo ll k ++ r.take j).length < maxLen := by
            have := part_len ll (show k < ll.length by rw [← HN.out]; exact HLT.out) j
            rw [← HRR.out.1] at this
            have := HLL.out
            unfold maxLen; omega
          have HPO := Lib.hid (putS_ok HS2.out hM hxs (.lit (.bool true)))
          have HLJ := Lib.hid hlj; have HB := Lib.hid hb; have HLN := Lib.hid hln
          clear hx hb hc4 hb4 hxs hln
          go_wp2_with (at_mapUpdate; refine wpList_mapUpdate_own _ rfl _ _ _ 47 rfl 9 48 lawS mapB _ w.heap.size _ D2 rfl hM HLN.out _ _ _ rfl rfl hkey _ [] rfl ?_; intro w4 hD4 hg4; have HD4 := Lib.hid hD4; have HG4 := Lib.hid hg4; clear hD4 hg4)
          refine ⟨⟨j + 1, D2.put (.string x.data.toList) (.lit (.bool true)), HLJ.out, by go_num, ?_, ?_, ?_⟩, by have := HLJ.out; simp [intOf]; omega⟩
          rotate_left
          · rw [HE.out, ← List.append_assoc]; exact HPO
          · exact HB.out.grown HG4.out HB.out.size (fun j hj => by cases hj; exact Nat.le_refl _)
          · rw [HE.out, ← List.append_assoc, List.length_append (bs := [x])]; exact HD4.out
        · have hjR : j = R := by omega
          have hE : flatTo ll k ++ r.take j = flatTo ll (k + 1) := by rw [hjR, HRR.out.2, List.take_length, flatTo_succ ll (by rw [← HN.out]; exact HLT.out), HRR.out.1]
          rw [hE] at hM HS2
          have HM := Lib.hid hM; have HB := Lib.hid hb
          clear hjR hb hM hE
          go_wp2_with fail
          exact ⟨⟨k + 1, D2, HLT.out, by go_num, HM.out, HS2, HB.out⟩, by have := HLT.out; simp [intOf]; omega⟩
    · have hkn : k = n := by omega
      have hE : flatTo ll k = ll.flatten := by rw [hkn, HN.out, flatTo_all]
      rw [hE] at hM HS
      have hsl := hM.size_le
      have hll := HLL.out
      have cK := Lib.hid (keysK_any (some w.heap.size) wr)
      have cS := Lib.hid (sortedK_any w.heap.size _ D wr hM (by unfold maxLen; omega) (by omega))
      have HBE := Lib.hid (hb.trans (((Below.refl w.heap.size wr).alloc hb.size (.cells #[.map (some w.heap.size)] 47))))
      have HCO := Lib.hid (fun (ss : List (List UInt8)) (h : ss.Perm (strKeys D)) => sorted_risen HS.out (collected_of HS.out hM h) (fun _ => rfl))
      have HHZ := Lib.hid (show Szs (risen ll.flatten) from fun x hx => HZ.out x (mem_risen.1 hx))
      have HSW := Lib.hid hb.size
      clear hkn hb hE hM hsl hll
      go_wp2_with fail
      refine cK.out.mono ?_
      rintro e w1 ⟨rfl, rfl⟩
      go_wp2_with fail
      refine cS.out.mono ?_
      rintro e w1 ⟨v', ss, rfl, hp, hrow, _, hb⟩
      have HEQ := Lib.hid (HCO.out ss hp)
      have HROW := Lib.hid hrow
      have HFB := Lib.hid (HBE.out.trans (hb.mono (by simp; have := HSW.out; omega)))
      clear hp hrow hb cK cS
      go_wp2_with fail
      go_ret
      refine ⟨_, rfl, ?_, HFB.out⟩
      have hl2 : (risen ll.flatten).length = ss.length := by rw [← HEQ.out, txs_len, (List.mergeSort_perm ss _).length_eq]
      refine OS.rx (b := (wr.alloc (.cells #[.map (some w.heap.size)] 47)).heap.size) ?_ HHZ.out (fun k hk => by simp; have := HSW.out; omega)
      unfold OS
      rw [hl2, ← HEQ.out, txs_cells]
      exact HROW.out
end Go.Proofs.Ytlfmkiendaecaaa.DfaW
