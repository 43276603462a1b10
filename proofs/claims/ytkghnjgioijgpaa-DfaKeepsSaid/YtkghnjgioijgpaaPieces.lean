/- Which machines may be: their rows, labels, names; walks of the parts of Right. -/
import Derived.Test.YtkghnjgioijgpaaMeans
namespace Go.Proofs.Ytkghnjgioijgpaa.DfaW
set_option linter.unusedVariables false
open Go.RowKit Go.Maps

/-- What is told is whether p. -/
def Says (e : Ending) (p : Prop) : Prop := ∃ b, e = .returned (.bool b) ∧ (b = true ↔ p)
theorem Says.yes {p : Prop} (h : p) : Says (.returned (.bool true)) p := ⟨true, rfl, ⟨fun _ => h, fun _ => rfl⟩⟩
theorem Says.no {p : Prop} (h : ¬ p) : Says (.returned (.bool false)) p := ⟨false, rfl, ⟨fun e => (by cases e), fun x => absurd x h⟩⟩
theorem Says.of {b : Bool} {p : Prop} (h : b = true ↔ p) : Says (.returned (.bool b)) p := ⟨b, rfl, h⟩
theorem Says.elim {e : Ending} {p : Prop} (h : Says e p) : (e = .returned (.bool true) ∧ p) ∨ (e = .returned (.bool false) ∧ ¬ p) := by
  obtain ⟨b, h1, h2⟩ := h
  cases b with
  | true => exact .inl ⟨h1, h2.1 rfl⟩
  | false => exact .inr ⟨h1, fun x => by have := h2.2 x; cases this⟩
/-- What is told is a number that is not below 0 just if p. -/
def Finds (e : Ending) (p : Prop) : Prop := ∃ k : Int, e = .returned (.int .i64 k) ∧ (0 ≤ k ↔ p)
def WrongIn (n : Int) (l : List Int) : Prop := ∃ i, i < l.length ∧ ¬ (0 ≤ l.getD i 0 ∧ l.getD i 0 ≤ n)
def RowOk (n wd : Int) (r : List Int) : Prop := (r.length : Int) = wd ∧ ∀ i, i < r.length → 0 ≤ r.getD i 0 ∧ r.getD i 0 < n
def RowsOk (n wd : Int) (nx : List (List Int)) : Prop := (nx.length : Int) = n ∧ ∀ j, j < nx.length → RowOk n wd (nx.getD j [])
def LabelsOk (n : Int) (l : List Int) : Prop := 1 ≤ l.length ∧ l.length ≤ 65536 ∧ ∀ i, i < l.length → 0 ≤ l.getD i 0 ∧ l.getD i 0 ≤ n
def NamesOk (l : List ByteArray) : Prop := l.length ≤ 64 ∧ ∀ i, i < l.length → nameOk (l.getD i ByteArray.empty) = true ∧ l.getD i ByteArray.empty ∉ l.take i

theorem within_any (s n : Int) (w : World) : Calls Try.prog 42 #[.int .i64 s, .int .i64 n] w fun e w' => e = .returned (.bool (decide (0 ≤ s ∧ s < n))) ∧ w = w' := by
  by_cases h1 : 0 ≤ s
  · by_cases h2 : s < n
    · go_enter Try.func42, Try.ntmps42
      go_wp2_with fail
      go_ret
      exact ⟨Base.ret_bool (by rw [Bool.eq_iff_iff]; simp <;> omega), rfl⟩
    · go_enter Try.func42, Try.ntmps42
      go_wp2_with fail
      go_ret
      exact ⟨Base.ret_bool (by rw [Bool.eq_iff_iff]; simp <;> omega), rfl⟩
  · go_enter Try.func42, Try.ntmps42
    go_wp2_with fail
    go_ret
    exact ⟨Base.ret_bool (by rw [Bool.eq_iff_iff]; simp <;> omega), rfl⟩
set_option maxHeartbeats 1000000 in
theorem rightRows_any {v : Value} {nx : List (List Int)} (n wd : Int) (w : World) (h : RS w.heap.size w v nx) :
    Calls Try.prog 34 #[v, .int .i64 n, .int .i64 wd] w fun e w' => Says e (RowsOk n wd nx) ∧ w = w' := by
  obtain ⟨a, cap, rfl, h1, h2, h3⟩ := h.open
  have HC := Lib.hid h3
  obtain ⟨L, hL⟩ : ∃ L, L = nx.length := ⟨_, rfl⟩
  have hm : (L : Int) ≤ 9223372036854775807 := by unfold maxLen at h2; omega
  have HR := Lib.hid (show RowsOk n wd nx ↔ (L : Int) = n ∧ ∀ j, j < L → RowOk n wd (nx.getD j []) by rw [hL]; exact Iff.rfl)
  rw [← hL] at HC ⊢
  clear h h1 h2 h3 hL
  by_cases hq : (L : Int) = n
  · have t0 : ((L : Int) != n) = false := by simp [hq]
    have HQ := Lib.hid hq
    clear hq
    go_enter Try.func34, Try.ntmps34
    go_wp2_with fail
    go_loop [17] (fun i => ∃ k : Nat, k ≤ L ∧ i = .int .i64 k ∧ Hid (∀ j, j < k → RowOk n wd (nx.getD j []))) (fun i => L - (intOf i).toNat)
    case atStart => exact ⟨0, Nat.zero_le _, rfl, Lib.hid fun j hj => absurd hj (Nat.not_lt_zero _)⟩
    case round =>
      obtain ⟨k, hk, rfl, HA⟩ := hrel
      by_cases hlt : k < L
      · obtain ⟨b, o, vi, rfl, hb, hc, hv⟩ := HC.out k hlt
        obtain ⟨a2, cap2, rfl, g1, g2, g3⟩ := hv.open
        obtain ⟨r, hr⟩ : ∃ r, r = nx.getD k [] := ⟨_, rfl⟩
        obtain ⟨R, hR⟩ : ∃ R, R = r.length := ⟨_, rfl⟩
        have hmR : (R : Int) ≤ 9223372036854775807 := by unfold maxLen at g2; rw [← hr, ← hR] at g1; omega
        rw [← hr, ← hR] at g3
        rw [← hr, ← hR] at hc
        have HG := Lib.hid g3
        have HRR := Lib.hid (show r = nx.getD k [] ∧ R = r.length from ⟨hr, hR⟩)
        have HLT := Lib.hid hlt
        clear hv g1 g2 g3 hr hR hb
        by_cases hw : (R : Int) = wd
        · have t1 : ((R : Int) != wd) = false := by simp [hw]
          have HW := Lib.hid hw
          clear hw
          go_wp2_with fail
          go_loop [27] (fun i => ∃ j : Nat, j ≤ R ∧ i = .int .i64 j ∧ Hid (∀ i, i < j → 0 ≤ r.getD i 0 ∧ r.getD i 0 < n)) (fun i => R - (intOf i).toNat)
          case atStart => exact ⟨0, Nat.zero_le _, rfl, Lib.hid fun j hj => absurd hj (Nat.not_lt_zero _)⟩
          case round =>
            obtain ⟨j, hj, rfl, HB⟩ := hrel
            clear hc
            by_cases hlj : j < R
            · obtain ⟨b2, o2, rfl, _, hc2⟩ := HG.out j hlj
              obtain ⟨x, hxe⟩ : ∃ x, x = r.getD j 0 := ⟨_, rfl⟩
              rw [← hxe] at hc2
              have HXE := Lib.hid hxe
              have HW2 := Lib.hid (fun w => within_any x n w)
              have HLJ := Lib.hid hlj
              clear hxe
              by_cases hx : 0 ≤ x ∧ x < n
              · have HX := Lib.hid hx
                have HD := Lib.hid (decide_eq_true hx)
                clear hx
                go_wp2_with fail
                refine (HW2.out _).mono ?_
                rintro e w1 ⟨rfl, rfl⟩
                rw [HD.out]
                go_wp2_with fail
                refine ⟨⟨j + 1, hlj, by go_num, Lib.hid fun i hi => ?_⟩, by simp [intOf]; omega⟩
                by_cases e : i = j
                · subst e; rw [← HXE.out]; exact HX.out
                · exact HB.out i (by omega)
              · have HX := Lib.hid hx
                have HD := Lib.hid (decide_eq_false hx)
                clear hx
                go_wp2_with fail
                refine (HW2.out _).mono ?_
                rintro e w1 ⟨rfl, rfl⟩
                rw [HD.out]
                go_wp2_with fail
                go_ret
                refine ⟨Says.no fun h => ?_, rfl⟩
                have := (HR.out.1 h).2 k HLT.out
                rw [← HRR.out.1] at this
                exact HX.out (by rw [HXE.out]; exact this.2 j (by rw [← HRR.out.2]; exact HLJ.out))
            · have hjR : j = R := by omega
              have HRK := Lib.hid (show RowOk n wd r from ⟨by rw [← HRR.out.2]; exact HW.out, fun i hi => HB.out i (by rw [hjR, HRR.out.2]; exact hi)⟩)
              clear hjR
              go_wp2_with fail
              refine ⟨⟨k + 1, HLT.out, by go_num, Lib.hid fun i hi => ?_⟩, by have := HLT.out; simp [intOf]; omega⟩
              by_cases e : i = k
              · subst e; rw [← HRR.out.1]; exact HRK.out
              · exact HA.out i (by omega)
        · have t1 : ((R : Int) != wd) = true := by simp [hw]
          have HW := Lib.hid hw
          clear hw
          go_wp2_with fail
          go_ret
          refine ⟨Says.no fun h => ?_, rfl⟩
          have := (HR.out.1 h).2 k HLT.out
          rw [← HRR.out.1] at this
          exact absurd (by rw [HRR.out.2]; exact this.1) HW.out
      · have hkL : k = L := by omega
        subst hkL
        go_wp2_with fail
        go_ret
        exact ⟨Says.yes (HR.out.2 ⟨HQ.out, HA.out⟩), rfl⟩
  · have t0 : ((L : Int) != n) = true := by simp [hq]
    have HQ := Lib.hid hq
    clear hq
    go_enter Try.func34, Try.ntmps34
    go_wp2_with fail
    go_ret
    exact ⟨Says.no fun h => absurd (HR.out.1 h).1 HQ.out, rfl⟩

/-! ### Labels -/
theorem wrong_any (x n : Int) (B : Nat) (w : World) (h : w.cell? ⟨B, 0, none⟩ = some (.int .i64 n)) :
    Calls Try.prog 56 #[.int .i64 x, .pointer (some ⟨B, 0, none⟩)] w fun e w' => e = .returned (.bool (!decide (0 ≤ x ∧ x ≤ n))) ∧ w = w' := by
  by_cases h1 : 0 ≤ x
  · by_cases h2 : x ≤ n
    · go_enter Try.func56, Try.ntmps56
      go_wp2_with fail
      go_ret
      exact ⟨Base.ret_bool (by rw [Bool.eq_iff_iff]; simp <;> omega), rfl⟩
    · go_enter Try.func56, Try.ntmps56
      go_wp2_with fail
      go_ret
      exact ⟨Base.ret_bool (by rw [Bool.eq_iff_iff]; simp <;> omega), rfl⟩
  · go_enter Try.func56, Try.ntmps56
    go_wp2_with fail
    go_ret
    exact ⟨Base.ret_bool (by rw [Bool.eq_iff_iff]; simp <;> omega), rfl⟩
set_option maxHeartbeats 1000000 in
theorem IndexFunc_any {v : Value} {l : List Int} (n : Int) (B : Nat) (w : World) (hB : w.cell? ⟨B, 0, none⟩ = some (.int .i64 n)) {Bo : Nat} (h : IS Bo w v l) :
    Calls Try.prog 69 #[v, .func (.func 56) #[] #[.pointer (some ⟨B, 0, none⟩)]] w fun e w' => Finds e (WrongIn n l) ∧ w = w' := by
  obtain ⟨a, cap, rfl, h1, h2, h3⟩ := h.open
  have HC := Lib.hid h3
  obtain ⟨L, hL⟩ : ∃ L, L = l.length := ⟨_, rfl⟩
  have hm : (L : Int) ≤ 9223372036854775807 := by unfold maxLen at h2; omega
  have HW := Lib.hid (fun x => wrong_any x n B w hB)
  have HLL := Lib.hid hL
  rw [← hL] at HC
  rw [show (Value.slice a l.length cap) = .slice a L cap by rw [hL]]
  clear h h1 h2 h3 hL hB
  go_enter Try.func69, Try.ntmps69
  go_wp2_with fail
  go_loop [8] (fun i => ∃ k : Nat, k ≤ L ∧ i = .int .i64 k ∧ Hid (∀ j, j < k → 0 ≤ l.getD j 0 ∧ l.getD j 0 ≤ n)) (fun i => L - (intOf i).toNat)
  case atStart => exact ⟨0, Nat.zero_le _, rfl, Lib.hid fun j hj => absurd hj (Nat.not_lt_zero _)⟩
  case round =>
    obtain ⟨k, hk, rfl, HA⟩ := hrel
    by_cases hlt : k < L
    · obtain ⟨b, o, rfl, hb, hc⟩ := HC.out k hlt
      obtain ⟨x, hxe⟩ : ∃ x, x = l.getD k 0 := ⟨_, rfl⟩
      rw [← hxe] at hc
      have HXE := Lib.hid hxe
      clear hxe
      by_cases hx : 0 ≤ x ∧ x ≤ n
      · have HX := Lib.hid hx
        have HD := Lib.hid (decide_eq_true hx)
        clear hx hb
        go_wp2_with fail
        refine (HW.out _).mono ?_
        rintro e w1 ⟨rfl, rfl⟩
        rw [HD.out]
        go_wp2_with fail
        refine ⟨⟨k + 1, hlt, by go_num, Lib.hid fun i hi => ?_⟩, by simp [intOf]; omega⟩
        by_cases e : i = k
        · subst e; rw [← HXE.out]; exact HX.out
        · exact HA.out i (by omega)
      · have HX := Lib.hid (show ¬ (0 ≤ l.getD k 0 ∧ l.getD k 0 ≤ n) by rw [← HXE.out]; exact hx)
        have HD := Lib.hid (decide_eq_false hx)
        clear hx hb
        go_wp2_with fail
        refine (HW.out _).mono ?_
        rintro e w1 ⟨rfl, rfl⟩
        rw [HD.out]
        go_wp2_with fail
        go_ret
        exact ⟨⟨_, rfl, ⟨fun _ => ⟨k, by rw [← HLL.out]; exact hlt, HX.out⟩, fun _ => by omega⟩⟩, rfl⟩
    · have hkL : k = L := by omega
      subst hkL
      go_wp2_with fail
      go_ret
      exact ⟨⟨_, rfl, ⟨fun h => absurd h (by decide), fun ⟨i, hi, hn⟩ => absurd (HA.out i (by rw [HLL.out]; exact hi)) hn⟩⟩, rfl⟩
theorem ContainsFunc_any {v : Value} {l : List Int} (n : Int) (B : Nat) (w : World) (hB : w.cell? ⟨B, 0, none⟩ = some (.int .i64 n)) {Bo : Nat} (h : IS Bo w v l) :
    Calls Try.prog 57 #[v, .func (.func 56) #[] #[.pointer (some ⟨B, 0, none⟩)]] w fun e w' => Says e (WrongIn n l) ∧ w = w' := by
  have HI := Lib.hid (IndexFunc_any n B w hB h)
  clear hB h
  go_enter Try.func57, Try.ntmps57
  go_wp2_with fail
  refine HI.out.mono ?_
  rintro e w1 ⟨⟨k, rfl, hk⟩, rfl⟩
  have HK := Lib.hid hk
  clear hk
  go_wp2_with fail
  go_ret
  exact ⟨Says.of (by rw [decide_eq_true_iff]; exact HK.out), rfl⟩
set_option maxHeartbeats 1000000 in
theorem rightLabels_any {v : Value} {l : List Int} (n : Int) (w : World) (h : IS w.heap.size w v l) :
    Calls Try.prog 33 #[v, .int .i64 n] w fun e w' => Says e (LabelsOk n l) ∧ Below w.heap.size w w' := by
  have hb0 : Below w.heap.size w (w.alloc (.cells #[.int .i64 n] 3)) := (Below.refl _ _).alloc (Nat.le_refl _) _
  have hc0 : (w.alloc (.cells #[.int .i64 n] 3)).cell? ⟨w.heap.size, 0, none⟩ = some (.int .i64 n) := by rw [World.cell?_alloc_new]; rfl
  have HF := Lib.hid (ContainsFunc_any n w.heap.size _ hc0 (h.below hb0))
  have HB := Lib.hid hb0
  obtain ⟨a, cap, rfl, h1, h2, h3⟩ := h.open
  obtain ⟨L, hL⟩ : ∃ L, L = l.length := ⟨_, rfl⟩
  have HR := Lib.hid (show LabelsOk n l ↔ 1 ≤ L ∧ L ≤ 65536 ∧ ¬ WrongIn n l by
    rw [hL]
    unfold LabelsOk
    constructor
    · rintro ⟨x, y, z⟩; exact ⟨x, y, fun ⟨i, hi, hn⟩ => hn (z i hi)⟩
    · rintro ⟨x, y, z⟩; exact ⟨x, y, fun i hi => Classical.byContradiction fun hn => z ⟨i, hi, hn⟩⟩)
  have hmf : ∀ (fn : Fn) (first cap : Array Value) (w : World), (Instr.makeFunc fn first cap).run Try.prog w = .ok (.func fn first cap) w := fun _ _ _ _ => rfl
  rw [← hL] at HF ⊢
  clear h h1 h2 h3 hb0 hc0
  clear hL
  by_cases p1 : 1 ≤ L
  · by_cases p2 : L ≤ 65536
    · go_enter Try.func33, Try.ntmps33
      go_wp2_with fail
      refine HF.out.mono ?_
      rintro e w1 ⟨⟨b, rfl, hb⟩, rfl⟩
      have HBB := Lib.hid hb
      clear hb
      go_wp2_with fail
      go_ret
      refine ⟨Says.of ?_, HB.out⟩
      rw [HR.out, ← HBB.out]
      cases b <;> simp [p1, p2]
    · go_enter Try.func33, Try.ntmps33
      go_wp2_with fail
      go_ret
      exact ⟨Says.of ⟨fun h => (by simp at h <;> omega), fun h => absurd (HR.out.1 h).2.1 p2⟩, HB.out⟩
  · go_enter Try.func33, Try.ntmps33
    go_wp2_with fail
    go_ret
    exact ⟨Says.of ⟨fun h => (by simp at h <;> omega), fun h => absurd (HR.out.1 h).1 p1⟩, HB.out⟩

/-! ### Names -/
set_option maxHeartbeats 1000000 in
theorem rightNames_any {v : Value} {l : List ByteArray} (w : World) (h : TS w.heap.size w v l) :
    Calls Try.prog 32 #[v] w fun e w' => Says e (NamesOk l) ∧ w = w' := by
  have HT := Lib.hid h
  have hs := h.2
  obtain ⟨a, cap, rfl, h1, h2, h3⟩ := h.open
  have HC := Lib.hid h3
  obtain ⟨L, hL⟩ : ∃ L, L = l.length := ⟨_, rfl⟩
  have HR := Lib.hid (show NamesOk l ↔ L ≤ 64 ∧ ∀ i, i < L → nameOk (l.getD i ByteArray.empty) = true ∧ l.getD i ByteArray.empty ∉ l.take i by rw [hL]; exact Iff.rfl)
  have HPRE := Lib.hid (fun (n c : Nat) (hn : n ≤ L) x => ContainsS_pre h n c (by omega) x)
  have hcap : L ≤ cap := by omega
  have hcapm : (cap : Int) ≤ 9223372036854775807 := by unfold maxLen at h2; omega
  have HS := Lib.hid (fun i (hi : i < L) => hs i (by omega))
  rw [← hL] at HC HT ⊢
  clear h h1 h2 h3 hL hs
  by_cases p : L ≤ 64
  · have HP := Lib.hid p
    go_enter Try.func32, Try.ntmps32
    go_wp2_with fail
    go_loop [10] (fun i => ∃ k : Nat, k ≤ L ∧ i = .int .i64 k ∧ Hid (∀ j, j < k → nameOk (l.getD j ByteArray.empty) = true ∧ l.getD j ByteArray.empty ∉ l.take j)) (fun i => L - (intOf i).toNat)
    case atStart => exact ⟨0, Nat.zero_le _, rfl, Lib.hid fun j hj => absurd hj (Nat.not_lt_zero _)⟩
    case round =>
      obtain ⟨k, hk, rfl, HA⟩ := hrel
      by_cases hlt : k < L
      · obtain ⟨b, o, rfl, hb, hc⟩ := HC.out k hlt
        have HLT := Lib.hid hlt
        have HN := Lib.hid (fun w => Name_any (l.getD k ByteArray.empty) (HS.out k hlt) w)
        obtain ⟨x, hx⟩ : ∃ x, x = l.getD k ByteArray.empty := ⟨_, rfl⟩
        rw [← hx] at hc HN
        have HX := Lib.hid hx
        clear hx hb
        cases hok : nameOk x with
        | true =>
          have HOK := Lib.hid hok
          clear hok
          go_wp2_with fail
          refine (HN.out _).mono ?_
          rintro e w1 ⟨rfl, rfl⟩
          rw [HOK.out]
          go_wp2_with fail
          refine (HPRE.out k cap hk x).mono ?_
          rintro e w1 ⟨⟨b2, rfl, hb2⟩, rfl⟩
          cases b2 with
          | true =>
            have HM := Lib.hid (hb2.1 rfl)
            clear hb2
            go_wp2_with fail
            go_ret
            refine ⟨Says.no fun h => ?_, rfl⟩
            have := ((HR.out.1 h).2 k HLT.out).2
            rw [← HX.out] at this
            exact absurd HM.out this
          | false =>
            have HM := Lib.hid (show x ∉ l.take k from fun h => by have := hb2.2 h; cases this)
            clear hb2
            go_wp2_with fail
            refine ⟨⟨k + 1, HLT.out, by go_num, Lib.hid fun i hi => ?_⟩, by have := HLT.out; simp [intOf]; omega⟩
            by_cases e : i = k
            · subst e; rw [← HX.out]; exact ⟨HOK.out, HM.out⟩
            · exact HA.out i (by omega)
        | false =>
          have HOK := Lib.hid hok
          clear hok
          go_wp2_with fail
          refine (HN.out _).mono ?_
          rintro e w1 ⟨rfl, rfl⟩
          rw [HOK.out]
          go_wp2_with fail
          go_ret
          refine ⟨Says.no fun h => ?_, rfl⟩
          have := ((HR.out.1 h).2 k HLT.out).1
          rw [← HX.out, HOK.out] at this
          cases this
      · have hkL : k = L := by omega
        subst hkL
        go_wp2_with fail
        go_ret
        exact ⟨Says.yes (HR.out.2 ⟨HP.out, HA.out⟩), rfl⟩
  · go_enter Try.func32, Try.ntmps32
    go_wp2_with fail
    go_ret
    exact ⟨Says.no fun h => absurd (HR.out.1 h).1 p, rfl⟩
end Go.Proofs.Ytkghnjgioijgpaa.DfaW
