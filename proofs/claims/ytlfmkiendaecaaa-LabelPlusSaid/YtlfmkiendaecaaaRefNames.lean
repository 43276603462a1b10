/- Walk of the document's test of names. -/
import Derived.Test.YtlfmkiendaecaaaRefUsed
import Derived.Test.YtlfmkiendaecaaaSameL
namespace Go.Proofs.Ytlfmkiendaecaaa.DfaW
set_option linter.unusedVariables false
open Go.RowKit Go.Maps Go.Proofs.Ytlfmkiendaecaaa.PartM Go.Proofs.Ytlfmkiendaecaaa.PartW

theorem namesOk_iff {l : List ByteArray} : NamesOk l ↔ l.length ≤ 64 ∧ NamesTo l l.length := and_congr Iff.rfl NamesTo.ok
set_option maxRecDepth 100000 in
set_option maxHeartbeats 4000000 in
theorem refNamesOk_any {v : Value} {l : List ByteArray} (w : World) (h : TS w.heap.size w v l) :
    Calls Try.prog 34 #[v] w fun e w' => Says e (NamesOk l) ∧ Dr w w' := by
  have hs3 := h.2
  obtain ⟨a3, c3, rfl, p3, p3', hc3⟩ := h.open
  obtain ⟨n, hn⟩ : ∃ n, n = l.length := ⟨_, rfl⟩
  have q3 : (n : Int) ≤ 9223372036854775807 := by unfold maxLen at p3'; omega
  have HO := Lib.hid (@namesOk_iff l)
  rw [← hn] at HO hc3 hs3 ⊢
  have HC3 := Lib.hid hc3; have HS3 := Lib.hid hs3
  clear h p3 p3' hc3 hs3 hn
  go_enter Try.func34, Try.ntmps34
  go_wp2_with fail
  go_loopw [3] (fun i wr => ∃ k : Nat, k ≤ n ∧ i = .int .i64 k ∧ Hid (NamesTo l k) ∧ Dr w wr) (fun i _ => n - (intOf i).toNat)
  case atStart => exact ⟨0, Nat.zero_le _, rfl, Lib.hid fun j hj => absurd hj (Nat.not_lt_zero _), Dr.refl _⟩
  case round =>
    obtain ⟨k, hk, rfl, HA, hb⟩ := hrel
    by_cases hlt : k < n
    · obtain ⟨b3, o3, rfl, hb3, hc3⟩ := HC3.out k hlt
      have hc3' := (hb.below.cell (p := ⟨b3, o3 + k, none⟩) hb3).trans hc3
      have HN := Lib.hid (fun w => refName_any (l.getD k ByteArray.empty) (HS3.out k hlt) w)
      obtain ⟨x, hx⟩ : ∃ x, x = l.getD k ByteArray.empty := ⟨_, rfl⟩
      rw [← hx] at hc3' HN
      have HXE := Lib.hid hx
      have HB := Lib.hid hb
      have HLT := Lib.hid hlt
      clear hx hb hc3
      cases hok : nameOk x with
      | true =>
        have HOK := Lib.hid hok
        clear hok
        go_wp2_with fail
        refine (HN.out _).mono ?_
        rintro e w2 ⟨rfl, rfl⟩
        rw [HOK.out]
        go_wp2_with fail
        go_loopw [4] (fun i wr => ∃ j : Nat, j ≤ k ∧ i = .int .i64 j ∧ Hid (∀ i, i < j → l.getD i ByteArray.empty ≠ x) ∧ Dr w wr) (fun i _ => k - (intOf i).toNat)
        case atStart => exact ⟨0, Nat.zero_le _, rfl, Lib.hid fun j hj => absurd hj (Nat.not_lt_zero _), HB.out⟩
        case round =>
          obtain ⟨j, hj, rfl, HD, hb⟩ := hrel
          clear hc3'
          by_cases hlj : j < k
          · have hck : wr.drew.cell? ⟨b3, o3 + k, none⟩ = some (.string x) := by rw [HXE.out]; exact (hb.drew.below.cell (p := ⟨b3, o3 + k, none⟩) hb3).trans (HC3.out k HLT.out |>.elim fun b' h => h.elim fun o' h => by
              have e := h.1; simp only [Option.some.injEq, Addr.mk.injEq, and_true] at e; rw [e.1, e.2]; exact h.2.2)
            have hcj : wr.drew.cell? ⟨b3, o3 + j, none⟩ = some (.string (l.getD j ByteArray.empty)) := (hb.drew.below.cell (p := ⟨b3, o3 + j, none⟩) hb3).trans (HC3.out j (by omega) |>.elim fun b' h => h.elim fun o' h => by
              have e := h.1; simp only [Option.some.injEq, Addr.mk.injEq, and_true] at e; rw [e.1, e.2]; exact h.2.2)
            obtain ⟨y, hy⟩ : ∃ y, y = l.getD j ByteArray.empty := ⟨_, rfl⟩
            rw [← hy] at hcj
            have HYE := Lib.hid hy
            have HB2 := Lib.hid hb.drew
            have HLJ := Lib.hid hlj
            clear hy hb
            by_cases hxy : y = x
            · have t0 := ba_self x
              rw [hxy] at hcj
              have HXY := Lib.hid hxy
              clear hxy
              go_wp2_with fail
              go_region
              go_wp2_with fail
              go_ret
              refine ⟨Says.no fun h => ?_, HB2.out⟩
              have := ((HO.out.1 h).2 k HLT.out).2 j HLJ.out
              rw [← HYE.out, ← HXE.out] at this
              exact this HXY.out
            · have t0 := ba_ne hxy
              have HXY := Lib.hid hxy
              clear hxy
              go_wp2_with fail
              go_region
              go_wp2_with fail
              refine ⟨⟨j + 1, HLJ.out, by go_num, Lib.hid fun i hi => ?_, HB2.out⟩, by have := HLJ.out; simp [intOf]; omega⟩
              by_cases e : i = j
              · subst e; rw [← HYE.out]; exact HXY.out
              · exact HD.out i (by omega)
          · have hjk : j = k := by omega
            have HDK := Lib.hid (show ∀ i, i < k → l.getD i ByteArray.empty ≠ x by rw [← hjk]; exact HD.out)
            have HB2 := Lib.hid hb
            clear hjk hb
            go_wp2_with fail
            refine ⟨⟨k + 1, HLT.out, by go_num, Lib.hid fun i hi => ?_, HB2.out⟩, by have := HLT.out; simp [intOf]; omega⟩
            by_cases e : i = k
            · subst e; rw [← HXE.out]; exact ⟨HOK.out, HDK.out⟩
            · exact HA.out i (by omega)
      | false =>
        have HOK := Lib.hid hok
        clear hok
        go_wp2_with fail
        refine (HN.out _).mono ?_
        rintro e w2 ⟨rfl, rfl⟩
        rw [HOK.out]
        go_wp2_with fail
        go_ret
        refine ⟨Says.no fun h => ?_, HB.out⟩
        have := ((HO.out.1 h).2 k HLT.out).1
        rw [← HXE.out, HOK.out] at this
        cases this
    · have hkL : k = n := by omega
      have HNM := Lib.hid (show NamesTo l n by rw [← hkL]; exact HA.out)
      have HB := Lib.hid hb
      clear hb
      by_cases h64 : n ≤ 64
      · have t0 : decide ((n : Int) ≤ 64) = true := by simp; omega
        have H64 := Lib.hid h64
        go_wp2_with fail
        go_ret
        exact ⟨Says.yes (HO.out.2 ⟨H64.out, HNM.out⟩), HB.out⟩
      · have t0 : decide ((n : Int) ≤ 64) = false := by simp; omega
        have H64 := Lib.hid h64
        clear h64
        go_wp2_with fail
        go_ret
        exact ⟨Says.no fun h => H64.out (HO.out.1 h).1, HB.out⟩
end Go.Proofs.Ytlfmkiendaecaaa.DfaW
