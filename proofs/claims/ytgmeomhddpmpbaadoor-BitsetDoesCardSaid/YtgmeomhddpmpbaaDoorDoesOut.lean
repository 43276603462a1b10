/- BitsetDoes: a room that none may have; too many operations. -/
import Derived.Test.YtgmeomhddpmpbaaDoorDoes
namespace Go.Proofs.YtgmeomhddpmpbaaDoor.BitsW
set_option linter.unusedVariables false
open Go.RowKit Go.Shelf Go.Proofs.YtgmeomhddpmpbaaDoor.SetM
theorem in_yes {n : Int} (h : inR 1048577 n = true) : decide (0 ≤ n) = true ∧ decide (n ≤ 1048576) = true := by
  simp [inR] at *; omega
theorem in_no {n : Int} (h : inR 1048577 n = false) : decide (0 ≤ n) = false ∨ (decide (0 ≤ n) = true ∧ decide (n ≤ 1048576) = false) := by
  simp [inR] at *; omega
theorem New_ok {n : Int} (h : inR 1048577 n = true) (w : World) : Calls Tryd.prog 6 #[.int .i64 n] w fun e w' => ∃ p q : Nat, w.heap.size ≤ p ∧ w.heap.size ≤ q ∧ e = .returned (.tuple #[.pointer (some ⟨p, 0, none⟩), .int .i64 0]) ∧ Bt w' p q n.toNat emptyF ∧ Below w.heap.size w w' :=
  (New_any n w).mono fun e w' h' => by
    rcases h' with ⟨_, p, q, h1, h2, h3, h4, h5⟩ | ⟨h1, _⟩
    · exact ⟨p, q, h1, h2, h3, h4, h5⟩
    · rw [h] at h1; cases h1
theorem New_not {n : Int} (h : inR 1048577 n = false) (w : World) : Calls Tryd.prog 6 #[.int .i64 n] w fun e w' => e = .returned (.tuple #[.pointer none, .int .i64 2]) ∧ w = w' :=
  (New_any n w).mono fun e w' h' => by
    rcases h' with ⟨h1, _⟩ | ⟨_, h2, h3⟩
    · rw [h] at h1; cases h1
    · exact ⟨h2, h3⟩
set_option maxRecDepth 100000 in
set_option maxHeartbeats 4000000 in
theorem BitsetDoes_out1 (n m : Int) (v : Value) (hn : inR 1048577 n = false) (w : World) :
    Calls Tryd.prog 3 #[.int .i64 n, .int .i64 m, v] w fun e w' => e = .returned (.bool true) ∧ Below w.heap.size w w' := by
  have HN := Lib.hid (fun W => New_not hn W)
  cases hm : inR 1048577 m
  · have HM := Lib.hid (fun W => New_not hm W)
    rcases in_no hn with g1 | ⟨g1, g2⟩ <;> rcases in_no hm with g3 | ⟨g3, g4⟩ <;> clear hn hm
    all_goals
      go_enter Tryd.func3, Tryd.ntmps3
      go_wp2_with fail
      refine (HN.out _).mono ?_
      rintro e w1 ⟨rfl, rfl⟩
      go_wp2_with fail
      refine (HM.out _).mono ?_
      rintro e w2 ⟨rfl, rfl⟩
      go_wp2_with fail
      go_ret
      exact ⟨rfl, Below.refl _ _⟩
  · have HM := Lib.hid (fun W => New_ok hm W)
    obtain ⟨g3, g4⟩ := in_yes hm
    rcases in_no hn with g1 | ⟨g1, g2⟩ <;> clear hn hm
    all_goals
      go_enter Tryd.func3, Tryd.ntmps3
      go_wp2_with fail
      refine (HN.out _).mono ?_
      rintro e w1 ⟨rfl, rfl⟩
      go_wp2_with fail
      refine (HM.out _).mono ?_
      rintro e w2 ⟨p, q, -, -, rfl, -, hb⟩
      have HB := Lib.hid hb
      clear hb
      go_wp2_with fail
      go_ret
      exact ⟨rfl, HB.out⟩
set_option maxRecDepth 100000 in
set_option maxHeartbeats 4000000 in
theorem BitsetDoes_out2 (n m : Int) (v : Value) (hn : inR 1048577 n = true) (hm : inR 1048577 m = false) (w : World) :
    Calls Tryd.prog 3 #[.int .i64 n, .int .i64 m, v] w fun e w' => e = .returned (.bool true) ∧ Below w.heap.size w w' := by
  have HN := Lib.hid (fun W => New_ok hn W)
  have HM := Lib.hid (fun W => New_not hm W)
  obtain ⟨g1, g2⟩ := in_yes hn
  rcases in_no hm with g3 | ⟨g3, g4⟩ <;> clear hn hm
  all_goals
    go_enter Tryd.func3, Tryd.ntmps3
    go_wp2_with fail
    refine (HN.out _).mono ?_
    rintro e w2 ⟨p, q, -, -, rfl, -, hb⟩
    have HB := Lib.hid hb
    clear hb
    go_wp2_with fail
    refine (HM.out _).mono ?_
    rintro e w2 ⟨rfl, rfl⟩
    go_wp2_with fail
    go_ret
    exact ⟨rfl, HB.out⟩
set_option maxRecDepth 100000 in
set_option maxHeartbeats 4000000 in
theorem BitsetDoes_out3 (n m : Int) (a : Option Addr) (k cap : Nat) (hk : 60 < k) (hn : inR 1048577 n = true) (hm : inR 1048577 m = true) (w : World) (he : EnvC w) :
    Calls Tryd.prog 3 #[.int .i64 n, .int .i64 m, .slice a k cap] w fun e w' => e = .returned (.bool true) ∧ Below w.heap.size w w' := by
  have hg := he.lt
  have HE := Lib.hid he
  have HN := Lib.hid (fun W => New_ok hn W)
  have HM := Lib.hid (fun W => New_ok hm W)
  obtain ⟨g1, g2⟩ := in_yes hn
  obtain ⟨g3, g4⟩ := in_yes hm
  have g5 : decide ((60 : Int) < (k : Int)) = true := by simp; omega
  clear hn hm he hk
  go_enter Tryd.func3, Tryd.ntmps3
  go_wp2_with fail
  refine (HN.out _).mono ?_
  rintro e w1 ⟨p, q, -, -, rfl, -, hb⟩
  have HB := Lib.hid hb
  clear hb
  go_wp2_with fail
  refine (HM.out _).mono ?_
  rintro e w2 ⟨p2, q2, -, -, rfl, -, hb⟩
  have HB2 := Lib.hid (HB.out.trans (hb.mono HB.out.size))
  clear hb
  go_wp2_with fail
  refine (knows_any _ (HE.out.below hg HB2.out)).mono ?_
  rintro e w3 ⟨rfl, hb⟩
  have HB3 := Lib.hid (HB2.out.trans (hb.mono HB2.out.size))
  clear hb
  go_wp2_with fail
  go_ret
  exact ⟨rfl, HB3.out⟩
end Go.Proofs.YtgmeomhddpmpbaaDoor.BitsW
