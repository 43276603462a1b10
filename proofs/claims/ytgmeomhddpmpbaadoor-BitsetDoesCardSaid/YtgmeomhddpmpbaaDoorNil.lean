/- BitsetNil. -/
import Derived.Test.YtgmeomhddpmpbaaDoorKnows
import Derived.Test.YtgmeomhddpmpbaaDoorMeets
namespace Go.Proofs.YtgmeomhddpmpbaaDoor.BitsW
set_option linter.unusedVariables false
open Go.RowKit Go.Shelf Go.Proofs.YtgmeomhddpmpbaaDoor.SetM

theorem rows_empty (k : Nat) : rows emptyF k = [] := by
  unfold rows; rw [List.filter_eq_nil_iff]; intro j _; rw [wd_empty]; simp
theorem key_empty (n : Nat) : keyOf emptyF n = ⟨#[]⟩ := by unfold keyOf; rw [rows_empty]; rfl
theorem or_empty (n : Nat) : orF n emptyF emptyF = emptyF := by funext i; simp [orF, emptyF]
theorem more_empty (n : Nat) (f : Nat → Bool) : moreB n f emptyF = false := by simp [moreB, emptyF]
theorem meet_empty (n : Nat) (f : Nat → Bool) : meetB n f emptyF = false := by simp [meetB, emptyF]
/-- What the rounds of a law know of a set that was made in it. -/
structure Own1 (w W : World) (p q n : Nat) (f : Nat → Bool) : Prop where
  bt : Bt W p q n f
  env : EnvC W
  b : Below w.heap.size w W
  p : w.heap.size ≤ p
  q : w.heap.size ≤ q
theorem Own1.next {w W W' : World} {p q n : Nat} {f : Nat → Bool} (h : Own1 w W p q n f) (hg : 0 < w.heap.size) (hb : Below W.heap.size W W') : Own1 w W' p q n f :=
  ⟨h.bt.below hb, h.env.below (Nat.lt_of_lt_of_le hg h.b.size) hb, h.b.trans (hb.mono h.b.size), h.p, h.q⟩
theorem Own1.write {w W W' : World} {p q n : Nat} {f f' : Nat → Bool} (h : Own1 w W p q n f) (hg : 0 < w.heap.size) (hb : But W.heap.size (some q) W W') (hB : Bt W' p q n f') : Own1 w W' p q n f' :=
  ⟨hB, h.env.up hb (Nat.lt_of_lt_of_le hg h.b.size) (fun e => by injection e with e; have := h.q; omega), h.b.trans ((hb.mono h.b.size).below (fun k e => by cases e; exact h.q)), h.p, h.q⟩
set_option maxHeartbeats 4000000 in
theorem BitsetNil_any (i : Int) (n : Nat) (hn : n < 256) (w : World) (he : EnvC w) :
    Calls Tryd.prog 4 #[.int .i64 i, .int .u8 n] w fun e w' => e = .returned (.bool true) ∧ Below w.heap.size w w' := by
  have hg := he.lt
  have HE := Lib.hid he
  clear he
  have hni : IntKind.i64.wrap (n : Int) = (n : Int) := by rw [IntKind.wrap_i64]; omega
  go_enter Tryd.func4, Tryd.ntmps4
  go_wp2_with fail
  refine (New_yes n _ (by omega)).mono ?_
  rintro e w1 (⟨_, p, q, hp, hq, rfl, hB, hb⟩ | ⟨h, _⟩)
  · rw [Int.toNat_natCast] at hB
    have H1 := Lib.hid (show Own1 w w1 p q n emptyF from ⟨hB, HE.out.below hg hb, hb, hp, hq⟩)
    clear hB hb HE hni
    go_wp2_with fail
    refine (Put_nil i _).mono ?_
    rintro e w' ⟨rfl, rfl⟩
    go_wp2_with fail
    refine (Take_nil i _).mono ?_
    rintro e w' ⟨rfl, rfl⟩
    go_wp2_with fail
    refine (Has_nil i _).mono ?_
    rintro e w' ⟨rfl, rfl⟩
    go_wp2_with fail
    refine (Or_nil _ _).mono ?_
    rintro e w2 ⟨rfl, hb⟩
    have H2 := Lib.hid (H1.out.next hg hb)
    clear hb H1
    go_wp2_with fail
    refine (Meets_nil _ _).mono ?_
    rintro e w3 ⟨rfl, hb⟩
    have H3 := Lib.hid (H2.out.next hg hb)
    clear hb H2
    go_wp2_with fail
    refine (Or_any p q n emptyF none 0 0 emptyF _ H3.out.bt (src_nil (Nat.lt_of_lt_of_le hg H3.out.b.size)) (by omega)).mono ?_
    rw [more_empty, or_empty]
    rintro e w4 ⟨rfl, hB, hb⟩
    have H4 := Lib.hid (H3.out.write hg hb hB)
    clear hb hB H3
    go_wp2_with fail
    refine (Meets_any p q n emptyF none 0 0 emptyF _ H4.out.bt (src_nil (Nat.lt_of_lt_of_le hg H4.out.b.size))).mono ?_
    rw [meet_empty]
    rintro e w5 ⟨rfl, hb⟩
    have H5 := Lib.hid (H4.out.next hg hb)
    clear hb H4
    go_wp2_with fail
    refine (Count_any none 0 0 emptyF _ (src_nil (Nat.lt_of_lt_of_le hg H5.out.b.size))).mono ?_
    rw [show (upTo emptyF 0).length = 0 from rfl]
    rintro e w6 ⟨rfl, hb⟩
    have H6 := Lib.hid (H5.out.next hg hb)
    clear hb H5
    go_wp2_with fail
    refine (All_any none 0 0 emptyF _ (src_nil (Nat.lt_of_lt_of_le hg H6.out.b.size)) H6.out.env).mono ?_
    rintro e w7 ⟨u, rfl, hown, hb⟩
    obtain ⟨ao, co, rfl, _⟩ := nsl_of hown
    have H7 := Lib.hid (H6.out.next hg hb)
    clear hb H6 hown
    rw [show (upTo emptyF 0).length = 0 from rfl]
    go_wp2_with fail
    refine (Room_nil _).mono ?_
    rintro e w' ⟨rfl, rfl⟩
    go_wp2_with fail
    refine (Key_any none 0 0 emptyF _ (src_nil (Nat.lt_of_lt_of_le hg H7.out.b.size))).mono ?_
    rw [key_empty]
    rintro e w8 ⟨rfl, hb⟩
    have H8 := Lib.hid (H7.out.next hg hb)
    clear hb H7
    go_wp2_with fail
    refine (Key_any (some ⟨p, 0, none⟩) q n emptyF _ (src_of H8.out.bt)).mono ?_
    rw [key_empty]
    rintro e w9 ⟨rfl, hb⟩
    have H9 := Lib.hid (H8.out.next hg hb)
    clear hb H8
    go_wp2_with fail
    refine (Copy_nil _).mono ?_
    rintro e w' ⟨rfl, rfl⟩
    go_wp2_with fail
    refine (knows_any _ H9.out.env).mono ?_
    rintro e w10 ⟨rfl, hb⟩
    have H10 := Lib.hid (H9.out.next hg hb)
    clear hb H9
    go_wp2_with fail
    go_ret
    exact ⟨rfl, H10.out.b⟩
  · exact absurd h (by simp [inR]; omega)
end Go.Proofs.YtgmeomhddpmpbaaDoor.BitsW
