/- The chapter's example; a table that a law made. -/
import Derived.Test.YtkgklccafebcbaaPutS
namespace Go.Proofs.Ytkgklccafebcbaa.IntW
set_option linter.unusedVariables false
open Go.RowKit Go.Maps

/-- What the rounds of a law know of a table that was made in it. -/
structure Own (k T : TypeId) (s : Nat) (w W : World) (p m : Nat) (v : Value) (l : List Value) (N : Nat) : Prop where
  tbl : Tbl Try.prog k T 3 s W p m v l N
  b : Below w.heap.size w W
  new : ∀ c, Bl p m v c → w.heap.size ≤ c
theorem Own.next {k T : TypeId} {s : Nat} {w W W' : World} {p m : Nat} {v : Value} {l : List Value} {N : Nat} (h : Own k T s w W p m v l N) (hb : Below W.heap.size W W') : Own k T s w W' p m v l N :=
  ⟨h.tbl.below hb, h.b.trans (hb.mono h.b.size), h.new⟩
theorem Own.write {k T : TypeId} {s : Nat} {w W W' : World} {p m : Nat} {v v' : Value} {l l' : List Value} {N N' : Nat} (h : Own k T s w W p m v l N) (hT : Tbl Try.prog k T 3 s W' p m v' l' N') (hb : But W.heap.size (Bl p m v) W W') (hv : ∀ c, v'.ownBlock = some c → v.ownBlock = some c ∨ W.heap.size ≤ c) : Own k T s w W' p m v' l' N' := by
  refine ⟨hT, h.b.trans ((hb.mono h.b.size (fun c hc hs => hs)).below fun c hc => h.new c hc), fun c hc => ?_⟩
  rcases hc with rfl | rfl | hc
  · exact h.new _ (.inl rfl)
  · exact h.new _ (.inr (.inl rfl))
  · rcases hv c hc with h1 | h1
    · exact h.new c (.inr (.inr h1))
    · exact Nat.le_trans h.b.size h1
theorem Own.made {k T : TypeId} {s : Nat} {w W : World} {p m : Nat} (h : Tbl Try.prog k T 3 s W p m (.slice none 0 0) [] 0) (hb : Below w.heap.size w W) (hp : w.heap.size ≤ p) (hm : w.heap.size ≤ m) : Own k T s w W p m (.slice none 0 0) [] 0 :=
  ⟨h, hb, fun c hc => by rcases hc with rfl | rfl | hc; exact hp; exact hm; simp [Value.ownBlock] at hc⟩
abbrev OwnS (w W : World) (p m : Nat) (v : Value) (l : List Value) (N : Nat) : Prop := Own 9 56 1 w W p m v l N
set_option maxHeartbeats 1000000 in
theorem knows_any (w : World) :
    Calls Try.prog 7 #[] w fun e w' => e = .returned (.bool true) ∧ Below w.heap.size w w' := by
  go_enter Try.func7, Try.ntmps7
  go_wp2_with fail
  refine (NewS _).mono ?_
  rintro e w1 ⟨p, m, rfl, hp, hm, hT, hb⟩
  have H1 := Lib.hid (Own.made hT hb hp hm)
  clear hT hb hp hm
  go_wp2_with fail
  refine (PutS ⟨#[120]⟩ (by unfold maxLen; decide) H1.out.tbl (by omega)).mono ?_
  rintro e w2 ⟨v2, l2, i2, b2, rfl, hT, hb, hv, hc⟩
  rcases hc with ⟨hc, _⟩ | ⟨_, rfl, rfl, rfl⟩
  · simp at hc
  have H2 := Lib.hid (H1.out.write hT hb hv)
  clear hT hb hv H1
  go_wp2_with fail
  refine (PutS ⟨#[121]⟩ (by unfold maxLen; decide) H2.out.tbl (by omega)).mono ?_
  rintro e w3 ⟨v3, l3, i3, b3, rfl, hT, hb, hv, hc⟩
  rcases hc with ⟨hc, _⟩ | ⟨_, rfl, rfl, rfl⟩
  · exact absurd hc (by simp)
  have H3 := Lib.hid (H2.out.write hT hb hv)
  clear hT hb hv H2
  go_wp2_with fail
  refine (PutS ⟨#[120]⟩ (by unfold maxLen; decide) H3.out.tbl (by omega)).mono ?_
  rintro e w4 ⟨v4, l4, i4, b4, rfl, hT, hb, hv, hc⟩
  rcases hc with ⟨_, rfl, rfl, hi⟩ | ⟨hc, _⟩
  · have hi4 : i4 = 0 := hi.one hT.dist (.inl ⟨0, rfl, rfl⟩)
    subst hi4
    have H4 := Lib.hid (H3.out.write hT hb hv)
    clear hT hb hv H3 hi
    go_wp2_with fail
    refine (LenS H4.out.tbl).mono ?_
    rintro e w5 ⟨rfl, rfl⟩
    go_wp2_with fail
    go_ret
    exact ⟨rfl, H4.out.b⟩
  · exact absurd (by simp) hc
end Go.Proofs.Ytkgklccafebcbaa.IntW
