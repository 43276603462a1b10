/- Walk of layer 19's law: same. -/
import Derived.Test.YtciggkebbhineaaDoorLeasts
import Derived.RegionTactic
namespace Go.Proofs.YtciggkebbhineaaDoor.PartW
set_option linter.unusedVariables false
set_option linter.unusedSimpArgs false
open Go.RowKit Go.Maps Go.Proofs.YtciggkebbhineaaDoor.PartM Go.Proofs.YtciggkebbhineaaDoor.SetM Go.Proofs.YtciggkebbhineaaDoor.SetW

/-- A slice of these sets, from the head of its block on. -/
def Row4 (fs : List (Nat → Bool)) (v : Value) (W : World) : Prop := ∃ g cap, v = .slice (some ⟨g, 0, none⟩) fs.length cap ∧ fs.length ≤ 256 ∧ ∀ k (h : k < fs.length), At4 W g (k * 4) fs[k]
theorem row4_below {fs : List (Nat → Bool)} {v : Value} {W W' : World} (h : Row4 fs v W) (hb : Below W.heap.size W W') : Row4 fs v W' := by
  obtain ⟨g, cap, h1, h2, h3⟩ := h
  exact ⟨g, cap, h1, h2, fun k hk => (h3 k hk).below hb⟩
theorem Row4.of {w : World} {base : Nat} {e : TypeId} {v : Value} {n : Nat} {E : Nat → Nat → Bool} (h : w.ownsRow base e 4 v n (setCells (clsL E 256 n))) (hn : 0 < n) (hn2 : n ≤ 256) : Row4 (clsL E 256 n) v w := by
  obtain ⟨g, cap, rfl, _, _, _⟩ := owns_shape h hn
  exact ⟨g, cap, by rw [clsL_length], by rw [clsL_length]; exact hn2, fun k hk => owns_at h hk⟩

set_option maxRecDepth 100000 in
theorem same_any {fs : List (Nat → Bool)} {v v' : Value} {w : World} (h : Row4 fs v w) (h' : Row4 fs v' w) :
    Calls Tryd.prog 9 #[v, v'] w fun e w' => e = .returned (.bool true) ∧ Below w.heap.size w w' := by
  obtain ⟨g, cap, rfl, hl, hc⟩ := h
  obtain ⟨g', cap', rfl, _, hc'⟩ := h'
  obtain ⟨n, hn⟩ : ∃ n, n = fs.length := ⟨_, rfl⟩
  have HC := Lib.hid (show ∀ k, k < n → ∃ s, At4 w g (k * 4) s ∧ At4 w g' (k * 4) s from fun k hk => ⟨_, hc k (by rw [← hn]; exact hk), hc' k (by rw [← hn]; exact hk)⟩)
  have HN := Lib.hid (show n ≤ 256 by rw [hn]; exact hl)
  rw [← hn]
  clear hc hc' hl hn
  go_enter Tryd.func9, Tryd.ntmps9
  go_wp2_with fail
  go_loopw [5] (fun i wr => ∃ k : Nat, k ≤ n ∧ i = .int .i64 k ∧ Below w.heap.size w wr) (fun i _ => n - (intOf i).toNat)
  case atStart => exact ⟨0, by omega, rfl, Below.refl _ _⟩
  case round =>
    obtain ⟨k, hk, rfl, hb⟩ := hrel
    by_cases hlt : k < n
    · have t0 : decide ((k : Int) < n) = true := by simp; omega
      have t1 : ¬ (n : Int) ≤ (k : Int) := by omega
      have hws := wrap_succ (k := k) (by have := HN.out; omega)
      obtain ⟨s, q1, q2⟩ := HC.out k hlt
      obtain ⟨c0, c1, c2, c3⟩ := (show At4 wr.drew g (k * 4) _ from q1.below hb.drew)
      obtain ⟨d0, d1, d2, d3⟩ := (show At4 wr.drew g' (k * 4) _ from q2.below hb.drew)
      have hq := eqSet (wd s 0) (wd s 1) (wd s 2) (wd s 3) (wd s 0) (wd s 1) (wd s 2) (wd s 3)
      simp only [BEq.rfl, Bool.and_true] at hq
      have HLT := Lib.hid hlt; have HB := Lib.hid hb
      clear q1 q2 hlt hk hb
      go_wp2_with fail
      go_region
      go_wp2_with fail
      try rw [hws]
      exact ⟨⟨k + 1, HLT.out, rfl, HB.out.drew⟩, by have := HLT.out; simp [intOf]; omega⟩
    · obtain rfl : k = n := by omega
      have HB := Lib.hid hb
      clear hlt hk hb
      go_wp2_with fail
      go_ret
      exact ⟨rfl, HB.out⟩
end Go.Proofs.YtciggkebbhineaaDoor.PartW
