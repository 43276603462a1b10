/- Walks of normal, Norm (picked is not called here). -/
import Derived.Test.YtfhddbjojpmbcaaNumI
import Derived.Test.YtfhddbjojpmbcaaQuoC
namespace Go.Proofs.Ytfhddbjojpmbcaa.DfaW
set_option linter.unusedVariables false
set_option linter.unusedSimpArgs false
open Go.RowKit Go.Maps Go.Proofs.Ytfhddbjojpmbcaa.PartM Go.Proofs.Ytfhddbjojpmbcaa.PartW
theorem normal_any {v : Value} {l : List Int} (w : World) (h : IS w.heap.size w v l) (h6 : I64 l) (hl : l.length ≤ 1048576) :
    Calls Try.prog 45 #[v] w fun e w' => ∃ u x, e = .returned (.tuple #[u, x]) ∧ OI w' w.heap.size u (normV l) ∧ OI w' w.heap.size x (firstsI (blkE l) l.length) ∧ Below w.heap.size w w' := by
  have hb0 : Below w.heap.size w (w.alloc (.cells #[v] 24)) := (Below.refl _ _).alloc (Nat.le_refl _) _
  have HN := Lib.hid (numberedI (w := w.alloc (.cells #[v] 24)) ⟨w.heap.size, 0, none⟩ hl (blkE_eqv l) (keysI h6) fun W hb b hb' => normal1_any (B := w.heap.size) W ((Ar.new w #[v] 24).below hb) (h.below (hb0.trans (hb.mono hb0.size))) hb')
  obtain ⟨a, c, rfl, _, hm, _⟩ := h.open
  obtain ⟨n, hn⟩ : ∃ n, n = l.length := ⟨_, rfl⟩
  have HNE := Lib.hid hn
  rw [← hn] at HN hb0 ⊢
  have HB0 := Lib.hid hb0
  clear h h6 hl hn hm hb0
  go_enter Try.func45, Try.ntmps45
  go_wp2_with fail
  refine HN.out.mono ?_
  rintro e w1 ⟨u, x, rfl, h1, h2, hb⟩
  have HB := Lib.hid (HB0.out.trans (hb.mono HB0.out.size))
  have H1 := Lib.hid (owns_base h1 HB0.out.size); have H2 := Lib.hid (owns_base h2 HB0.out.size)
  clear h1 h2 hb HN
  go_wp2_with fail
  refine bodyPost_ret (v := .tuple #[u, x]) (by simp [results, Try.results45, go_sem]) rfl ⟨_, _, rfl, ?_, H2.out, HB.out⟩
  unfold normV
  rw [← HNE.out]
  exact H1.out
theorem quoNorm_any : NormC 30 := fun {v l} w h h6 hl => by
  have HN := Lib.hid (normal_any w h h6 hl)
  clear h h6 hl
  go_enter Try.func30, Try.ntmps30
  go_wp2_with fail
  refine HN.out.mono ?_
  rintro e w1 ⟨u, x, rfl, h1, h2, hb⟩
  have HB := Lib.hid hb; have H1 := Lib.hid h1
  clear h1 h2 hb HN
  go_wp2_with fail
  go_ret
  exact ⟨_, rfl, H1.out, HB.out⟩
end Go.Proofs.Ytfhddbjojpmbcaa.DfaW
