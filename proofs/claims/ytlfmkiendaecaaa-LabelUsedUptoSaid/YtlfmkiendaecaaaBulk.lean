/- What the bound on the bulk gives: the lengths of texts and slices. -/
import Derived.Test.YtlfmkiendaecaaaRows
namespace Go.Proofs.Ytlfmkiendaecaaa.Bulk
theorem pos {H : Type} (d : DataW H) : 0 < Rows.uptoBulk d := by
  unfold Rows.uptoBulk
  split <;> omega
theorem count {H : Type} : ∀ l : List (DataW H), l.length ≤ Rows.uptoBulkAll l
  | [] => Nat.zero_le _
  | d :: l => by
    have h1 := pos d
    have h2 := count l
    rw [Rows.uptoBulkAll, List.length_cons]
    omega
theorem part {H : Type} {d : DataW H} : ∀ {l : List (DataW H)}, d ∈ l → Rows.uptoBulk d ≤ Rows.uptoBulkAll l
  | x :: l, h => by
    rw [Rows.uptoBulkAll]
    rcases List.mem_cons.1 h with rfl | h
    · omega
    · have := part h; omega
theorem upto_slice {H : Type} {l el sp : List (DataW H)} (hk : Rows.uptoSmall H l = true) (hm : DataW.slice el sp ∈ l) : el.length ≤ 1048576 := by
  have h1 : Rows.uptoBulkAll l ≤ 1048576 := of_decide_eq_true hk
  have h2 := part hm
  have h3 := count el
  rw [Rows.uptoBulk] at h2
  omega
theorem upto_string {H : Type} {l : List (DataW H)} {b : List UInt8} (hk : Rows.uptoSmall H l = true) (hm : DataW.lit (.string b) ∈ l) : b.length ≤ 1048576 := by
  have h1 : Rows.uptoBulkAll l ≤ 1048576 := of_decide_eq_true hk
  have h2 := part hm
  rw [Rows.uptoBulk] at h2
  omega
end Go.Proofs.Ytlfmkiendaecaaa.Bulk
