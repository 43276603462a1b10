/- What the row's list of variables gives: the table of the lowest bits; bytes that are handed in. -/
import Derived.Test.YthefhkgjadfhgaaDoorEnv
import Derived.Test.YthefhkgjadfhgaaDoorTzWalk
import Derived.Stop.LaidErr
namespace Go.Proofs.YthefhkgjadfhgaaDoor.DfaW
set_option linter.unusedVariables false
open Go.RowKit Go.Proofs.YthefhkgjadfhgaaDoor.SetM Go.Proofs.YthefhkgjadfhgaaDoor.SetW Go.Proofs.YthefhkgjadfhgaaDoor.PartW
theorem tab {W : World} (h : laidMetH Tryd.prog Rows.quotientMergesRow.laid W) : SetW.Env W :=
  SetW.Env.of (Lib.tabIs_of_head (rest := []) gTab (t := 95) (by kernel_rfl) Tryd.underlying95 Tryd.underlying5 (by kernel_rfl) (by kernel_rfl) h)
theorem bs_of {W : World} {v : Value} {s : ByteArray} (h : Base.BSl W v s) : BS W.heap.size W v (s.data.toList.map UInt8.toNat) := by
  refine ⟨?_, fun b hb => by obtain ⟨u, _, rfl⟩ := List.mem_map.1 hb; exact u.toNat_lt⟩
  rcases h with ⟨a, rfl, rfl⟩ | ⟨b, o, cap, rfl, h2, h3, h4⟩
  · exact VS.nil _ _ _
  · have hlen : s.data.toList.length = s.size := by simp
    refine ⟨some ⟨b, o, none⟩, cap, by simp, by simpa using h2, h3, fun i hi => ?_⟩
    have hi' : i < s.size := by simpa using hi
    refine ⟨b, o, rfl, World.block_lt_of_cell? _ _ (h4 i hi'), ?_⟩
    rw [h4 i hi']
    have : i < s.data.toList.length := by omega
    simp [hi']
    rfl
end Go.Proofs.YthefhkgjadfhgaaDoor.DfaW
