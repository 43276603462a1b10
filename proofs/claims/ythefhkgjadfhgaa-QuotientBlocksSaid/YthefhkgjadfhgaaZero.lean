/- The zero machine's cells, under the name that a seat of the other loader gives them (leave this text out there: NOTES, Stage 23). -/
import Derived.Test.YthefhkgjadfhgaaAid
namespace Go.Proofs
open Go.RowKit Go.Maps
@[irreducible] def Try.zeroCells31 : Array Value := Array.replicate 256 (.int .u8 0) ++ #[.int .i64 0, .slice none 0 0, .slice none 0 0, .slice none 0 0]
@[simp] theorem Try.zeroValue31 (w : World) : (zeroValue 31).run Try.prog w = .ok (.agg Try.zeroCells31) w := by
  have h : (Try.prog.info? 31).map (fun i => (i.zero, i.size)) = some (some (.agg Try.zeroCells31), 260) := by kernel_rfl
  exact (zero_of_info h).1 w
@[simp] theorem Try.zeroCells31_size : Try.zeroCells31.size = 260 := by unfold Try.zeroCells31; simp
@[simp] theorem Try.zeroCells31_ne : Try.zeroCells31 ≠ #[] := fun e => by have := Try.zeroCells31_size; rw [e] at this; simp at this
end Go.Proofs
