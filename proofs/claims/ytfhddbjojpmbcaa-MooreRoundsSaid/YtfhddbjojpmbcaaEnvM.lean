/- What stage 24's laws are handed: bytes; numbers below 256. -/
import Derived.Test.YtfhddbjojpmbcaaEnv
import Derived.Test.YtfhddbjojpmbcaaMooRounds
import Derived.Test.YtfhddbjojpmbcaaMooCoarse
namespace Go.Proofs.Ytfhddbjojpmbcaa.DfaW
set_option linter.unusedVariables false
set_option linter.unusedSimpArgs false
open Go.RowKit Go.Proofs.Ytfhddbjojpmbcaa.PartM Go.Proofs.Ytfhddbjojpmbcaa.PartW
theorem bs_of {W : World} {v : Value} {s : ByteArray} (h : Base.BSl W v s) : BS W.heap.size W v (s.data.toList.map UInt8.toNat) := by
  refine ⟨?_, fun b hb => by obtain ⟨u, _, rfl⟩ := List.mem_map.1 hb; exact u.toNat_lt⟩
  rcases h with ⟨a, rfl, rfl⟩ | ⟨b, o, cap, rfl, h2, h3, h4⟩
  · exact VS.nil _ _ _
  · have hlen : s.data.toList.length = s.size := by simp
    refine ⟨some ⟨b, o, none⟩, cap, by simp, by simpa using h2, h3, fun i hi => ?_⟩
    have hi' : i < s.size := by simpa using hi
    refine ⟨b, o, rfl, World.block_lt_of_cell? _ _ (h4 i hi'), ?_⟩
    rw [h4 i hi']
    have : i < s.data.toList.length := by omega
    simp [hi']
    rfl
theorem MooRounds_w (HAF : AfterC 9) (HBL : BlocksC 8) (HRO : RoundsC 10) (HFI : FinerC 17) (HKN : KnowsC) {C : Array Value} {m : Mc} (w : World) (q : Int) (hq : (Lit.int .u8 q).wf = true) (h : IsM w.heap.size w C m) :
    Calls Try.prog 5 #[.agg C, .int .u8 q] w fun e w' => e = .returned (.bool true) ∧ Below w.heap.size w w' := by
  have hb := Base.byte_of_wf' hq
  obtain ⟨k, rfl⟩ : ∃ k : Nat, q = k := ⟨q.toNat, by omega⟩
  exact MooRounds_any HAF HBL HRO HFI HKN w k (by omega) h
theorem MooCoarsest_w (HBL : BlocksC 8) (HST : StableC 18) (HFI : FinerC 17) (HKN : KnowsC) {C : Array Value} {m : Mc} {vl vw : Value} {l : List Int} {bs : List Nat} (w : World) (h : IsM w.heap.size w C m) (hl : IS w.heap.size w vl l) (hl6 : I64 l) (hw : BS w.heap.size w vw bs) (s t : Int) (hs : (Lit.int .u8 s).wf = true) (ht : (Lit.int .u8 t).wf = true) :
    Calls Try.prog 6 #[.agg C, vl, vw, .int .u8 s, .int .u8 t] w fun e w' => e = .returned (.bool true) ∧ Below w.heap.size w w' := by
  have b1 := Base.byte_of_wf' hs
  have b2 := Base.byte_of_wf' ht
  obtain ⟨k, rfl⟩ : ∃ k : Nat, s = k := ⟨s.toNat, by omega⟩
  obtain ⟨j, rfl⟩ : ∃ k : Nat, t = k := ⟨t.toNat, by omega⟩
  exact MooCoarsest_any HBL HST HFI HKN w h hl hl6 hw k j (by omega) (by omega)
end Go.Proofs.Ytfhddbjojpmbcaa.DfaW
