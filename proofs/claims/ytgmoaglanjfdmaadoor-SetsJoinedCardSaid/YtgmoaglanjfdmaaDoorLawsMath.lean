/- What SetsLaws wants besides: counts of a union and a meet; a set out of its own bytes; a set out of its pieces. -/
import Derived.Test.YtgmoaglanjfdmaaDoorRowLemmas
namespace Go.Proofs.YtgmoaglanjfdmaaDoor.SetW
set_option linter.unusedVariables false
open Go.RowKit Go.Proofs.YtgmoaglanjfdmaaDoor.SetM
open Go.Proofs.YtgmoaglanjfdmaaDoor.Base (BSl ISl)

theorem count_laws (f g : Nat → Bool) : ∀ k, (upTo (unionF f g) k).length + (upTo (meetF f g) k).length = (upTo f k).length + (upTo g k).length
  | 0 => rfl
  | k + 1 => by
    have ih := count_laws f g k
    cases hf : f k <;> cases hg : g k
    · rw [upTo_no hf, upTo_no hg, upTo_no (f := unionF f g) (by simp [unionF, hf, hg]), upTo_no (f := meetF f g) (by simp [meetF, hf])]; exact ih
    · rw [upTo_no hf, upTo_yes hg, upTo_yes (f := unionF f g) (by simp [unionF, hg]), upTo_no (f := meetF f g) (by simp [meetF, hf])]; simp only [List.length_append, List.length_singleton]; omega
    · rw [upTo_yes hf, upTo_no hg, upTo_yes (f := unionF f g) (by simp [unionF, hf]), upTo_no (f := meetF f g) (by simp [meetF, hg])]; simp only [List.length_append, List.length_singleton]; omega
    · rw [upTo_yes hf, upTo_yes hg, upTo_yes (f := unionF f g) (by simp [unionF, hf]), upTo_yes (f := meetF f g) (by simp [meetF, hf, hg])]; simp only [List.length_append, List.length_singleton]; omega
theorem elems_mem {f : Nat → Bool} {i : Nat} (h : i < 256) : i ∈ elems f ↔ f i = true := by
  unfold elems; rw [List.mem_filter, List.mem_range]; exact ⟨fun h => h.2, fun h' => ⟨h, h'⟩⟩
theorem text_set (f : Nat → Bool) : SV (ofF (textOf (elems f)).data.toList) = SV f := SV_congr fun i hi => by
  unfold ofF textOf
  rw [strOfNums_data, List.map_map, Bool.eq_iff_iff, List.any_map, List.any_eq_true]
  constructor
  · rintro ⟨x, hx, h⟩
    have hx2 := upTo_lt (f := f) (k := 256) hx
    simp at h
    have : i = x := by omega
    subst this
    exact (elems_mem hi).1 hx
  · intro h
    refine ⟨i, (elems_mem hi).2 h, ?_⟩
    simp
    omega
theorem bsl_of_owns {W : World} {b : Nat} {v : Value} {l : List Nat} (h : W.ownsRow b 5 1 v l.length (l.map u8)) (hl : ∀ x ∈ l, x < 256) : BSl W v (textOf l) := by
  have hi : ISl .u8 W v (l.map fun (n : Nat) => (n : Int)) := by
    refine Base.isl_of_owns (n := l.length) (base := b) (e := 5) (by rw [List.map_map]; exact h) (fun x hx => ?_)
    obtain ⟨n, hn, rfl⟩ := List.mem_map.1 hx
    have := hl n hn
    have h1 : IntKind.u8.min = 0 := rfl
    have h2 : IntKind.u8.max = 255 := rfl
    simp only [Lit.wf, Bool.and_eq_true, decide_eq_true_eq]
    omega
  rcases hi with ⟨a', h1, h2⟩ | ⟨b, o, cap', h1, h2, h3, h4, h5⟩
  · exact .inl ⟨a', h1, by unfold textOf; rw [h2]; rfl⟩
  · refine .inr ⟨b, o, cap', by unfold textOf; rw [h1, strOfNums_size], by unfold textOf; rw [strOfNums_size]; exact h2, h3, ?_⟩
    exact Lib.bytes_of_nums (n := (l.map fun (n : Nat) => (n : Int)).length) rfl (fun x hx => Base.byte_of_wf' (h5 x hx)) (fun i hi => by rw [h4 i hi, List.getD_eq_getElem?_getD, List.getElem?_eq_getElem hi]; rfl)
theorem cover_all (f : Nat → Bool) : SV (coverF (spF f 256)) = SV f := by rw [cover_spans]; exact toF_all f
theorem cover_take (l : List (Nat × Nat)) (k : Nat) (h : k < l.length) : coverF (l.take (k + 1)) = unionF (coverF (l.take k)) (spanF l[k].1 (l[k].2 + 1)) := by
  rw [List.take_succ_eq_append_getElem h, coverF_snoc]
theorem cover_nil : coverF [] = emptyF := by funext i; rfl
end Go.Proofs.YtgmoaglanjfdmaaDoor.SetW
