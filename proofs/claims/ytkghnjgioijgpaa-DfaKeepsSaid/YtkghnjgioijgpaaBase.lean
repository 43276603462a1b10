/- Small laws over whatever program: pieces of byte slices, worlds. -/
import Derived.Test.YtkghnjgioijgpaaProg
import Derived.WalkKit
import Derived.WalkLawsBesides
import Derived.WalkSpells
import Derived.LoopTactic
import Derived.Deep.QuietTactic
import Derived.BigQuiet
import Derived.Lib.Hide
import Derived.Outline
import Derived.Below
import Derived.WalkSmall
import Derived.Lib.SlBytesRow
import Derived.ProofKit
import Derived.SizedLaws
namespace Go.Proofs.Ytkghnjgioijgpaa.Base
open Go.RowKit
variable {P : Program}

theorem ret_bool {a b : Bool} (h : a = b) : Ending.returned (.bool a) = .returned (.bool b) := by rw [h]
theorem ret_int {k : IntKind} {a b : Int} (h : a = b) : Ending.returned (.int k a) = .returned (.int k b) := by rw [h]
theorem ret_str {a b : ByteArray} (h : a = b) : Ending.returned (.string a) = .returned (.string b) := by rw [h]
theorem ba_ext {a b : ByteArray} (h : a.data.toList = b.data.toList) : a = b := ByteArray.ext (Array.toList_inj.1 h)
theorem ba_app (l m : List UInt8) : (⟨l.toArray⟩ ++ ⟨m.toArray⟩ : ByteArray) = ⟨(l ++ m).toArray⟩ := ba_ext (by simp)

/-- A slice of bytes that reads as s. -/
def BSl (w : World) (v : Value) (s : ByteArray) : Prop :=
  (∃ a, v = .slice a 0 0 ∧ s = ByteArray.empty) ∨ ∃ b o cap, v = .slice (some ⟨b, o, none⟩) s.size cap ∧ s.size ≤ cap ∧ cap ≤ maxLen ∧ Lib.Bytes w b o s
theorem bytes_below {w w' : World} {b o : Nat} {s : ByteArray} (h : Lib.Bytes w b o s) (hb : Below w.heap.size w w') : Lib.Bytes w' b o s := fun i hi => by
  have hc := h i hi
  rw [hb.cell (World.block_lt_of_cell? _ _ hc)]; exact hc
theorem BSl.below {w w' : World} {v : Value} {s : ByteArray} (h : BSl w v s) (hb : Below w.heap.size w w') : BSl w' v s := by
  rcases h with h | ⟨b, o, cap, h1, h2, h3, h4⟩
  · exact .inl h
  · exact .inr ⟨b, o, cap, h1, h2, h3, bytes_below h4 hb⟩

/-- 's[l:h]' of a slice of one-cell elements: where it begins is told where there is something in it. -/
theorem run_sub (W : World) (t e : TypeId) (ht : P.underlying t = some (.slice e)) (hz : ∀ w, (Go.sizeOf e).run P w = .ok 1 w) (b o len cap l h : Nat) (hlh : l ≤ h) (hh : h ≤ cap) :
    ∃ o', (Instr.slice t (.slice (some ⟨b, o, none⟩) len cap) (some (.int .i64 (l : Int))) (some (.int .i64 (h : Int))) none).run P W = .ok (.slice (some ⟨b, o', none⟩) (h - l) (cap - l)) W ∧ (l < cap → o' = o + l) := by
  have ht' : P.underlying t = some (.slice (P.elem t)) := by simp [Program.elem, ht]
  have he : P.elem t = e := by simp [Program.elem, ht]
  rw [run_slice_lh W t _ _ _ ht' .i64 .i64 _ _ (by omega) (by omega) (by omega), he, hz]
  by_cases hc : cap = l
  · exact ⟨o, by simp [Result.andThen, sliced, hc], fun h => by omega⟩
  · refine ⟨o + l, ?_, fun _ => rfl⟩
    by_cases h0 : l = 0
    · subst h0
      simp [Result.andThen, sliced, Addr.add, hc]
    · simp [Result.andThen, sliced, Addr.add, hc, h0]

/-- 'string(b)' of no bytes, wherever it lies. -/
theorem run_conv_empty (W : World) (t e d : TypeId) (ht : P.underlying t = some (.slice e)) (he : P.underlying e = some (.int .u8)) (hd : P.underlying d = some .string) (a : Option Addr) (c : Nat) :
    (convert t d (.slice a 0 c)).run P W = .ok (.string ByteArray.empty) W := by
  cases a with
  | none => exact run_convert_bytes_nil (P := P) W t e ht he 0 c d hd
  | some a =>
    rw [run_convert_bytes_string W t d e _ 0 c ht he hd]
    have h : (loadCells a 0).run P W = .ok #[] W := by
      have := run_loadCells_list (P := P) W a [] (fun j v h => by simp at h)
      simpa using this
    simp [h, Conv.bytesToString]
/-- 's[0:0]' of nothing. -/
theorem run_slice_empty (W : World) (t e : TypeId) (ht : P.underlying t = some (.slice e)) (hz : ∀ w, (Go.sizeOf e).run P w = .ok 1 w) (a : Option Addr) :
    (Instr.slice t (.slice a 0 0) (some (.int .i64 0)) (some (.int .i64 0)) none).run P W = .ok (.slice a 0 0) W := by
  have ht' : P.underlying t = some (.slice (P.elem t)) := by simp [Program.elem, ht]
  have he : P.elem t = e := by simp [Program.elem, ht]
  rw [run_slice_lh W t _ _ _ ht' .i64 .i64 _ _ (by omega) (by omega) (by omega), he, hz]
  simp [Result.andThen, sliced]
/-- 'string(s[l:h])'. -/
theorem run_sub_str (W : World) (t e d : TypeId) (ht : P.underlying t = some (.slice e)) (he : P.underlying e = some (.int .u8)) (hd : P.underlying d = some .string) (hz : ∀ w, (Go.sizeOf e).run P w = .ok 1 w)
    (s : ByteArray) (b o cap l h : Nat) (hB : Lib.Bytes W b o s) (hcap : s.size ≤ cap) (hlh : l ≤ h) (hh : h ≤ s.size) :
    ∃ o', (Instr.slice t (.slice (some ⟨b, o, none⟩) s.size cap) (some (.int .i64 (l : Int))) (some (.int .i64 (h : Int))) none).run P W = .ok (.slice (some ⟨b, o', none⟩) (h - l) (cap - l)) W ∧
      (convert t d (.slice (some ⟨b, o', none⟩) (h - l) (cap - l))).run P W = .ok (.string (s.extract l h)) W := by
  obtain ⟨o', h1, h2⟩ := run_sub (P := P) W t e ht hz b o s.size cap l h hlh (by omega)
  refine ⟨o', h1, ?_⟩
  by_cases hlt : l < h
  · rw [h2 (by omega)]
    have := Lib.run_convert_window (P := P) W t e d ht he hd b o s hB l (h - l) (cap - l) (by omega)
    rw [show l + (h - l) = h by omega] at this
    exact this
  · obtain rfl : h = l := by omega
    have := run_convert_bytes_arg (P := P) W t e ht he b o' (h - h) (cap - h) [] (by simp) (fun i hi => by omega) d hd
    rw [this]
    congr 2
    exact ba_ext (by rw [strOfNums_data, Lib.extract_data]; simp)

/-- A slice of integers of kind k that reads as l; each fits its kind. -/
def ISl (k : IntKind) (w : World) (v : Value) (l : List Int) : Prop :=
  (∃ a, v = .slice a 0 0 ∧ l = []) ∨ ∃ b o cap, v = .slice (some ⟨b, o, none⟩) l.length cap ∧ l.length ≤ cap ∧ cap ≤ maxLen ∧ (∀ i (h : i < l.length), w.cell? ⟨b, o + i, none⟩ = some (.int k l[i])) ∧ ∀ x ∈ l, (Lit.int k x).wf = true
theorem ints_below {k : IntKind} {w w' : World} {b o : Nat} {l : List Int} (h : ∀ i (h : i < l.length), w.cell? ⟨b, o + i, none⟩ = some (.int k l[i])) (hb : Below w.heap.size w w') : ∀ i (h : i < l.length), w'.cell? ⟨b, o + i, none⟩ = some (.int k l[i]) := fun i hi => by
  have hc := h i hi
  rw [hb.cell (World.block_lt_of_cell? _ _ hc)]; exact hc
theorem ISl.below {k : IntKind} {w w' : World} {v : Value} {l : List Int} (h : ISl k w v l) (hb : Below w.heap.size w w') : ISl k w' v l := by
  rcases h with h | ⟨b, o, cap, h1, h2, h3, h4, h5⟩
  · exact .inl h
  · exact .inr ⟨b, o, cap, h1, h2, h3, ints_below h4 hb, h5⟩
/-- What the call owns reads as a slice of integers. -/
theorem isl_of_owns {k : IntKind} {w : World} {base : Nat} {e : TypeId} {v : Value} {n : Nat} {l : List Int} (h : w.ownsRow base e 1 v n (l.map (Value.int k))) (hwf : ∀ x ∈ l, (Lit.int k x).wf = true) : ISl k w v l := by
  have hl : l.length = n := by have := h.1; simpa using this
  rcases h.2 with ⟨h1, h2⟩ | ⟨g, cap, cur, rfl, hg, hh, hn, hc, hs, hx⟩
  · refine .inl ⟨_, h1, ?_⟩
    rw [h2] at hl
    exact List.length_eq_zero_iff.1 hl
  · refine .inr ⟨g, 0, cap, by rw [hl], by omega, hc, fun i hi => ?_, hwf⟩
    have h' := h
    rw [Nat.zero_add, World.ownsRow.cellAt h' i (by omega)]
    simp [hi]
theorem wf64 {x : Int} (h : (Lit.int .i64 x).wf = true) : -9223372036854775808 ≤ x ∧ x ≤ 9223372036854775807 := by
  simpa [Lit.wf, IntKind.min, IntKind.max, IntKind.signed, IntKind.bits] using h

/-! ### Arguments, opened -/
theorem byte_of_wf' {x : Int} (h : (Lit.int .u8 x).wf = true) : 0 ≤ x ∧ x < 256 := by
  have h1 : IntKind.u8.min = 0 := rfl
  have h2 : IntKind.u8.max = 255 := rfl
  simp only [Lit.wf, Bool.and_eq_true, decide_eq_true_eq] at h
  omega
open Go.ChangeShapes Go.WideShapes Go.ChangeAt
theorem isl_open {H : Type} {enc : TypeId × Value → H} {t e : TypeId} {k : IntKind} {W : World} {a : Option Addr} {len cap : Nat} {d : DataW H} {p : List MemPlace} (ht : P.underlying t = some (.slice e)) (he : P.underlying e = some (.int k)) (hc : P.cellsOf e = 1)
    (h : DataW.Trod enc P W 0 (fun _ => true) true t (.slice a len cap) d p) :
    ∃ l, ISl k W (.slice a len cap) l ∧ ((d = .nil ∧ l = []) ∨ ∃ el sp, d = .slice el sp ∧ el.length = l.length) := by
  obtain ⟨fuel, hf⟩ := h
  rcases open_ints ht he hc hf with ⟨hcs, hx⟩ | ⟨x, len', cap', zs, hcs, _, hl, hm, hz, hx, hcell, hwf⟩
  · simp only [Value.cells, List.cons.injEq, Value.slice.injEq, and_true] at hcs
    obtain ⟨rfl, rfl, rfl⟩ := hcs
    simp only [Prod.mk.injEq] at hx
    exact ⟨[], .inl ⟨none, rfl, rfl⟩, .inl ⟨hx.1, rfl⟩⟩
  · simp only [Value.cells, List.cons.injEq, Value.slice.injEq, and_true] at hcs
    obtain ⟨rfl, rfl, rfl⟩ := hcs
    simp only [Prod.mk.injEq] at hx
    simp only [if_true] at hz
    have hlen : (zs.take len).length = len := by rw [List.length_take]; omega
    refine ⟨zs.take len, ?_, .inr ⟨_, _, hx.1, by simp [lits]⟩⟩
    by_cases h0 : cap = 0
    · subst h0
      obtain rfl : len = 0 := by omega
      exact .inl ⟨some x, rfl, by simp⟩
    · have hc0 := hcell 0 (by omega)
      obtain ⟨b, off, spot⟩ := x
      have hspot : spot = none := by simpa [Addr.add] using World.cell?_spot hc0
      subst hspot
      refine .inr ⟨b, off, cap, by rw [hlen], by omega, hm, fun i hi => ?_, fun y hy => hwf y (List.mem_of_mem_take hy)⟩
      have := hcell i (by omega)
      have hplain : (⟨b, off, none⟩ : Addr).add i = ⟨b, off + i, none⟩ := by unfold Addr.add; split <;> simp_all
      rw [hplain] at this
      rw [hlen] at hi
      simpa [List.getD, List.getElem?_eq_getElem (show i < zs.length by omega)] using this
theorem bsl_open {H : Type} {enc : TypeId × Value → H} {t e : TypeId} {W : World} {a : Option Addr} {len cap : Nat} {d : DataW H} {p : List MemPlace} (ht : P.underlying t = some (.slice e)) (he : P.underlying e = some (.int .u8)) (hc : P.cellsOf e = 1)
    (h : DataW.Trod enc P W 0 (fun _ => true) true t (.slice a len cap) d p) :
    ∃ s, BSl W (.slice a len cap) s ∧ ((d = .nil ∧ s = ByteArray.empty) ∨ ∃ el sp, d = .slice el sp ∧ el.length = s.size) := by
  obtain ⟨l, hl, hd⟩ := isl_open ht he hc h
  refine ⟨strOfNums l, ?_, ?_⟩
  · rcases hl with ⟨a', h1, h2⟩ | ⟨b, o, cap', h1, h2, h3, h4, h5⟩
    · exact .inl ⟨a', h1, by rw [h2]; rfl⟩
    · refine .inr ⟨b, o, cap', by rw [h1, strOfNums_size], by rw [strOfNums_size]; exact h2, h3, ?_⟩
      exact Lib.bytes_of_nums (n := l.length) rfl (fun x hx => byte_of_wf' (h5 x hx)) (fun i hi => by rw [h4 i hi]; simp [List.getD, hi])
  · rcases hd with ⟨h1, h2⟩ | ⟨el, sp, h1, h2⟩
    · exact .inl ⟨h1, by rw [h2]; rfl⟩
    · exact .inr ⟨el, sp, h1, by rw [h2, strOfNums_size]⟩
end Go.Proofs.Ytkghnjgioijgpaa.Base
