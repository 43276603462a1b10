/- Appending bytes that came in to bytes of the call's own. -/
import Derived.Test.YtmlheppkclppfaaDoorQuoLaws
import Derived.Laws.AppendOwnNone
namespace Go.Proofs.YtmlheppkclppfaaDoor.QuoW
set_option linter.unusedVariables false
open Go.RowKit Go.Proofs.YtmlheppkclppfaaDoor.QuoM
open Go.Proofs.YtmlheppkclppfaaDoor.Base (ret_bool ret_int ret_str BSl bytes_below ba_ext)

theorem bsl_form {w : World} {v : Value} {s : ByteArray} (h : BSl w v s) : ∃ a cap, v = .slice a s.size cap := by
  rcases h with ⟨a, h1, h2⟩ | ⟨b, o, cap, h1, _⟩
  · exact ⟨a, 0, by rw [h1, h2]; rfl⟩
  · exact ⟨_, cap, h1⟩
theorem conv_bsl {w : World} {v : Value} {s : ByteArray} (h : BSl w v s) : (convert 27 9 v).run Tryd.prog w = .ok (.string s) w := by
  rcases h with ⟨a, rfl, rfl⟩ | ⟨b, o, cap, rfl, hcap, hm, hB⟩
  · exact Base.run_conv_empty (P := Tryd.prog) w 27 5 9 Tryd.underlying27 Tryd.underlying5 Tryd.underlying9 a 0
  · have h := Lib.run_convert_window (P := Tryd.prog) w 27 5 9 Tryd.underlying27 Tryd.underlying5 Tryd.underlying9 b o s hB 0 s.size cap (by omega)
    rw [Nat.add_zero, Nat.zero_add, show s.extract 0 s.size = s from ba_ext (by rw [Lib.extract_data, List.drop_zero]; exact List.take_of_length_le (by simp))] at h
    exact h
theorem slice_add (b o j : Nat) : (⟨b, o, none⟩ : Addr).add j = ⟨b, o + j, none⟩ := by unfold Addr.add; split <;> simp_all
theorem wpList_append_bsl {w : World} {ops : Array Oper} {rest : List Oper} {o : Oper} {a : Act} {Q : Exit → Act → World → Prop} (hgd : o.guard = none) (sl x : Operand)
    (ho : o.op = .call { callee := .builtin .append, args := #[sl, x], argTypes := #[27, 27] })
    (base : Nat) (v : Value) (n : Nat) (l : List UInt8) (hs : a.eval sl = v) (hown : w.ownsRow base 5 1 v n (l.map cb))
    (va : Value) (s : ByteArray) (hx : a.eval x = va) (hb : BSl w va s) (hbytes : n + s.size ≤ 140737488355328) (hbase : base ≤ w.heap.size)
    (h : ∀ v' w', w'.ownsRow base 5 1 v' (n + s.size) ((l ++ s.data.toList).map cb) → Below base w w' → wpList Tryd.prog ops Q rest (a.put o.dst v') w') : wpList Tryd.prog ops Q (o :: rest) a w := by
  obtain ⟨i0, hi, hz0, hz1, hz2⟩ := info_parts infoByte
  have hl := hown.1
  rw [List.length_map] at hl
  rcases hb with ⟨ad, rfl, rfl⟩ | ⟨b, off, cap, rfl, hcap, hm, hB⟩
  · have he : (l ++ (ByteArray.empty).data.toList).map cb = l.map cb := by simp
    cases ad with
    | none =>
      refine wpList_append_own_none hgd sl x _ ho base 5 i0 1 Tryd.underlying27 hi v n _ hs hown hx (h v w ?_ (Below.refl _ _))
      rw [he]; exact hown
    | some ad =>
      refine wpList_append_own _ hgd sl x _ ho base 5 i0 (.int .u8 0) 1 1 Tryd.underlying27 hi hz0 hz1 hz2 rfl (by decide) v n _ hs hown ad 0 0 [] hx rfl (fun j u hj => by simp at hj) (by simp) (by unfold maxLen; omega) (by omega) hbase fun v' w' h1 h2 _ => h v' w' ?_ (below_own (Below.refl _ _) hbase hown h2)
      rw [he]; simpa using h1
  · refine wpList_append_own _ hgd sl x _ ho base 5 i0 (.int .u8 0) 1 1 Tryd.underlying27 hi hz0 hz1 hz2 rfl (by decide) v n _ hs hown ⟨b, off, none⟩ s.size cap (s.data.toList.map cb) hx (by simp) (fun j u hj => ?_) (fun u hu => ?_) (by unfold maxLen; omega) (by omega) hbase fun v' w' h1 h2 _ => h v' w' ?_ (below_own (Below.refl _ _) hbase hown h2)
    · rw [List.getElem?_map] at hj
      have hlt : j < s.size := by
        rcases Nat.lt_or_ge j s.size with h | h
        · exact h
        · rw [List.getElem?_eq_none (by simp; omega)] at hj; simp at hj
      rw [List.getElem?_eq_getElem (by simpa using hlt)] at hj
      simp only [Option.map_some, Option.some.injEq] at hj
      rw [slice_add, hB j hlt, ← hj]; rfl
    · simp only [List.mem_map] at hu
      obtain ⟨c, _, rfl⟩ := hu
      rfl
    · rw [List.map_append]; exact h1
end Go.Proofs.YtmlheppkclppfaaDoor.QuoW
