/- Walks of the document's One, Quote. -/
import Derived.Test.YtmlheppkclppfaaDoorQuoWalk4
import Derived.RegionTactic
import Derived.BigRegion
import Derived.ChangeAlike
namespace Go.Proofs.YtmlheppkclppfaaDoor.QuoW
set_option linter.unusedVariables false
open Go.RowKit Go.Proofs.YtmlheppkclppfaaDoor.QuoM
open Go.Proofs.YtmlheppkclppfaaDoor.Base (ret_bool ret_int ret_str BSl bytes_below ba_ext)

theorem run_digs8 (w : World) (k : Nat) (h : k ≤ 15) : (Instr.index 9 (.string { data := #[48, 49, 50, 51, 52, 53, 54, 55, 56, 57, 97, 98, 99, 100, 101, 102] }) (.int .u8 (k : Int))).run Tryd.prog w = .ok (.int .u8 ((hx k).toNat : Int)) w := by
  rcases (by omega : k = 0 ∨ k = 1 ∨ k = 2 ∨ k = 3 ∨ k = 4 ∨ k = 5 ∨ k = 6 ∨ k = 7 ∨ k = 8 ∨ k = 9 ∨ k = 10 ∨ k = 11 ∨ k = 12 ∨ k = 13 ∨ k = 14 ∨ k = 15) with h | h | h | h | h | h | h | h | h | h | h | h | h | h | h | h <;> subst h <;> kernel_rfl
theorem conv_block {W : World} {b : Nat} {l : List UInt8} {n : Nat} (hn : l.length = n) (h : ∀ i, i < n → W.cell? ⟨b, i, none⟩ = some (cb (l.getD i 0))) :
    (convert 27 9 (.slice (some ⟨b, 0, none⟩) n n)).run Tryd.prog W = .ok (.string ⟨l.toArray⟩) W := by
  subst hn
  have := run_convert_bytes_arg (P := Tryd.prog) W 27 5 Tryd.underlying27 Tryd.underlying5 b 0 l.length l.length (l.map fun c => (c.toNat : Int)) (by simp) (fun i hi => by
      rw [Nat.zero_add, h i hi]
      simp [hi, cb]) 9 Tryd.underlying9
  rw [strOf_cb] at this
  exact this
theorem conv1 (w : World) (c : UInt8) : (convert 27 9 (.slice (some ⟨w.heap.size, 0, none⟩) 1 1)).run Tryd.prog (w.alloc (.cells #[.int .u8 (c.toNat : Int)] 5)) = .ok (.string ⟨[c].toArray⟩) (w.alloc (.cells #[.int .u8 (c.toNat : Int)] 5)) :=
  conv_block rfl (fun i hi => by
    obtain rfl : i = 0 := by omega
    exact World.cell?_alloc_new w _ _ 0)

theorem conv4 (w : World) (a b : UInt8) : (convert 27 9 (.slice (some ⟨w.heap.size, 0, none⟩) 4 4)).run Tryd.prog ((w.alloc (.cells #[.int .u8 92, .int .u8 120, .int .u8 (a.toNat : Int), .int .u8 (b.toNat : Int)] 5)).drew) = .ok (.string ⟨[92, 120, a, b].toArray⟩) ((w.alloc (.cells #[.int .u8 92, .int .u8 120, .int .u8 (a.toNat : Int), .int .u8 (b.toNat : Int)] 5)).drew) :=
  conv_block rfl (fun i hi => by
    rcases (by omega : i = 0 ∨ i = 1 ∨ i = 2 ∨ i = 3) with h | h | h | h <;> subst h <;> exact World.cell?_alloc_new w _ _ _)
theorem run_div (w : World) (c : UInt8) : (Instr.index 9 (.string { data := #[48, 49, 50, 51, 52, 53, 54, 55, 56, 57, 97, 98, 99, 100, 101, 102] }) (.int .u8 ((c.toNat : Int) / 16))).run Tryd.prog w = .ok (.int .u8 ((hx (c.toNat / 16)).toNat : Int)) w := by
  have := c.toNat_lt
  rw [show ((c.toNat : Int) / 16) = ((c.toNat / 16 : Nat) : Int) by omega]
  exact run_digs8 w _ (by omega)
theorem run_mod (w : World) (c : UInt8) : (Instr.index 9 (.string { data := #[48, 49, 50, 51, 52, 53, 54, 55, 56, 57, 97, 98, 99, 100, 101, 102] }) (.int .u8 ((c.toNat : Int) % 16))).run Tryd.prog w = .ok (.int .u8 ((hx (c.toNat % 16)).toNat : Int)) w := by
  have := c.toNat_lt
  rw [show ((c.toNat : Int) % 16) = ((c.toNat % 16 : Nat) : Int) by omega]
  exact run_digs8 w _ (by omega)
theorem One_any (c : UInt8) (w : World) : Calls Tryd.prog 19 #[.int .u8 c.toNat] w fun e w' => e = .returned (.string ⟨(one c).toArray⟩) ∧ Below w.heap.size w w' := by
  have hb8 : c.toNat ≤ 255 := by have := c.toNat_lt; omega
  cases hp : pl c
  · have HP := Lib.hid hp; clear hp
    have d1 := fun W => run_div W c
    have d2 := fun W => run_mod W c
    have hcv := fun W => conv4 W (hx (c.toNat / 16)) (hx (c.toNat % 16))
    have w1 : IntKind.u8.wrap ((c.toNat : Int) / 16) = (c.toNat : Int) / 16 := by rw [IntKind.wrap_u8]; omega
    have w2 : IntKind.u8.wrap ((c.toNat : Int) % 16) = (c.toNat : Int) % 16 := by rw [IntKind.wrap_u8]; omega
    go_enter Tryd.func19, Tryd.ntmps19
    go_wp2_with fail
    refine (refPlain_any _ _).mono ?_
    rw [HP.out]
    rintro e w1 ⟨rfl, rfl⟩
    go_wp2_with fail
    go_region
    go_wp2_with fail
    go_ret
    exact ⟨ret_str (by rw [one_coded HP.out]), ((Below.refl _ _).alloc (Nat.le_refl _) _).drew⟩
  · have HP := Lib.hid hp; clear hp
    have hcv := conv1 w c
    go_enter Tryd.func19, Tryd.ntmps19
    go_wp2_with fail
    refine (refPlain_any _ _).mono ?_
    rw [HP.out]
    rintro e w1 ⟨rfl, rfl⟩
    go_wp2_with fail
    go_ret
    exact ⟨ret_str (by rw [one_plain HP.out]), (Below.refl _ _).alloc (Nat.le_refl _) _⟩
theorem conv_e (w : World) : (convert 27 9 (.slice (some ⟨w.heap.size, 0, none⟩) 2 2)).run Tryd.prog (w.alloc (.cells #[.int .u8 92, .int .u8 101] 5)) = .ok (.string { data := #[92, 101] }) (w.alloc (.cells #[.int .u8 92, .int .u8 101] 5)) :=
  conv_block (l := [92, 101]) rfl (fun i hi => by
    rcases (by omega : i = 0 ∨ i = 1) with h | h <;> subst h <;> exact World.cell?_alloc_new w _ _ _)
theorem refQuote_nil (ad : Option Addr) (c : Nat) (w : World) : Calls Tryd.prog 15 #[.slice ad 0 c] w fun e w' => e = .returned (.string { data := #[92, 101] }) ∧ Below w.heap.size w w' := by
  have hcv := conv_e w
  go_enter Tryd.func15, Tryd.ntmps15
  go_wp2_with fail
  go_ret
  exact ⟨rfl, (Below.refl _ _).alloc (Nat.le_refl _) _⟩
theorem refQuote_row (s : ByteArray) (b o cap : Nat) (w : World) (hs : s.size ≤ 1152921504606846975) (h0 : 0 < s.size) (hcap : s.size ≤ cap) (hm : cap ≤ maxLen) (hB : Lib.Bytes w b o s) :
    Calls Tryd.prog 15 #[.slice (some ⟨b, o, none⟩) s.size cap] w fun e w' => e = .returned (.string ⟨(quoteL s.data.toList).toArray⟩) ∧ Below w.heap.size w w' := by
  unfold maxLen at hm
  have HB := Lib.hid hB
  have HQ := Lib.hid (quote_ones s h0)
  have hn0 : ((s.size : Int) == 0) = false := by rw [beq_eq_false_iff_ne]; omega
  clear hB
  go_enter Tryd.func15, Tryd.ntmps15
  go_wp2_with fail
  go_loopw [3, 4] (fun v i wr => ∃ k : Nat, k ≤ s.size ∧ i = .int .i64 k ∧ v = .string ⟨(ones (s.data.toList.take k)).toArray⟩ ∧ Below w.heap.size w wr) (fun _ i _ => s.size - (intOf i).toNat)
  case atStart => exact ⟨0, Nat.zero_le _, rfl, rfl, Below.refl _ _⟩
  case round =>
    obtain ⟨k, hk, rfl, rfl, hb⟩ := hrel
    by_cases hlt : k < s.size
    · have hc := bytes_below HB.out hb k hlt
      have HS := Lib.hid (ones_take s k hlt)
      have hle := ones_take_le s k
      have h1 := one_le s[k]
      have HBE := Lib.hid hb
      clear hb
      generalize ones (s.data.toList.take k) = l at *
      go_wp2_with fail
      refine (One_any _ _).mono ?_
      generalize one s[k] = m at *
      rintro e w1 ⟨rfl, hb1⟩
      go_wp2_with fail
      exact ⟨⟨k + 1, by omega, by go_num, by rw [HS.out, Base.ba_app], HBE.out.trans (hb1.mono HBE.out.size)⟩, by simp [intOf]; omega⟩
    · have e : s.data.toList.take k = s.data.toList := List.take_of_length_le (by simp; omega)
      rw [e]
      have HBE := Lib.hid hb
      clear hb e
      go_wp2_with fail
      go_ret
      exact ⟨ret_str (by rw [HQ.out]), HBE.out⟩
theorem refQuote_any (v : Value) (s : ByteArray) (w : World) (hv : BSl w v s) (hs : s.size ≤ 1152921504606846975) :
    Calls Tryd.prog 15 #[v] w fun e w' => e = .returned (.string ⟨(quoteL s.data.toList).toArray⟩) ∧ Below w.heap.size w w' := by
  rcases hv with ⟨ad, rfl, rfl⟩ | ⟨b, o, cap, rfl, hcap, hm, hB⟩
  · exact refQuote_nil ad 0 w
  · by_cases h0 : 0 < s.size
    · exact refQuote_row s b o cap w hs h0 hcap hm hB
    · have hz : s.size = 0 := by omega
      rw [quote_empty hz, hz]
      exact refQuote_nil _ cap w
end Go.Proofs.YtmlheppkclppfaaDoor.QuoW
