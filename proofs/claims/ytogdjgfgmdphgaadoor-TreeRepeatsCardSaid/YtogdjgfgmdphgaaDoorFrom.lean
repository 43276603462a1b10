/- The sequence that goes through a tree, node by node. -/
import Derived.RangeFuncNested
import Derived.RangeFuncBound
import Derived.RangeFuncCalls
import Derived.RangeFuncBox
import Derived.RangeFuncLeaves
import Derived.Shelf.Abstract
import Derived.OwnWalkIn
import Derived.TacticsInMore
import Derived.LoopNIn
import Derived.LoopIn
import Derived.Maps.AppendAt
import Derived.Laws.EntriesVeiled
import Derived.Test.YtogdjgfgmdphgaaDoorCopy
namespace Go.Proofs.YtogdjgfgmdphgaaDoor.TreeW
set_option linter.unusedVariables false
open Go.RowKit Go.Shelf Go.Proofs.YtogdjgfgmdphgaaDoor.TreeM
attribute [local go_sem] Oper.semAt_some

theorem roundIn_wide {m k : Nat} {P : Program} {l : Nat} {f : FuncId} {tmps : Array Value} {assign body : Code} {w : World} {R : Ending → World → Prop} (h : RoundIn Fence.wide m P l f tmps assign body w R) : RoundIn Fence.wide k P l f tmps assign body w R :=
  ⟨h.1, fun c cs _ => h.2 c cs (room_wide _)⟩

/-- The kinds below which the sequence does not go: none, or that of sets. -/
def Kinds (W : World) (lv : Value) (cut : Int → Bool) : Prop :=
  (lv = .slice none 0 0 ∧ cut = nocut) ∨ ∃ b z, lv = .slice (some ⟨b, 0, none⟩) 1 1 ∧ W.heap[b]? = some (.cells #[.int .i64 3] 22 z) ∧ cut = cutSet
theorem Index_nil (k : Int) (w : World) : Calls Tryd.prog 46 #[.slice none 0 0, .int .i64 k] w fun e w' => e = .returned (.int .i64 (-1)) ∧ w = w' := by
  go_enter Tryd.func46, Tryd.ntmps46
  go_wp2_with fail
  refine wp_loop_rounds 1 ?_
  rw [rounds_succ]
  go_wp2_with fail
  go_ret
  exact ⟨rfl, rfl⟩
theorem Index_yes (b : Nat) (w : World) (h : w.cell? ⟨b, 0, none⟩ = some (.int .i64 3)) : Calls Tryd.prog 46 #[.slice (some ⟨b, 0, none⟩) 1 1, .int .i64 3] w fun e w' => e = .returned (.int .i64 0) ∧ w = w' := by
  go_enter Tryd.func46, Tryd.ntmps46
  go_wp2_with fail
  refine wp_loop_rounds 2 ?_
  rw [rounds_succ]
  go_wp2_with fail
  go_ret
  exact ⟨rfl, rfl⟩
theorem Index_no (b : Nat) (k : Int) (w : World) (h : w.cell? ⟨b, 0, none⟩ = some (.int .i64 3)) (hk : k ≠ 3) : Calls Tryd.prog 46 #[.slice (some ⟨b, 0, none⟩) 1 1, .int .i64 k] w fun e w' => e = .returned (.int .i64 (-1)) ∧ w = w' := by
  have t1 : (k == 3) = false := by simpa using hk
  clear hk
  go_enter Tryd.func46, Tryd.ntmps46
  go_wp2_with fail
  refine wp_loop_rounds 2 ?_
  rw [rounds_succ]
  go_wp2_with fail
  rw [rounds_succ]
  go_wp2_with fail
  go_ret
  exact ⟨rfl, rfl⟩
theorem Contains_any (lv : Value) (cut : Int → Bool) (k : Int) (w : World) (h : Kinds w lv cut) :
    Calls Tryd.prog 44 #[lv, .int .i64 k] w fun e w' => e = .returned (.bool (cut k)) ∧ w = w' := by
  rcases h with ⟨rfl, rfl⟩ | ⟨b, z, rfl, hb, rfl⟩
  · have H := Lib.hid (fun W => Index_nil k W)
    go_enter Tryd.func44, Tryd.ntmps44
    go_wp2_with fail
    refine (H.out _).mono ?_
    rintro e w' ⟨rfl, rfl⟩
    go_wp2_with fail
    go_ret
    exact ⟨rfl, rfl⟩
  · have hc : w.cell? ⟨b, 0, none⟩ = some (.int .i64 3) := by simp [World.cell?, hb]
    by_cases hk : k = 3
    · subst hk
      have H := Lib.hid (Index_yes b w hc)
      clear hc hb
      go_enter Tryd.func44, Tryd.ntmps44
      go_wp2_with fail
      refine H.out.mono ?_
      rintro e w' ⟨rfl, rfl⟩
      go_wp2_with fail
      go_ret
      exact ⟨rfl, rfl⟩
    · have H := Lib.hid (Index_no b k w hc hk)
      have HV := Lib.hid (show cutSet k = false by simpa [cutSet] using hk)
      clear hc hb hk
      go_enter Tryd.func44, Tryd.ntmps44
      go_wp2_with fail
      refine H.out.mono ?_
      rintro e w' ⟨rfl, rfl⟩
      go_wp2_with fail
      go_ret
      exact ⟨Base.ret_bool HV.out.symm, rfl⟩

/-- What comes up: a node, and where its kids lie. -/
structure It where
  nd : Nd
  ad : Option Addr
  len : Nat
  cap : Nat
def It.plain (x : It) : Nd × Nat := (x.nd, x.len)
def encs (x : It) : Array Value := #[NV x.nd (.slice x.ad x.len x.cap)]
/-- What a round keeps: whatever lay below n₀, and the blocks of the sequence's own kinds. -/
def Keeps (n₀ : Nat) (A B : World) : Prop := Below n₀ A B ∧ A.heap.size ≤ B.heap.size ∧
  ∀ (k : Nat) c t z, (t = 28 ∨ t = 29 ∨ t = 56 ∨ t = 22) → A.heap[k]? = some (.cells c t z) → B.heap[k]? = some (.cells c t z)
theorem Keeps.refl (n₀ : Nat) (A : World) : Keeps n₀ A A := ⟨Below.refl _ _, Nat.le_refl _, fun _ _ _ _ _ h => h⟩
theorem Keeps.trans {n₀ : Nat} {A B C : World} (h : Keeps n₀ A B) (k : Keeps n₀ B C) : Keeps n₀ A C := ⟨h.1.trans k.1, Nat.le_trans h.2.1 k.2.1, fun i c t z ht hi => k.2.2 i c t z ht (h.2.2 i c t z ht hi)⟩
theorem Keeps.grown {n₀ : Nat} {A B : World} (hg : A.grownBy B none) (hn : n₀ ≤ A.heap.size) : Keeps n₀ A B :=
  ⟨(Below.refl _ _).grown hg hn (fun k e => by cases e), hg.size, fun k c t z _ hk => (hg.block k (Array.getElem?_eq_some_iff.1 hk).1 (by simp)).trans hk⟩
theorem Boxed.keeps {W W' : World} {n₀ B : Nat} {t : TypeId} {v : Value} (h : Boxed W B t v) (ht : t = 28 ∨ t = 29 ∨ t = 56 ∨ t = 22) (hk : Keeps n₀ W W') : Boxed W' B t v := hk.2.2 _ _ _ _ ht h
theorem Kinds.keeps {W W' : World} {n₀ : Nat} {lv : Value} {cut : Int → Bool} (h : Kinds W lv cut) (hk : Keeps n₀ W W') : Kinds W' lv cut := by
  rcases h with h | ⟨b, z, h1, h2, h3⟩
  · exact .inl h
  · exact .inr ⟨b, z, h1, hk.2.2 _ _ _ _ (by simp) h2, h3⟩
/-- The boxes that the sequence reads again and again. -/
structure Boxes (W : World) (l Y L Fr : Nat) (lv : Value) (cut : Int → Bool) : Prop where
  y : Boxed W Y 29 (.func (.yield l) #[] #[])
  l : Boxed W L 56 lv
  f : Boxed W Fr 29 (.func (.func 43) #[] #[.pointer (some ⟨Y, 0, none⟩), .pointer (some ⟨L, 0, none⟩), .pointer (some ⟨Fr, 0, none⟩)])
  k : Kinds W lv cut
theorem Boxes.keeps {W W' : World} {n₀ l Y L Fr : Nat} {lv : Value} {cut : Int → Bool} (h : Boxes W l Y L Fr lv cut) (hk : Keeps n₀ W W') : Boxes W' l Y L Fr lv cut :=
  ⟨Boxed.keeps h.y (by simp) hk, Boxed.keeps h.l (by simp) hk, Boxed.keeps h.f (by simp) hk, h.k.keeps hk⟩
/-- How the sequence's inner function ends. -/
def FromPost (n₀ : Nat) (J Jx : List It → World → Prop) (pr : List It) (whole : List (Nd × Nat)) (W : World) (e : Ending) (W' : World) : Prop :=
  (e = .returned (.bool true) ∧ ∃ ys : List It, ys.map It.plain = whole ∧ J (pr ++ ys) W' ∧ Keeps n₀ W W') ∨
  (e = .returned (.bool false) ∧ ∃ (ys : List It) (rest : List (Nd × Nat)), ys.map It.plain ++ rest = whole ∧ Jx (pr ++ ys) W')
set_option maxHeartbeats 2000000 in
theorem from_in (l n₀ Y L Fr N : Nat) (lv : Value) (cut : Int → Bool) (J Jx : List It → World → Prop) (hJ : ∀ s A B, J s A → A.grownBy B none → J s B)
    (hY : ∀ pr x W, J pr W → pr.length < N → YieldAt Fence.wide 0 Tryd.prog l (encs x) W fun e W' => (e = .returned (.bool true) ∧ J (pr ++ [x]) W' ∧ Keeps n₀ W W') ∨ (e = .returned (.bool false) ∧ Jx (pr ++ [x]) W')) :
    ∀ (m : Nat) (n : Nd) (kids : List Tr) (a : Option Addr) (cap : Nat) (pr : List It) (W : World), sizeL kids + 1 ≤ m → Lies 0 n₀ W (.slice a kids.length cap) kids → n₀ ≤ W.heap.size → Boxes W l Y L Fr lv cut → J pr W → pr.length + (pre cut (.mk n kids)).length ≤ N →
      CallsIn Fence.wide 9 Tryd.prog 43 #[NV n (.slice a kids.length cap), .pointer (some ⟨Y, 0, none⟩), .pointer (some ⟨L, 0, none⟩), .pointer (some ⟨Fr, 0, none⟩)] W (FromPost n₀ J Jx pr (pre cut (.mk n kids)) W) := by
  intro m
  induction m with
  | zero => intro n kids a cap pr W h; exact absurd h (by omega)
  | succ m ih =>
    intro n kids a cap pr W hm hL hn₀ hB h0 hN
    have hmx := len_small hL.len
    have hg1 := World.grownBy_alloc W (.cells #[.int .i64 n.K, .int .u64 n.a, .int .u64 n.b, .int .u64 n.c, .int .u64 n.d, .slice a kids.length cap, .int .i64 n.L, .int .i64 n.H] 28) none
    have hk1 := Keeps.grown hg1 hn₀
    have hJ1 := hJ _ _ _ h0 hg1
    have hB1 := hB.keeps hk1
    have hx1 := NodeAt.new W n (.slice a kids.length cap) 28
    obtain ⟨fn, tmps, assign, body, hyy, hR⟩ := hY pr ⟨n, a, kids.length, cap⟩ _ hJ1 (by rw [pre_mk, List.length_cons] at hN; omega)
    have y1 := hB1.y.cell
    have HR := Lib.hid hR; have HB1 := Lib.hid hB1; have HK1 := Lib.hid hk1; have HX1 := Lib.hid hx1; have HL := Lib.hid hL; have HN := Lib.hid hN; have IH := Lib.hid ih; have HY := Lib.hid hY; have HJ := Lib.hid hJ
    clear hR hB1 hk1 hx1 hL hN ih hJ hB h0 hJ1 hg1
    unfold encs at hyy
    clear hY
    refine callsIn_of_wp Tryd.func43 rfl trivial ?_ rfl
    simp only [Tryd.ntmps43, List.size_toArray, List.length_cons, List.length_nil, Nat.reduceAdd, Nat.reduceSub, Array.replicate_succ, Array.replicate_zero, List.push_toArray, List.append_toArray, List.nil_append, List.cons_append]
    gi_wp2
    refine (roundIn_wide HR.out).mono ?_
    clear HR
    rintro e W2 (⟨rfl, hJ2, hk2⟩ | ⟨rfl, hJx2⟩)
    · have hB2 := HB1.out.keeps hk2
      have hkk := HK1.out.trans hk2
      have hx2 : NodeAt W2 W.heap.size 0 n (.slice a kids.length cap) := by
        have h := hk2.2.2 W.heap.size _ _ _ (.inl rfl) (World.alloc_heap_new W _)
        constructor <;> simp [World.cell?, h]
      have l1 := hB2.l.cell
      have x0 := hx2.c0
      have x5 := hx2.c5
      have hC := fun W h => Contains_any lv cut n.K W h
      cases hc : cut n.K
      · rw [hc] at hC
        have HC := Lib.hid hC; have HCUT := Lib.hid hc
        clear hC hc
        have HPRE := Lib.hid (show pre cut (.mk n kids) = (n, kids.length) :: preL cut kids by rw [pre_mk, HCUT.out]; rfl)
        have HB2 := Lib.hid hB2; have HJ2 := Lib.hid hJ2; have HKK := Lib.hid hkk; have HX2 := Lib.hid hx2
        clear hB2 hJ2 hkk hk2 hx2 HB1 HX1 HK1 hyy y1
        gi_wp2_with (refine ⟨trivial, ?_⟩; gi_at_call 44; refine (callsIn_wide.2 (HC.out _ HB2.out.k)).mono ?_; rintro e w1 ⟨rfl, rfl⟩)
        gi_loopw [19] (fun i wr => ∃ (k : Nat) (ys : List It), k ≤ kids.length ∧ i = .int .i64 k ∧ Hid (ys.map It.plain = (n, kids.length) :: preL cut (kids.take k)) ∧ J (pr ++ ys) wr ∧ Keeps n₀ W wr ∧ Boxes wr l Y L Fr lv cut) (fun i _ => kids.length - (intOf i).toNat)
        case atStart => exact ⟨0, [⟨n, a, kids.length, cap⟩], Nat.zero_le _, rfl, Lib.hid (by rw [List.take_zero, preL_nil]; rfl), HJ2.out, HKK.out, HB2.out⟩
        case round =>
          obtain ⟨k, ys, hk, rfl, HYS, hJr, hkr, hBr⟩ := hrel
          clear x0 x5 l1
          have HJr := Lib.hid hJr; have HKr := Lib.hid hkr; have HBr := Lib.hid hBr
          clear HB2 HJ2 HKK HX2 hJr hkr hBr
          by_cases hlt : k < kids.length
          · obtain ⟨b, o, ak, capk, rfl, -, h1, h2, h3, h4, hA, hK⟩ := HL.out.at k hlt
            have hA2 := hA.below h4 HKr.out.1
            have d0 := hA2.c0; have d1 := hA2.c1; have d2 := hA2.c2; have d3 := hA2.c3; have d4 := hA2.c4; have d5 := hA2.c5; have d6 := hA2.c6; have d7 := hA2.c7
            have HT := Lib.hid (size_at kids k hlt)
            have HZ := Lib.hid (size_kids kids[k])
            have HE := Lib.hid (Tr.eta kids[k])
            have HK := Lib.hid (hK.under HKr.out.1)
            have HSP := Lib.hid (preL_split cut kids k hlt)
            have HTK := Lib.hid (preL_take cut kids k hlt)
            generalize kids[k] = tk at *
            generalize hlk : tk.kids = lk at *
            generalize hnk : tk.nd = nk at *
            clear hlk hnk hA hK
            have hg3 := World.grownBy_alloc wr (.cells #[.int .i64 nk.K, .int .u64 nk.a, .int .u64 nk.b, .int .u64 nk.c, .int .u64 nk.d, .slice ak lk.length capk, .int .i64 nk.L, .int .i64 nk.H] 28) none
            have hn3 : n₀ ≤ wr.heap.size := Nat.le_trans hn₀ HKr.out.2.1
            have hk3 := Keeps.grown hg3 hn3
            have hB3 := HBr.out.keeps hk3
            have hJ3 := HJ.out _ _ _ HJr.out hg3
            have hlen : (pr ++ ys).length + (pre cut (.mk nk lk)).length ≤ N := by
              have e1 := congrArg List.length HYS.out
              have e2 := congrArg List.length HSP.out
              have e3 := congrArg List.length HPRE.out
              have e4 := HN.out
              rw [HE.out]
              simp only [List.length_map, List.length_cons, List.length_append] at *
              omega
            have hcall := IH.out nk lk ak capk (pr ++ ys) _ (by have := HT.out; have := HZ.out; omega) (HK.out.under hk3.1) (Nat.le_trans hn3 hk3.2.1) hB3 hJ3 hlen
            rw [HE.out] at hcall
            have HCALL := Lib.hid hcall
            have f1 := hB3.f.cell
            have HK3 := Lib.hid (HKr.out.trans hk3)
            have HB3 := Lib.hid hB3
            clear hcall hB3 hJ3 hk3 hg3 hA2
            gi_wp2_with (refine ⟨trivial, ?_⟩; gi_at_call 43; refine (callsIn_wide.2 (callsIn_wide.1 HCALL.out)).mono ?_; rintro e w1 (⟨rfl, zs, hz, hJz, hkz⟩ | ⟨rfl, zs, rest, hz, hJz⟩))
            · exact ⟨⟨k + 1, ys ++ zs, by omega, by go_num, Lib.hid (by rw [List.map_append, HYS.out, hz, HTK.out, List.cons_append]), by rw [← List.append_assoc]; exact hJz, HK3.out.trans hkz, HB3.out.keeps hkz⟩, by simp [intOf]; omega⟩
            · go_ret
              exact .inr ⟨rfl, ys ++ zs, rest ++ preL cut (kids.drop (k + 1)), by rw [List.map_append, HYS.out, HPRE.out, HSP.out, ← hz]; simp [List.append_assoc], by rw [← List.append_assoc]; exact hJz⟩
          · gi_wp2
            go_ret
            exact .inl ⟨rfl, ys, by rw [HYS.out, HPRE.out, List.take_of_length_le (by omega)], HJr.out, HKr.out⟩
      · rw [hc] at hC
        have HC := Lib.hid hC; have HCUT := Lib.hid hc
        clear hC hc
        have HPRE := Lib.hid (show pre cut (.mk n kids) = [(n, kids.length)] by rw [pre_mk, HCUT.out]; rfl)
        have HB2 := Lib.hid hB2; have HJ2 := Lib.hid hJ2; have HKK := Lib.hid hkk; have HX2 := Lib.hid hx2
        clear hB2 hJ2 hkk hk2 hx2 HB1 HX1 HK1 hyy y1
        gi_wp2_with (refine ⟨trivial, ?_⟩; gi_at_call 44; refine (callsIn_wide.2 (HC.out _ HB2.out.k)).mono ?_; rintro e w1 ⟨rfl, rfl⟩)
        go_ret
        exact .inl ⟨rfl, [⟨n, a, kids.length, cap⟩], by rw [HPRE.out]; rfl, HJ2.out, HKK.out⟩
    · gi_wp2
      go_ret
      exact .inr ⟨rfl, [⟨n, a, kids.length, cap⟩], _, by rw [pre_mk]; rfl, hJx2⟩

/-- The nodes of a tree, as they come up. -/
theorem each_any (n : Nd) (a : Option Addr) (len cap : Nat) (lv : Value) (w : World) (hlv : lv = .slice none 0 0 ∨ ∃ b, lv = .slice (some ⟨b, 0, none⟩) 1 1) :
    Calls Tryd.prog 32 #[NV n (.slice a len cap), lv] w fun e w' => e = .returned (.func (.func 42) #[] #[.pointer (some ⟨w.heap.size + 1, 0, none⟩), .pointer (some ⟨w.heap.size, 0, none⟩)]) ∧
      (w.alloc (.cells #[.int .i64 n.K, .int .u64 n.a, .int .u64 n.b, .int .u64 n.c, .int .u64 n.d, .slice a len cap, .int .i64 n.L, .int .i64 n.H] 28)).alloc (.cells #[lv] 56) = w' := by
  have hmf : ∀ (fn : Fn) (first cap : Array Value) (w : World), (Instr.makeFunc fn first cap).run Tryd.prog w = .ok (.func fn first cap) w := fun _ _ _ _ => rfl
  rcases hlv with rfl | ⟨b, rfl⟩
  · go_enter Tryd.func32, Tryd.ntmps32
    go_wp2_with fail
    go_ret
    exact ⟨rfl, rfl⟩
  · go_enter Tryd.func32, Tryd.ntmps32
    go_wp2_with fail
    go_ret
    exact ⟨rfl, rfl⟩
set_option maxHeartbeats 2000000 in
theorem each1_in (l n₀ X L N : Nat) (lv : Value) (cut : Int → Bool) (J Jx : List It → World → Prop) (hJ : ∀ s A B, J s A → A.grownBy B none → J s B)
    (hY : ∀ pr x W, J pr W → pr.length < N → YieldAt Fence.wide 0 Tryd.prog l (encs x) W fun e W' => (e = .returned (.bool true) ∧ J (pr ++ [x]) W' ∧ Keeps n₀ W W') ∨ (e = .returned (.bool false) ∧ Jx (pr ++ [x]) W'))
    (n : Nd) (kids : List Tr) (a : Option Addr) (cap : Nat) (W : World) (hL : Lies 0 n₀ W (.slice a kids.length cap) kids) (hn₀ : n₀ ≤ W.heap.size) (hX : NodeAt W X 0 n (.slice a kids.length cap)) (hLb : Boxed W L 56 lv) (hK : Kinds W lv cut) (h0 : J [] W) (hN : (pre cut (.mk n kids)).length ≤ N) :
    CallsIn Fence.wide 9 Tryd.prog 42 #[.func (.yield l) #[] #[], .pointer (some ⟨L, 0, none⟩), .pointer (some ⟨X, 0, none⟩)] W fun e W' => (∃ v, e = .returned v) ∧
      ((∃ ys : List It, ys.map It.plain = pre cut (.mk n kids) ∧ J ys W') ∨ (∃ ys : List It, (∃ rest, ys.map It.plain ++ rest = pre cut (.mk n kids)) ∧ Jx ys W')) := by
  have hmf : ∀ (fn : Fn) (first cap : Array Value) (w : World), (Instr.makeFunc fn first cap).run Tryd.prog w = .ok (.func fn first cap) w := fun _ _ _ _ => rfl
  have HL := Lib.hid hL; have HX := Lib.hid hX; have HLB := Lib.hid hLb; have HKI := Lib.hid hK; have H0 := Lib.hid h0; have HJ := Lib.hid hJ; have HY := Lib.hid hY
  clear hL hX hLb hK h0 hJ hY
  obtain ⟨Y, hYd⟩ : ∃ Y, Y = W.heap.size := ⟨_, rfl⟩
  have HYD := Lib.hid hYd; clear hYd
  refine callsIn_of_wp Tryd.func42 rfl trivial ?_ rfl
  simp only [Tryd.ntmps42, List.size_toArray, List.length_cons, List.length_nil, Nat.reduceAdd, Nat.reduceSub, Array.replicate_succ, Array.replicate_zero, List.push_toArray, List.append_toArray, List.nil_append, List.cons_append]
  have hg1 := World.grownBy_alloc W (.cells #[.func (.yield l) #[] #[]] 29) none
  have hg2 := World.grownBy_alloc (W.alloc (.cells #[.func (.yield l) #[] #[]] 29)) (.cells #[.func (.func 43) #[] #[.pointer (some ⟨W.heap.size, 0, none⟩), .pointer (some ⟨L, 0, none⟩), .pointer (some ⟨W.heap.size + 1, 0, none⟩)]] 29) none
  have hk1 := Keeps.grown hg1 hn₀
  have hk2 := hk1.trans (Keeps.grown hg2 (Nat.le_trans hn₀ hk1.2.1))
  have hJ2 := HJ.out _ _ _ (HJ.out _ _ _ H0.out hg1) hg2
  have hY2 := (Boxed.new W 29 (.func (.yield l) #[] #[])).kept hg2 (by simp)
  have hF2 := Boxed.new (W.alloc (.cells #[.func (.yield l) #[] #[]] 29)) 29 (.func (.func 43) #[] #[.pointer (some ⟨W.heap.size, 0, none⟩), .pointer (some ⟨L, 0, none⟩), .pointer (some ⟨W.heap.size + 1, 0, none⟩)])
  rw [World.size_alloc] at hF2
  have hX2 := HX.out.keep (w' := (W.alloc (.cells #[.func (.yield l) #[] #[]] 29)).alloc (.cells #[.func (.func 43) #[] #[.pointer (some ⟨W.heap.size, 0, none⟩), .pointer (some ⟨L, 0, none⟩), .pointer (some ⟨W.heap.size + 1, 0, none⟩)]] 29)) (fun p => (((Below.refl W.heap.size W).alloc (Nat.le_refl _) _).alloc (by simp) _).cell (p := ⟨X, p, none⟩) HX.out.lt)
  have hBX : Boxes ((W.alloc (.cells #[.func (.yield l) #[] #[]] 29)).alloc (.cells #[.func (.func 43) #[] #[.pointer (some ⟨W.heap.size, 0, none⟩), .pointer (some ⟨L, 0, none⟩), .pointer (some ⟨W.heap.size + 1, 0, none⟩)]] 29)) l W.heap.size L (W.heap.size + 1) lv cut :=
    ⟨hY2, Boxed.keeps HLB.out (by simp) hk2, hF2, HKI.out.keeps hk2⟩
  have hcall := from_in l n₀ W.heap.size L (W.heap.size + 1) N lv cut J Jx HJ.out HY.out _ n kids a cap [] _ (Nat.le_refl _) (HL.out.under hk2.1) (Nat.le_trans hn₀ hk2.2.1) hBX hJ2 (by simpa using hN)
  have HCALL := Lib.hid hcall
  have x0 := hX2.c0; have x1 := hX2.c1; have x2 := hX2.c2; have x3 := hX2.c3; have x4 := hX2.c4; have x5 := hX2.c5; have x6 := hX2.c6; have x7 := hX2.c7
  clear hcall hBX hX2 hF2 hY2 hJ2 hk1 hk2 hg1 hg2
  gi_wp2_with (refine ⟨trivial, ?_⟩; gi_at_call 43; refine (callsIn_wide.2 (callsIn_wide.1 HCALL.out)).mono ?_; rintro e w1 (⟨rfl, zs, hz, hJz, hkz⟩ | ⟨rfl, zs, rest, hz, hJz⟩))
  · go_end0
    exact ⟨⟨_, rfl⟩, .inl ⟨zs, hz, hJz⟩⟩
  · go_end0
    exact ⟨⟨_, rfl⟩, .inr ⟨zs, ⟨rest, hz⟩, hJz⟩⟩
/-- The sequence's contract. -/
theorem each_stops (n₀ X L N : Nat) (lv : Value) (cut : Int → Bool) (n : Nd) (kids : List Tr) (a : Option Addr) (cap : Nat) (w : World) (hL : Lies 0 n₀ w (.slice a kids.length cap) kids) (hn₀ : n₀ ≤ w.heap.size) (hX : NodeAt w X 0 n (.slice a kids.length cap)) (hLb : Boxed w L 56 lv) (hK : Kinds w lv cut) (hN : (pre cut (.mk n kids)).length ≤ N) :
    SeqStopsK Fence.wide 9 Tryd.prog 42 #[.pointer (some ⟨L, 0, none⟩), .pointer (some ⟨X, 0, none⟩)] encs (Keeps n₀) (fun ys => ys.map It.plain = pre cut (.mk n kids)) (fun ys => ∃ rest, ys.map It.plain ++ rest = pre cut (.mk n kids)) N w := by
  intro l J Jx W hW hJ _ hY h0
  have hX' := hX.below hX.lt hW
  have hL' := hL.under (hW.mono hn₀)
  have hLb' : Boxed W L 56 lv := (hW.block L hLb.lt).trans hLb
  have hK' : Kinds W lv cut := by
    rcases hK with h | ⟨b, z, h1, h2, h3⟩
    · exact .inl h
    · exact .inr ⟨b, z, h1, (hW.block b (Array.getElem?_eq_some_iff.1 h2).1).trans h2, h3⟩
  refine each1_in l n₀ X L N lv cut J Jx (fun s A B hs hg => hJ s A B none hs hg (fun r e => by cases e)) (fun pr x W1 h1 h2 => ?_) n kids a cap W hL' (Nat.le_trans hn₀ hW.size) hX' hLb' hK' h0 hN
  obtain ⟨fn, tmps, assign, body, hyy, hR⟩ := hY pr x W1 h1 h2
  exact ⟨fn, tmps, assign, body, hyy, roundIn_wide hR⟩
end Go.Proofs.YtogdjgfgmdphgaaDoor.TreeW
