/- Walk of what must come: the machine of two states. -/
import Derived.Test.YtkghnjgioijgpaaBuild
import Derived.Test.YtkghnjgioijgpaaRefLive
import Derived.Test.YtkghnjgioijgpaaSameL
namespace Go.Proofs.Ytkghnjgioijgpaa.DfaW
set_option linter.unusedVariables false
open Go.RowKit Go.Maps Go.Proofs.Ytkghnjgioijgpaa.PartM Go.Proofs.Ytkghnjgioijgpaa.PartW Go.Proofs.Ytkghnjgioijgpaa.DfaM

def odd : ByteArray := ⟨#[111, 100, 100]⟩
def twoM : Mc := ⟨fun _ => 0, 1, [[1], [0]], [0, 1], [odd]⟩
theorem two_cls : sameA (fun _ => 0) (PartM.nm (byKey fun (_ : Nat) => 0)) = true ∧ rk (byKey fun (_ : Nat) => 0) 256 = 1 := by decide +kernel
theorem two_ok : Ok twoM := by
  refine ⟨two_cls.1, ?_, ⟨by decide, fun i hi => ?_⟩, ⟨by decide, by decide, fun i hi => ?_⟩, ⟨rfl, fun j hj => ?_⟩⟩
  · show (1 : Int) = (rk (byKey fun (_ : Nat) => 0) 256 : Nat)
    rw [two_cls.2]; rfl
  · obtain rfl : i = 0 := by simpa [twoM] using hi
    exact ⟨by decide +kernel, by simp⟩
  · have : i < 2 := hi
    rcases i with _ | _ | i
    · exact ⟨by decide, by decide⟩
    · exact ⟨by decide, by decide⟩
    · omega
  · have : j < 2 := hj
    rcases j with _ | _ | j
    · refine ⟨rfl, fun i hi => ?_⟩
      obtain rfl : i = 0 := by simpa [twoM] using hi
      exact ⟨by decide, by decide⟩
    · refine ⟨rfl, fun i hi => ?_⟩
      obtain rfl : i = 0 := by simpa [twoM] using hi
      exact ⟨by decide, by decide⟩
    · omega
theorem two_tell : tellV twoM [97, 98, 99] = 1 := by rw [tellV_yes two_ok]; rfl
theorem two_name : nameV twoM [97] = odd := by rw [nameV_yes two_ok]; rfl
theorem two_none : nameV twoM [] = ByteArray.empty := by rw [nameV_yes two_ok]; rfl
theorem two_reach : reachV twoM = [0, 1] := by rw [reachV_yes two_ok]; decide +kernel
theorem two_live : liveV twoM = [0, 1] := by rw [liveV_yes two_ok]; decide +kernel
theorem is_new (w : World) (l : List Int) (t : TypeId) (hl : l.length ≤ maxLen) : IS (w.alloc (.cells (l.map (Value.int .i64)).toArray t)).heap.size (w.alloc (.cells (l.map (Value.int .i64)).toArray t)) (.slice (some ⟨w.heap.size, 0, none⟩) l.length l.length) l := by
  refine ⟨_, l.length, by simp, by simp, hl, fun i hi => ⟨w.heap.size, 0, rfl, by simp, ?_⟩⟩
  rw [World.cell?_alloc_new, Nat.zero_add]; simp
/-- The five blocks of it, the first one its own. -/
noncomputable def twoW (w : World) : World := (((((w.alloc (.cells Try.zeroCells27 27)).alloc (.cells #[.int .i64 1] 3)).alloc (.cells #[.int .i64 0] 3)).alloc (.cells #[.slice (some ⟨w.heap.size + 1, 0, none⟩) 1 1, .slice (some ⟨w.heap.size + 1 + 1, 0, none⟩) 1 1] 24)).alloc (.cells #[.int .i64 0, .int .i64 1] 3)).alloc (.cells #[.string odd] 9)
noncomputable def twoC (w : World) : Array Value := mkC zA (.int .i64 1) (.slice (some ⟨w.heap.size + 1 + 1 + 1, 0, none⟩) 2 2) (.slice (some ⟨w.heap.size + 1 + 1 + 1 + 1, 0, none⟩) 2 2) (.slice (some ⟨w.heap.size + 1 + 1 + 1 + 1 + 1, 0, none⟩) 1 1)
theorem two_build (w : World) : (((Try.zeroCells27.setIfInBounds 256 (.int .i64 1)).setIfInBounds 257 (.slice (some ⟨w.heap.size + 1 + 1 + 1, 0, none⟩) 2 2)).setIfInBounds 258 (.slice (some ⟨w.heap.size + 1 + 1 + 1 + 1, 0, none⟩) 2 2)).setIfInBounds 259 (.slice (some ⟨w.heap.size + 1 + 1 + 1 + 1 + 1, 0, none⟩) 1 1) = twoC w := by
  have hz := zA_is.size
  rw [zc, (set_hi hz _ _ _ _ _).1, (set_hi hz _ _ _ _ _).2.1, (set_hi hz _ _ _ _ _).2.2.1, (set_hi hz _ _ _ _ _).2.2.2]
  rfl
theorem twoW_ar (w : World) : Ar (twoW w) w.heap.size Try.zeroCells27 27 := (((((Ar.new w _ _).alloc _).alloc _).alloc _).alloc _).alloc _
theorem twoW_below (w : World) : Below w.heap.size w (twoW w) := by
  refine ((((((Below.refl _ w).alloc (Nat.le_refl _) _).alloc ?_ _).alloc ?_ _).alloc ?_ _).alloc ?_ _).alloc ?_ _
  all_goals simp only [World.size_alloc]
  all_goals omega
theorem twoW_size (w : World) : (twoW w).heap.size = w.heap.size + 6 := by unfold twoW; simp only [World.size_alloc]
theorem six_cell (w : World) (o : Obj) (c1 c2 c3 c4 c5 : Array Value) (t1 t2 t3 t4 t5 : TypeId) :
    (∀ i, ((((((w.alloc o).alloc (.cells c1 t1)).alloc (.cells c2 t2)).alloc (.cells c3 t3)).alloc (.cells c4 t4)).alloc (.cells c5 t5)).cell? ⟨w.heap.size + 1, i, none⟩ = c1[i]?) ∧
    (∀ i, ((((((w.alloc o).alloc (.cells c1 t1)).alloc (.cells c2 t2)).alloc (.cells c3 t3)).alloc (.cells c4 t4)).alloc (.cells c5 t5)).cell? ⟨w.heap.size + 1 + 1, i, none⟩ = c2[i]?) ∧
    (∀ i, ((((((w.alloc o).alloc (.cells c1 t1)).alloc (.cells c2 t2)).alloc (.cells c3 t3)).alloc (.cells c4 t4)).alloc (.cells c5 t5)).cell? ⟨w.heap.size + 1 + 1 + 1, i, none⟩ = c3[i]?) ∧
    (∀ i, ((((((w.alloc o).alloc (.cells c1 t1)).alloc (.cells c2 t2)).alloc (.cells c3 t3)).alloc (.cells c4 t4)).alloc (.cells c5 t5)).cell? ⟨w.heap.size + 1 + 1 + 1 + 1, i, none⟩ = c4[i]?) ∧
    (∀ i, ((((((w.alloc o).alloc (.cells c1 t1)).alloc (.cells c2 t2)).alloc (.cells c3 t3)).alloc (.cells c4 t4)).alloc (.cells c5 t5)).cell? ⟨w.heap.size + 1 + 1 + 1 + 1 + 1, i, none⟩ = c5[i]?) := by
  have up : ∀ (W : World) (q : Obj) (b i : Nat), b < W.heap.size → (W.alloc q).cell? ⟨b, i, none⟩ = W.cell? ⟨b, i, none⟩ := fun W q b i hb => ((Below.refl _ W).alloc (Nat.le_refl _) q).cell (p := ⟨b, i, none⟩) hb
  have nw : ∀ (W : World) (b : Nat) (c : Array Value) (t : TypeId) (i : Nat), W.heap.size = b → (W.alloc (.cells c t)).cell? ⟨b, i, none⟩ = c[i]? := fun W b c t i hb => by rw [← hb]; exact World.cell?_alloc_new W c t i
  generalize hw1 : w.alloc o = w1
  have s1 : w1.heap.size = w.heap.size + 1 := by rw [← hw1, World.size_alloc]
  generalize hw2 : w1.alloc (.cells c1 t1) = w2
  have s2 : w2.heap.size = w.heap.size + 1 + 1 := by rw [← hw2, World.size_alloc, s1]
  generalize hw3 : w2.alloc (.cells c2 t2) = w3
  have s3 : w3.heap.size = w.heap.size + 1 + 1 + 1 := by rw [← hw3, World.size_alloc, s2]
  generalize hw4 : w3.alloc (.cells c3 t3) = w4
  have s4 : w4.heap.size = w.heap.size + 1 + 1 + 1 + 1 := by rw [← hw4, World.size_alloc, s3]
  generalize hw5 : w4.alloc (.cells c4 t4) = w5
  have s5 : w5.heap.size = w.heap.size + 1 + 1 + 1 + 1 + 1 := by rw [← hw5, World.size_alloc, s4]
  refine ⟨fun i => ?_, fun i => ?_, fun i => ?_, fun i => ?_, fun i => ?_⟩
  · rw [up w5 _ _ _ (by omega), ← hw5, up w4 _ _ _ (by omega), ← hw4, up w3 _ _ _ (by omega), ← hw3, up w2 _ _ _ (by omega), ← hw2]
    exact nw _ _ _ _ _ s1
  · rw [up w5 _ _ _ (by omega), ← hw5, up w4 _ _ _ (by omega), ← hw4, up w3 _ _ _ (by omega), ← hw3]
    exact nw _ _ _ _ _ s2
  · rw [up w5 _ _ _ (by omega), ← hw5, up w4 _ _ _ (by omega), ← hw4]
    exact nw _ _ _ _ _ s3
  · rw [up w5 _ _ _ (by omega), ← hw5]
    exact nw _ _ _ _ _ s4
  · exact nw _ _ _ _ _ s5
theorem twoW_cell (w : World) : (twoW w).cell? ⟨w.heap.size + 1, 0, none⟩ = some (.int .i64 1) ∧ (twoW w).cell? ⟨w.heap.size + 1 + 1, 0, none⟩ = some (.int .i64 0) ∧
    ((twoW w).cell? ⟨w.heap.size + 1 + 1 + 1, 0, none⟩ = some (.slice (some ⟨w.heap.size + 1, 0, none⟩) 1 1) ∧ (twoW w).cell? ⟨w.heap.size + 1 + 1 + 1, 1, none⟩ = some (.slice (some ⟨w.heap.size + 1 + 1, 0, none⟩) 1 1)) ∧
    ((twoW w).cell? ⟨w.heap.size + 1 + 1 + 1 + 1, 0, none⟩ = some (.int .i64 0) ∧ (twoW w).cell? ⟨w.heap.size + 1 + 1 + 1 + 1, 1, none⟩ = some (.int .i64 1)) ∧ (twoW w).cell? ⟨w.heap.size + 1 + 1 + 1 + 1 + 1, 0, none⟩ = some (.string odd) := by
  obtain ⟨h1, h2, h3, h4, h5⟩ := six_cell w (.cells Try.zeroCells27 27) #[.int .i64 1] #[.int .i64 0] #[.slice (some ⟨w.heap.size + 1, 0, none⟩) 1 1, .slice (some ⟨w.heap.size + 1 + 1, 0, none⟩) 1 1] #[.int .i64 0, .int .i64 1] #[.string odd] 3 3 24 3 9
  exact ⟨h1 0, h2 0, ⟨h3 0, h3 1⟩, ⟨h4 0, h4 1⟩, h5 0⟩
theorem two_reads (w W : World) (hs : w.heap.size + 6 ≤ W.heap.size) (hk : ∀ k, w.heap.size < k → k < w.heap.size + 6 → W.heap[k]? = (twoW w).heap[k]?) : IsM W.heap.size W (twoC w) twoM := by
  obtain ⟨c1, c2, ⟨c3, c4⟩, ⟨c5, c6⟩, c7⟩ := twoW_cell w
  have cc : ∀ k o v, w.heap.size < k → k < w.heap.size + 6 → (twoW w).cell? ⟨k, o, none⟩ = some v → W.cell? ⟨k, o, none⟩ = some v := fun k o v h1 h2 h3 => (cell_block (hk k h1 h2)).trans h3
  refine mkC_is (m := twoM) zA_is (fun i _ => by show (0 : Nat) < 256; decide) ?_ ?_ ?_
  · refine ⟨[.slice (some ⟨w.heap.size + 1, 0, none⟩) 1 1, .slice (some ⟨w.heap.size + 1 + 1, 0, none⟩) 1 1], ⟨_, 2, rfl, Nat.le_refl _, by decide, fun i hi => ⟨w.heap.size + 1 + 1 + 1, 0, rfl, by omega, ?_⟩⟩, rfl, fun i hi => ?_⟩
    · have : i < 2 := hi
      rcases i with _ | _ | i
      · exact cc _ _ _ (by omega) (by omega) c3
      · exact cc _ _ _ (by omega) (by omega) c4
      · omega
    · have : i < 2 := hi
      rcases i with _ | _ | i
      · refine ⟨_, rfl, ⟨_, 1, rfl, Nat.le_refl _, by decide, fun i hi => ⟨w.heap.size + 1, 0, rfl, by omega, ?_⟩⟩⟩
        obtain rfl : i = 0 := by simpa [twoM] using hi
        exact cc _ _ _ (by omega) (by omega) c1
      · refine ⟨_, rfl, ⟨_, 1, rfl, Nat.le_refl _, by decide, fun i hi => ⟨w.heap.size + 1 + 1, 0, rfl, by omega, ?_⟩⟩⟩
        obtain rfl : i = 0 := by simpa [twoM] using hi
        exact cc _ _ _ (by omega) (by omega) c2
      · omega
  · refine ⟨_, 2, rfl, Nat.le_refl _, by decide, fun i hi => ⟨w.heap.size + 1 + 1 + 1 + 1, 0, rfl, by omega, ?_⟩⟩
    have : i < 2 := hi
    rcases i with _ | _ | i
    · exact cc _ _ _ (by omega) (by omega) c5
    · exact cc _ _ _ (by omega) (by omega) c6
    · omega
  · refine ⟨⟨_, 1, rfl, Nat.le_refl _, by decide, fun i hi => ⟨w.heap.size + 1 + 1 + 1 + 1 + 1, 0, rfl, by omega, ?_⟩⟩, fun i hi => ?_⟩
    · obtain rfl : i = 0 := by simpa [twoM] using hi
      exact cc _ _ _ (by omega) (by omega) c7
    · obtain rfl : i = 0 := by simpa [twoM] using hi
      decide
theorem zA_one : zA.all (·.oneCell') = true := zA_is.one
set_option maxRecDepth 100000 in
set_option maxHeartbeats 2000000 in
theorem two_any (w : World) : Calls Try.prog 41 #[] w fun e w' => ∃ C, e = .returned (.agg C) ∧ IsM w'.heap.size w' C twoM ∧ Below w.heap.size w w' := by
  have HD := Lib.hid (two_build w)
  have HA := Lib.hid (twoW_ar w)
  have HS := Lib.hid (show (twoC w).size = 260 from mkC_size zA_is.size _ _ _ _)
  have HO := Lib.hid (show (twoC w).all (·.oneCell') = true from oneAll zA_one rfl rfl rfl rfl)
  go_enter Try.func41, Try.ntmps41
  go_wp2_with (refine wpList_store_dfa rfl (.tmp 0) (.tmp 6) rfl rfl rfl HA.out (by rw [zc]; exact mkC_size zA_is.size _ _ _ _) (by rw [HD.out]; exact HS.out) (by rw [HD.out]; exact HO.out) ?_; rw [HD.out])
  have hrow := (HA.out).row (twoC w)
  have hsz := twoW_size w
  have hbl := twoW_below w
  have hrd : IsM ((twoW w).setRow w.heap.size (twoC w)).heap.size ((twoW w).setRow w.heap.size (twoC w)) (twoC w) twoM := two_reads w _ (by rw [size_row, hsz]; exact Nat.le_refl _) fun k h1 h2 => heap_row _ _ _ (by omega)
  exact bodyPost_ret (v := .agg (twoC w)) (results_cell_row rfl _ _ w.heap.size _ _ _ _ rfl hrow Try.underlying27 rfl (by rw [HS.out]; exact infoD)) rfl ⟨_, rfl, hrd, below_row hbl (Nat.le_refl _) _⟩
end Go.Proofs.Ytkghnjgioijgpaa.DfaW
