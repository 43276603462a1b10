/- Plain mathematics: how many bits a word has; its lowest bit; the list of its bits. -/
import Derived.Test.YthefhkgjadfhgaaDoorBasics
namespace Go.Proofs.YthefhkgjadfhgaaDoor.SetM

/-! ### How many bits -/
def pcn (x : Nat) : Nat → Nat
  | 0 => 0
  | n + 1 => x % 2 + pcn (x / 2) n
theorem pcn_split (x m : Nat) : pcn x (8 + m) = pcn (x % 256) 8 + pcn (x / 256) m := by
  have e : 8 + m = m + 1 + 1 + 1 + 1 + 1 + 1 + 1 + 1 := by omega
  rw [e]
  simp only [pcn, Nat.div_div_eq_div_mul, Nat.reduceMul]
  have h1 : x % 256 % 2 = x % 2 := by omega
  have h2 : x % 256 / 2 % 2 = x / 2 % 2 := by omega
  have h3 : x % 256 / 4 % 2 = x / 4 % 2 := by omega
  have h4 : x % 256 / 8 % 2 = x / 8 % 2 := by omega
  have h5 : x % 256 / 16 % 2 = x / 16 % 2 := by omega
  have h6 : x % 256 / 32 % 2 = x / 32 % 2 := by omega
  have h7 : x % 256 / 64 % 2 = x / 64 % 2 := by omega
  have h8 : x % 256 / 128 % 2 = x / 128 % 2 := by omega
  rw [h1, h2, h3, h4, h5, h6, h7, h8]
  omega

/-- A mask of n bytes m. -/
def mk (m : Nat) : Nat → Nat
  | 0 => 0
  | n + 1 => m + 256 * mk m n
theorem land_byte (x m n : Nat) (hm : m < 256) : x &&& mk m (n + 1) = (x % 256 &&& m) + 256 * (x / 256 &&& mk m n) := by
  have h1 := Nat.and_mod_two_pow (a := x) (b := mk m (n + 1)) (n := 8)
  have h2 := Nat.and_div_two_pow (a := x) (b := mk m (n + 1)) (n := 8)
  have e1 : mk m (n + 1) % 2 ^ 8 = m := by show (m + 256 * mk m n) % 256 = m; omega
  have e2 : mk m (n + 1) / 2 ^ 8 = mk m n := by show (m + 256 * mk m n) / 256 = mk m n; omega
  rw [e1] at h1
  rw [e2] at h2
  have h3 : (2 : Nat) ^ 8 = 256 := by decide
  rw [h3] at h1 h2
  omega
def s1 (x n : Nat) : Nat := (x / 2 &&& mk 85 n) + (x &&& mk 85 n)
def s2 (x n : Nat) : Nat := (x / 4 &&& mk 51 n) + (x &&& mk 51 n)
def s3 (x n : Nat) : Nat := (x / 16 + x) &&& mk 15 n
def b1 (b : Nat) : Nat := (b / 2 &&& 85) + (b &&& 85)
def b2 (b : Nat) : Nat := (b / 4 &&& 51) + (b &&& 51)
def b3 (b : Nat) : Nat := (b / 16 + b) &&& 15
theorem b1_lt : ∀ b, b < 256 → b1 b < 256 := by decide +kernel
theorem b2_lt : ∀ b, b < 256 → b2 b < 256 := by decide +kernel
theorem b12_small : ∀ b, b < 256 → b2 (b1 b) % 16 ≤ 4 ∧ b2 (b1 b) / 16 ≤ 4 ∧ b3 (b2 (b1 b)) = pcn b 8 ∧ pcn b 8 ≤ 8 := by decide +kernel
theorem half85 : ∀ r, r < 512 → (r / 2 % 256 &&& 85) = (r % 256 / 2 &&& 85) := by decide +kernel
theorem quarter51 : ∀ r, r < 1024 → (r / 4 % 256 &&& 51) = (r % 256 / 4 &&& 51) := by decide +kernel
theorem s1_byte (x n : Nat) : s1 x (n + 1) = b1 (x % 256) + 256 * s1 (x / 256) n := by
  unfold s1 b1
  rw [land_byte _ 85 n (by decide), land_byte _ 85 n (by decide)]
  have h := half85 (x % 512) (Nat.mod_lt _ (by decide))
  have e1 : x % 512 / 2 % 256 = x / 2 % 256 := by omega
  have e2 : x % 512 % 256 = x % 256 := by omega
  have e3 : x / 2 / 256 = x / 256 / 2 := by omega
  rw [e1, e2] at h
  rw [h, e3]
  omega
theorem s2_byte (x n : Nat) : s2 x (n + 1) = b2 (x % 256) + 256 * s2 (x / 256) n := by
  unfold s2 b2
  rw [land_byte _ 51 n (by decide), land_byte _ 51 n (by decide)]
  have h := quarter51 (x % 1024) (Nat.mod_lt _ (by decide))
  have e1 : x % 1024 / 4 % 256 = x / 4 % 256 := by omega
  have e2 : x % 1024 % 256 = x % 256 := by omega
  have e3 : x / 4 / 256 = x / 256 / 4 := by omega
  rw [e1, e2] at h
  rw [h, e3]
  omega
/-- The bytes of x, each of which is put through F. -/
def by8 (F : Nat → Nat) (x : Nat) : Nat → Nat
  | 0 => 0
  | n + 1 => F (x % 256) + 256 * by8 F (x / 256) n
theorem s1_by (x : Nat) : ∀ n, s1 x n = by8 b1 x n := by
  intro n
  induction n generalizing x with
  | zero => simp [s1, mk, by8]
  | succ n ih => rw [s1_byte, ih]; rfl
theorem s2_by (x : Nat) : ∀ n, s2 x n = by8 b2 x n := by
  intro n
  induction n generalizing x with
  | zero => simp [s2, mk, by8]
  | succ n ih => rw [s2_byte, ih]; rfl
theorem by8_by8 (F G : Nat → Nat) (hF : ∀ b, b < 256 → F b < 256) (x : Nat) : ∀ n, by8 G (by8 F x n) n = by8 (fun b => G (F b)) x n := by
  intro n
  induction n generalizing x with
  | zero => rfl
  | succ n ih =>
    have h := hF (x % 256) (Nat.mod_lt _ (by decide))
    have e1 : by8 F x (n + 1) % 256 = F (x % 256) := by show (F (x % 256) + 256 * by8 F (x / 256) n) % 256 = _; omega
    have e2 : by8 F x (n + 1) / 256 = by8 F (x / 256) n := by show (F (x % 256) + 256 * by8 F (x / 256) n) / 256 = _; omega
    show G (by8 F x (n + 1) % 256) + 256 * by8 G (by8 F x (n + 1) / 256) n = _
    rw [e1, e2, ih]; rfl
/-- Each byte of y is of two digits up to 4. -/
def low4 (y : Nat) : Nat → Prop
  | 0 => y = 0
  | n + 1 => y % 16 ≤ 4 ∧ y / 16 % 16 ≤ 4 ∧ low4 (y / 256) n
theorem low4_carry (y n : Nat) (h : low4 y (n + 1)) : (y / 16 + y) % 256 = (y / 16 % 16 + y % 256 + 16 * (y / 256 % 16)) ∧ (y / 16 + y) / 256 = y / 256 / 16 + y / 256 := by
  obtain ⟨h1, h2, h3⟩ := h
  have h4 : y / 256 % 16 ≤ 4 := by
    cases n with
    | zero => have : y / 256 = 0 := h3; omega
    | succ n => exact h3.1
  have e1 : y / 16 / 16 = y / 256 := by omega
  have e2 : y % 256 = y % 16 + 16 * (y / 16 % 16) := by omega
  have e3 : y / 16 = y / 16 % 16 + 16 * (y / 256 % 16) + 256 * (y / 256 / 16) := by omega
  have e4 : y = y % 256 + 256 * (y / 256) := by omega
  have hs : y / 16 % 16 + y % 256 + 16 * (y / 256 % 16) < 256 := by omega
  have e5 : y / 16 + y = (y / 16 % 16 + y % 256 + 16 * (y / 256 % 16)) + 256 * (y / 256 / 16 + y / 256) := by omega
  generalize y / 16 % 16 + y % 256 + 16 * (y / 256 % 16) = s at *
  generalize y / 256 / 16 + y / 256 = u at *
  rw [e5]
  exact ⟨by omega, by omega⟩
theorem and15 (a : Nat) : a &&& 15 = a % 16 := Nat.and_two_pow_sub_one_eq_mod a 4
theorem s3_by (y : Nat) : ∀ n, low4 y n → s3 y n = by8 b3 y n := by
  intro n
  induction n generalizing y with
  | zero => intro h; simp [s3, mk, by8]
  | succ n ih =>
    intro h
    obtain ⟨c1, c2⟩ := low4_carry y n h
    obtain ⟨h1, h2, h3⟩ := h
    have i := ih (y / 256) h3
    unfold s3 at i ⊢
    rw [land_byte _ 15 n (by decide), c1, c2, i]
    show _ = b3 (y % 256) + 256 * by8 b3 (y / 256) n
    unfold b3
    rw [and15, and15]
    have : (y / 16 % 16 + y % 256 + 16 * (y / 256 % 16)) % 16 = (y % 256 / 16 + y % 256) % 16 := by omega
    omega
theorem low4_by (x : Nat) : ∀ n, low4 (by8 (fun b => b2 (b1 b)) x n) n := by
  intro n
  induction n generalizing x with
  | zero => rfl
  | succ n ih =>
    obtain ⟨h1, h2, h3, h4⟩ := b12_small (x % 256) (Nat.mod_lt _ (by decide))
    have hl := b2_lt _ (b1_lt (x % 256) (Nat.mod_lt _ (by decide)))
    have e : by8 (fun b => b2 (b1 b)) x (n + 1) = b2 (b1 (x % 256)) + 256 * by8 (fun b => b2 (b1 b)) (x / 256) n := rfl
    have i := ih (x / 256)
    rw [e]
    refine ⟨by omega, by omega, ?_⟩
    have e2 : (b2 (b1 (x % 256)) + 256 * by8 (fun b => b2 (b1 b)) (x / 256) n) / 256 = by8 (fun b => b2 (b1 b)) (x / 256) n := by omega
    rw [e2]; exact i
/-- Behind three steps each byte tells how many bits it had. -/
theorem s123 (x n : Nat) : s3 (s2 (s1 x n) n) n = by8 (fun b => b3 (b2 (b1 b))) x n := by
  have h2 : s2 (s1 x n) n = by8 (fun b => b2 (b1 b)) x n := by
    rw [s1_by, s2_by, by8_by8 b1 b2 b1_lt]
  rw [h2, s3_by _ _ (low4_by x n), by8_by8 (fun b => b2 (b1 b)) b3 (fun b hb => b2_lt _ (b1_lt b hb))]
/-- What math/bits.OnesCount64 reckons. -/
def swar (x : Nat) : Nat :=
  let y := s3 (s2 (s1 x 8) 8) 8
  let y := y + y / 256
  let y := y + y / 65536
  let y := y + y / 4294967296
  y % 128
theorem by8_pc (x : Nat) : ∀ n, by8 (fun b => b3 (b2 (b1 b))) x n = by8 (fun b => pcn b 8) x n := by
  intro n
  induction n generalizing x with
  | zero => rfl
  | succ n ih =>
    obtain ⟨_, _, h3, _⟩ := b12_small (x % 256) (Nat.mod_lt _ (by decide))
    show b3 (b2 (b1 (x % 256))) + 256 * _ = pcn (x % 256) 8 + 256 * _
    rw [h3, ih]
theorem pcn_by (x : Nat) : pcn x 64 = pcn (x % 256) 8 + (pcn (x / 256 % 256) 8 + (pcn (x / 256 / 256 % 256) 8 + (pcn (x / 256 / 256 / 256 % 256) 8 + (pcn (x / 256 / 256 / 256 / 256 % 256) 8 + (pcn (x / 256 / 256 / 256 / 256 / 256 % 256) 8 + (pcn (x / 256 / 256 / 256 / 256 / 256 / 256 % 256) 8 + (pcn (x / 256 / 256 / 256 / 256 / 256 / 256 / 256 % 256) 8))))))) := by
  have h := pcn_split
  have z : ∀ y, pcn y 8 = pcn (y % 256) 8 := fun y => by
    have := h y 0
    simpa [pcn] using this
  rw [show (64 : Nat) = 8 + 56 from rfl, h x 56, show (56 : Nat) = 8 + 48 from rfl, h _ 48, show (48 : Nat) = 8 + 40 from rfl, h _ 40, show (40 : Nat) = 8 + 32 from rfl, h _ 32, show (32 : Nat) = 8 + 24 from rfl, h _ 24, show (24 : Nat) = 8 + 16 from rfl, h _ 16, show (16 : Nat) = 8 + 8 from rfl, h _ 8, z (x / 256 / 256 / 256 / 256 / 256 / 256 / 256)]
theorem dv (m l h z : Nat) (hm : 0 < m) (hl : l < m) (hz : z = l + m * h) : z / m = h := by
  subst hz; rw [Nat.add_mul_div_left _ _ hm, Nat.div_eq_of_lt hl, Nat.zero_add]
section
variable (p0 p1 p2 p3 p4 p5 p6 p7 : Nat)
theorem f8a : p0 + 256 * (p1 + 256 * (p2 + 256 * (p3 + 256 * (p4 + 256 * (p5 + 256 * (p6 + 256 * (p7 + 256 * 0))))))) = p0 + 256 * (p1 + 256 * p2 + 65536 * p3 + 16777216 * p4 + 4294967296 * p5 + 1099511627776 * p6 + 281474976710656 * p7) := by omega
theorem f8b : p0 + 256 * (p1 + 256 * p2 + 65536 * p3 + 16777216 * p4 + 4294967296 * p5 + 1099511627776 * p6 + 281474976710656 * p7) + (p1 + 256 * p2 + 65536 * p3 + 16777216 * p4 + 4294967296 * p5 + 1099511627776 * p6 + 281474976710656 * p7) = ((p0 + p1) + 256 * (p1 + p2)) + 65536 * ((p2 + p3) + 256 * (p3 + p4) + 65536 * (p4 + p5) + 16777216 * (p5 + p6) + 4294967296 * (p6 + p7) + 1099511627776 * p7) := by omega
theorem f8c : ((p0 + p1) + 256 * (p1 + p2)) + 65536 * ((p2 + p3) + 256 * (p3 + p4) + 65536 * (p4 + p5) + 16777216 * (p5 + p6) + 4294967296 * (p6 + p7) + 1099511627776 * p7) + ((p2 + p3) + 256 * (p3 + p4) + 65536 * (p4 + p5) + 16777216 * (p5 + p6) + 4294967296 * (p6 + p7) + 1099511627776 * p7) = ((p0 + p1 + p2 + p3) + 256 * (p1 + p2 + p3 + p4) + 65536 * (p2 + p3 + p4 + p5) + 16777216 * (p3 + p4 + p5 + p6)) + 4294967296 * ((p4 + p5 + p6 + p7) + 256 * (p5 + p6 + p7) + 65536 * (p6 + p7) + 16777216 * p7) := by omega
variable (h0 : p0 ≤ 8) (h1 : p1 ≤ 8) (h2 : p2 ≤ 8) (h3 : p3 ≤ 8) (h4 : p4 ≤ 8) (h5 : p5 ≤ 8) (h6 : p6 ≤ 8) (h7 : p7 ≤ 8)
include h0 h1 h2 h3 h4 h5 h6 h7
theorem f8d : ((p0 + p1 + p2 + p3) + 256 * (p1 + p2 + p3 + p4) + 65536 * (p2 + p3 + p4 + p5) + 16777216 * (p3 + p4 + p5 + p6) + 4294967296 * ((p4 + p5 + p6 + p7) + 256 * (p5 + p6 + p7) + 65536 * (p6 + p7) + 16777216 * p7) + ((p4 + p5 + p6 + p7) + 256 * (p5 + p6 + p7) + 65536 * (p6 + p7) + 16777216 * p7)) % 128 = p0 + (p1 + (p2 + (p3 + (p4 + (p5 + (p6 + p7)))))) := by omega
theorem f8e : p0 + 256 * (p1 + 256 * p2 + 65536 * p3 + 16777216 * p4 + 4294967296 * p5 + 1099511627776 * p6 + 281474976710656 * p7) < 1000000000000000000 := by omega
theorem f8f : ((p0 + p1) + 256 * (p1 + p2)) + 65536 * ((p2 + p3) + 256 * (p3 + p4) + 65536 * (p4 + p5) + 16777216 * (p5 + p6) + 4294967296 * (p6 + p7) + 1099511627776 * p7) < 2000000000000000000 := by omega
theorem f8g : ((p0 + p1 + p2 + p3) + 256 * (p1 + p2 + p3 + p4) + 65536 * (p2 + p3 + p4 + p5) + 16777216 * (p3 + p4 + p5 + p6)) + 4294967296 * ((p4 + p5 + p6 + p7) + 256 * (p5 + p6 + p7) + 65536 * (p6 + p7) + 16777216 * p7) < 2000000000000000000 := by omega
omit h3 h4 h5 h6 h7 in
theorem f8h : (p0 + p1) + 256 * (p1 + p2) < 65536 := by omega
omit h7 in
theorem f8i : (p0 + p1 + p2 + p3) + 256 * (p1 + p2 + p3 + p4) + 65536 * (p2 + p3 + p4 + p5) + 16777216 * (p3 + p4 + p5 + p6) < 4294967296 := by omega
theorem fold8 (y z w : Nat)
    (hy : y = p0 + 256 * (p1 + 256 * (p2 + 256 * (p3 + 256 * (p4 + 256 * (p5 + 256 * (p6 + 256 * (p7 + 256 * 0)))))))) (hz : z = y + y / 256) (hw : w = z + z / 65536) :
    (w + w / 4294967296) % 128 = p0 + (p1 + (p2 + (p3 + (p4 + (p5 + (p6 + p7)))))) ∧ y < 1000000000000000000 ∧ z < 2000000000000000000 ∧ w < 2000000000000000000 := by
  rw [f8a] at hy
  have hy1 := dv 256 p0 _ y (by decide) (Nat.lt_of_le_of_lt h0 (by decide)) hy
  rw [hy1, hy, f8b] at hz
  have hz1 := dv 65536 _ _ z (by decide) (f8h p0 p1 p2 h0 h1 h2) hz
  rw [hz1, hz, f8c] at hw
  have hw1 := dv 4294967296 _ _ w (by decide) (f8i p0 p1 p2 p3 p4 p5 p6 h0 h1 h2 h3 h4 h5 h6) hw
  rw [hw1, hw, hy, hz]
  exact ⟨f8d p0 p1 p2 p3 p4 p5 p6 p7 h0 h1 h2 h3 h4 h5 h6 h7, f8e p0 p1 p2 p3 p4 p5 p6 p7 h0 h1 h2 h3 h4 h5 h6 h7, f8f p0 p1 p2 p3 p4 p5 p6 p7 h0 h1 h2 h3 h4 h5 h6 h7, f8g p0 p1 p2 p3 p4 p5 p6 p7 h0 h1 h2 h3 h4 h5 h6 h7⟩
end

theorem by8_eight (F : Nat → Nat) (x : Nat) : by8 F x 8 = F (x % 256) + 256 * (F (x / 256 % 256) + 256 * (F (x / 256 / 256 % 256) + 256 * (F (x / 256 / 256 / 256 % 256) + 256 * (F (x / 256 / 256 / 256 / 256 % 256) + 256 * (F (x / 256 / 256 / 256 / 256 / 256 % 256) + 256 * (F (x / 256 / 256 / 256 / 256 / 256 / 256 % 256) + 256 * (F (x / 256 / 256 / 256 / 256 / 256 / 256 / 256 % 256) + 256 * 0))))))) := by
  show by8 F x (0 + 1 + 1 + 1 + 1 + 1 + 1 + 1 + 1) = _
  simp only [by8]
theorem pcn8_le (y : Nat) : pcn (y % 256) 8 ≤ 8 := (b12_small (y % 256) (Nat.mod_lt _ (by decide))).2.2.2
/-- The three sums of a word's bytes, and what comes of them. -/
theorem swar_all (x y z w : Nat) (hy : y = s3 (s2 (s1 x 8) 8) 8) (hz : z = y + y / 256) (hw : w = z + z / 65536) :
    (w + w / 4294967296) % 128 = pcn x 64 ∧ y < 1000000000000000000 ∧ z < 2000000000000000000 ∧ w < 2000000000000000000 := by
  have e := by8_eight (fun b => pcn b 8) x
  rw [← by8_pc, ← s123, ← hy] at e
  rw [pcn_by]
  exact fold8 _ _ _ _ _ _ _ _ (pcn8_le _) (pcn8_le _) (pcn8_le _) (pcn8_le _) (pcn8_le _) (pcn8_le _) (pcn8_le _) (pcn8_le _) y z w e hz hw

/-! ### The list of a word's bits -/
def bitsOf (x : Nat) : List Nat := (List.range 64).filter x.testBit
theorem pcn_list (x : Nat) : ∀ n, pcn x n = ((List.range n).filter x.testBit).length := by
  intro n
  induction n generalizing x with
  | zero => rfl
  | succ n ih =>
    rw [List.range_succ_eq_map, List.filter_cons, List.filter_map]
    have e : (x.testBit ∘ Nat.succ) = (x / 2).testBit := by
      funext j; exact Nat.testBit_succ _ _
    rw [e]
    show x % 2 + pcn (x / 2) n = _
    rw [ih]
    by_cases h : x % 2 = 1
    · have : x.testBit 0 = true := by rw [Nat.testBit_zero]; simp [h]
      rw [if_pos this]; simp; omega
    · have : x.testBit 0 = false := by rw [Nat.testBit_zero]; simp [h]
      rw [if_neg (by simp [this])]; simp; omega
theorem pcn_bits (x : Nat) : pcn x 64 = (bitsOf x).length := pcn_list x 64
/-- A word that is not nought: its lowest bit, and what is left without it. -/
theorem low_bit (x : Nat) (h0 : x ≠ 0) (h : x < 18446744073709551616) :
    Lib.ctz 64 x < 64 ∧ bitsOf x = Lib.ctz 64 x :: bitsOf (x &&& (x - 1)) ∧ x &&& (x - 1) < x := by
  obtain ⟨m, hm, hk⟩ := Lib.ctzFrom_spec 64 x (by omega) h
  have e : Lib.ctz 64 x = Lib.ctzFrom 64 x := by simp [Lib.ctz, h0]
  rw [e]
  generalize Lib.ctzFrom 64 x = k at *
  have hp : 0 < 2 ^ k := Nat.pow_pos (by decide)
  have tx : ∀ j, x.testBit j = (decide (k ≤ j) && (2 * m + 1).testBit (j - k)) := fun j => by
    rw [hm, Nat.mul_comm, Nat.testBit_mul_two_pow]
  have e1 : x - 1 = 2 ^ k * (2 * m) + (2 ^ k - 1) := by rw [hm, Nat.mul_add]; omega
  have tx1 : ∀ j, k ≤ j → (x - 1).testBit j = (2 * m).testBit (j - k) := fun j hj => by
    rw [e1, Nat.testBit_two_pow_mul_add _ (by omega), if_neg (by omega)]
  have tand : ∀ j, (x &&& (x - 1)).testBit j = (x.testBit j && !(j == k)) := fun j => by
    rw [Nat.testBit_and]
    by_cases hj : k ≤ j
    · rw [tx1 j hj, tx j]
      by_cases hjk : j = k
      · subst hjk
        simp [Nat.testBit_zero]
      · obtain ⟨d, hd⟩ : ∃ d, j - k = d + 1 := ⟨j - k - 1, by omega⟩
        rw [hd, Nat.testBit_succ, Nat.testBit_succ]
        have d1 : (2 * m + 1) / 2 = m := by omega
        have d2 : 2 * m / 2 = m := by omega
        rw [d1, d2]
        simp [hjk]
    · rw [tx j]; simp [hj]
  refine ⟨hk, ?_, ?_⟩
  · unfold bitsOf
    have er : List.range 64 = List.range k ++ k :: List.range' (k + 1) (63 - k) := by
      have h1 : List.range' 0 k 1 ++ List.range' (0 + 1 * k) (64 - k) 1 = List.range' 0 (k + (64 - k)) 1 := List.range'_append
      have h2 : List.range' k (63 - k + 1) 1 = k :: List.range' (k + 1) (63 - k) 1 := List.range'_succ
      rw [List.range_eq_range', List.range_eq_range', ← h2, show 63 - k + 1 = 64 - k by omega]
      rw [show 0 + 1 * k = k by omega, show k + (64 - k) = 64 by omega] at h1
      exact h1.symm
    rw [er, List.filter_append, List.filter_append, List.filter_cons, List.filter_cons]
    have f1 : (List.range k).filter x.testBit = [] := by
      rw [List.filter_eq_nil_iff]; intro j hj; rw [tx j]; simp at hj ⊢; omega
    have f2 : (List.range k).filter (x &&& (x - 1)).testBit = [] := by
      rw [List.filter_eq_nil_iff]; intro j hj; rw [tand j, tx j]; simp at hj ⊢; omega
    have f3 : (List.range' (k + 1) (63 - k)).filter (x &&& (x - 1)).testBit = (List.range' (k + 1) (63 - k)).filter x.testBit := by
      apply List.filter_congr
      intro j hj
      rw [List.mem_range'_1] at hj
      rw [tand j]
      have : (j == k) = false := by simp; omega
      simp [this]
    have f4 : x.testBit k = true := by rw [tx k]; simp [Nat.testBit_zero]
    have f5 : (x &&& (x - 1)).testBit k = false := by rw [tand k]; simp
    rw [f1, f2, f3, if_pos f4, if_neg (by simp [f5])]
    rfl
  · have : x &&& (x - 1) ≤ x - 1 := Nat.and_le_right
    omega
theorem bitsOf_zero : bitsOf 0 = [] := by
  unfold bitsOf; rw [List.filter_eq_nil_iff]; intro j _; simp
end Go.Proofs.YthefhkgjadfhgaaDoor.SetM
