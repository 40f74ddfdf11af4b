/- Plain mathematics of bits: how many ones a number has, a list of bools as a number, and the way in which the library counts ones (sums of neighbours, field by field). No program is named here. -/
import Derived.Laws.BitsAllLaws
import Derived.Laws.Bits64b
import Derived.Laws.BitsLemmas
import Derived.RowKit
namespace Go.Proofs.Ytgnakccbkglfpaa
namespace Bt

/-- how many ones stand among the lowest k bits of n -/
def popF : Nat → Nat → Nat
  | 0, _ => 0
  | k + 1, n => n % 2 + popF k (n / 2)

/-- how many ones a number of 64 bits has -/
def pop (n : Nat) : Nat := popF 64 n

theorem popF_add (a k : Nat) : ∀ n, popF (a + k) n = popF a n + popF k (n / 2 ^ a) := by
  induction a with
  | zero => intro n; simp [popF]
  | succ a ih =>
    intro n
    rw [show a + 1 + k = (a + k) + 1 from by omega]
    simp only [popF]
    rw [ih, Nat.div_div_eq_div_mul, show 2 * 2 ^ a = 2 ^ (a + 1) from by rw [Nat.pow_succ, Nat.mul_comm]]
    omega

theorem popF_mod (a : Nat) : ∀ n, popF a (n % 2 ^ a) = popF a n := by
  induction a with
  | zero => intro n; rfl
  | succ a ih =>
    intro n
    simp only [popF]
    have h1 : n % 2 ^ (a + 1) % 2 = n % 2 := Nat.mod_mod_of_dvd _ ⟨2 ^ a, by rw [Nat.pow_succ, Nat.mul_comm]⟩
    have h2 : n % 2 ^ (a + 1) / 2 = n / 2 % 2 ^ a := by
      rw [Nat.pow_succ, Nat.mul_comm, Nat.mod_mul_right_div_self]
    rw [h1, h2, ih]

theorem popF_zero (k : Nat) : popF k 0 = 0 := by
  induction k with
  | zero => rfl
  | succ k ih => simp [popF, ih]

theorem popF_le (k : Nat) : ∀ n, popF k n ≤ k := by
  induction k with
  | zero => intro n; simp [popF]
  | succ k ih => intro n; have := ih (n / 2); simp only [popF]; omega

theorem pop_le (n : Nat) : pop n ≤ 64 := popF_le 64 n

/-- ones of a byte and of what stands above it -/
theorem popF_byte (k d r : Nat) (hd : d < 256) : popF (8 + k) (d + 256 * r) = popF 8 d + popF k r := by
  rw [popF_add, show (2 : Nat) ^ 8 = 256 from rfl, show (d + 256 * r) / 256 = r from by omega]
  have h := popF_mod 8 (d + 256 * r)
  rw [show (2 : Nat) ^ 8 = 256 from rfl, show (d + 256 * r) % 256 = d from by omega] at h
  rw [h]

/-- eight bytes as one number -/
def cat (d0 d1 d2 d3 d4 d5 d6 d7 : Nat) : Nat :=
  d0 + 256 * (d1 + 256 * (d2 + 256 * (d3 + 256 * (d4 + 256 * (d5 + 256 * (d6 + 256 * d7))))))

theorem pop_cat (d0 d1 d2 d3 d4 d5 d6 d7 : Nat) (h0 : d0 < 256) (h1 : d1 < 256) (h2 : d2 < 256) (h3 : d3 < 256) (h4 : d4 < 256) (h5 : d5 < 256) (h6 : d6 < 256) :
    pop (cat d0 d1 d2 d3 d4 d5 d6 d7) = popF 8 d0 + popF 8 d1 + popF 8 d2 + popF 8 d3 + popF 8 d4 + popF 8 d5 + popF 8 d6 + popF 8 d7 := by
  unfold pop cat
  rw [show 64 = 8 + (8 + (8 + (8 + (8 + (8 + (8 + 8)))))) from rfl]
  rw [popF_byte _ _ _ h0, popF_byte _ _ _ h1, popF_byte _ _ _ h2, popF_byte _ _ _ h3, popF_byte _ _ _ h4, popF_byte _ _ _ h5, popF_byte _ _ _ h6]
  omega

theorem cat_of (x : Nat) : x = cat (x % 256) (x / 256 % 256) (x / 65536 % 256) (x / 16777216 % 256) (x / 4294967296 % 256) (x / 1099511627776 % 256) (x / 281474976710656 % 256) (x / 72057594037927936) := by
  unfold cat; omega

/-- AND byte by byte -/
theorem and_byte (a c r s : Nat) (ha : a < 256) (hc : c < 256) : (a + 256 * r) &&& (c + 256 * s) = (a &&& c) + 256 * (r &&& s) := by
  have hac : a &&& c < 2 ^ 8 := Nat.and_lt_two_pow _ (by omega)
  have e1 : a + 256 * r = 2 ^ 8 * r + a := by omega
  have e2 : c + 256 * s = 2 ^ 8 * s + c := by omega
  have e3 : (a &&& c) + 256 * (r &&& s) = 2 ^ 8 * (r &&& s) + (a &&& c) := by omega
  rw [e1, e2, e3]
  apply Nat.eq_of_testBit_eq
  intro i
  rw [Nat.testBit_and, Nat.testBit_two_pow_mul_add _ (by omega), Nat.testBit_two_pow_mul_add _ (by omega), Nat.testBit_two_pow_mul_add _ hac]
  by_cases h : i < 8 <;> simp [h, Nat.testBit_and]

theorem and_cat (a0 a1 a2 a3 a4 a5 a6 a7 c : Nat) (hc : c < 256) (h0 : a0 < 256) (h1 : a1 < 256) (h2 : a2 < 256) (h3 : a3 < 256) (h4 : a4 < 256) (h5 : a5 < 256) (h6 : a6 < 256) :
    cat a0 a1 a2 a3 a4 a5 a6 a7 &&& cat c c c c c c c c = cat (a0 &&& c) (a1 &&& c) (a2 &&& c) (a3 &&& c) (a4 &&& c) (a5 &&& c) (a6 &&& c) (a7 &&& c) := by
  unfold cat
  rw [and_byte _ _ _ _ h0 hc, and_byte _ _ _ _ h1 hc, and_byte _ _ _ _ h2 hc, and_byte _ _ _ _ h3 hc, and_byte _ _ _ _ h4 hc, and_byte _ _ _ _ h5 hc, and_byte _ _ _ _ h6 hc]

/-- the first two sums, of a byte -/
def g1 (d : Nat) : Nat := (d / 2 &&& 85) + (d &&& 85)
def g2 (d : Nat) : Nat := (d / 4 &&& 51) + (d &&& 51)

theorem byte_facts : ∀ d : Fin 256, g1 d < 256 ∧ g2 (g1 d) / 16 ≤ 4 ∧ g2 (g1 d) % 16 ≤ 4 ∧ g2 (g1 d) / 16 + g2 (g1 d) % 16 = popF 8 d := by decide +kernel
theorem byte_half : ∀ d : Fin 128, (d.val + 128) &&& 85 = d.val &&& 85 := by decide +kernel
theorem byte_quarter : ∀ d : Fin 64, (d.val + 64) &&& 51 = d.val &&& 51 ∧ (d.val + 128) &&& 51 = d.val &&& 51 ∧ (d.val + 192) &&& 51 = d.val &&& 51 := by decide +kernel

theorem half_and (d b : Nat) (hd : d < 256) : (d / 2 + 128 * (b % 2)) &&& 85 = d / 2 &&& 85 := by
  rcases Nat.mod_two_eq_zero_or_one b with h | h
  · rw [h]; rfl
  · rw [h]; exact byte_half ⟨d / 2, by omega⟩
theorem quarter_and (d b : Nat) (hd : d < 256) : (d / 4 + 64 * (b % 4)) &&& 51 = d / 4 &&& 51 := by
  have q := byte_quarter ⟨d / 4, by omega⟩
  have hb : b % 4 = 0 ∨ b % 4 = 1 ∨ b % 4 = 2 ∨ b % 4 = 3 := by omega
  rcases hb with h | h | h | h
  · rw [h]; rfl
  · rw [h]; exact q.1
  · rw [h]; exact q.2.1
  · rw [h]; exact q.2.2
theorem and_15 (x : Nat) : x &&& 15 = x % 16 := by
  have := Nat.and_two_pow_sub_one_eq_mod x 4
  simpa using this

def M0 : Nat := 6148914691236517205
def M1 : Nat := 3689348814741910323
def M2 : Nat := 1085102592571150095
theorem M0_cat : M0 = cat 85 85 85 85 85 85 85 85 := rfl
theorem M1_cat : M1 = cat 51 51 51 51 51 51 51 51 := rfl
theorem M2_cat : M2 = cat 15 15 15 15 15 15 15 15 := rfl

theorem cat_half (d0 d1 d2 d3 d4 d5 d6 d7 : Nat) : cat d0 d1 d2 d3 d4 d5 d6 d7 / 2 =
    cat (d0 / 2 + 128 * (d1 % 2)) (d1 / 2 + 128 * (d2 % 2)) (d2 / 2 + 128 * (d3 % 2)) (d3 / 2 + 128 * (d4 % 2)) (d4 / 2 + 128 * (d5 % 2)) (d5 / 2 + 128 * (d6 % 2)) (d6 / 2 + 128 * (d7 % 2)) (d7 / 2) := by
  unfold cat; omega
theorem cat_quarter (d0 d1 d2 d3 d4 d5 d6 d7 : Nat) : cat d0 d1 d2 d3 d4 d5 d6 d7 / 4 =
    cat (d0 / 4 + 64 * (d1 % 4)) (d1 / 4 + 64 * (d2 % 4)) (d2 / 4 + 64 * (d3 % 4)) (d3 / 4 + 64 * (d4 % 4)) (d4 / 4 + 64 * (d5 % 4)) (d5 / 4 + 64 * (d6 % 4)) (d6 / 4 + 64 * (d7 % 4)) (d7 / 4) := by
  unfold cat; omega
theorem cat_16th (d0 d1 d2 d3 d4 d5 d6 d7 : Nat) : cat d0 d1 d2 d3 d4 d5 d6 d7 / 16 =
    cat (d0 / 16 + 16 * (d1 % 16)) (d1 / 16 + 16 * (d2 % 16)) (d2 / 16 + 16 * (d3 % 16)) (d3 / 16 + 16 * (d4 % 16)) (d4 / 16 + 16 * (d5 % 16)) (d5 / 16 + 16 * (d6 % 16)) (d6 / 16 + 16 * (d7 % 16)) (d7 / 16) := by
  unfold cat; omega
theorem cat_add (a0 a1 a2 a3 a4 a5 a6 a7 b0 b1 b2 b3 b4 b5 b6 b7 : Nat) : cat a0 a1 a2 a3 a4 a5 a6 a7 + cat b0 b1 b2 b3 b4 b5 b6 b7 =
    cat (a0 + b0) (a1 + b1) (a2 + b2) (a3 + b3) (a4 + b4) (a5 + b5) (a6 + b6) (a7 + b7) := by
  unfold cat; omega

def s1 (x : Nat) : Nat := (x / 2 &&& M0) + (x &&& M0)
def s2 (x : Nat) : Nat := (x / 4 &&& M1) + (x &&& M1)
def s3 (x : Nat) : Nat := (x / 16 + x) &&& M2

theorem s1_cat (d0 d1 d2 d3 d4 d5 d6 d7 : Nat) (h0 : d0 < 256) (h1 : d1 < 256) (h2 : d2 < 256) (h3 : d3 < 256) (h4 : d4 < 256) (h5 : d5 < 256) (h6 : d6 < 256) :
    s1 (cat d0 d1 d2 d3 d4 d5 d6 d7) = cat (g1 d0) (g1 d1) (g1 d2) (g1 d3) (g1 d4) (g1 d5) (g1 d6) (g1 d7) := by
  unfold s1
  rw [cat_half, M0_cat, and_cat _ _ _ _ _ _ _ _ _ (by omega) (by omega) (by omega) (by omega) (by omega) (by omega) (by omega) (by omega),
    and_cat _ _ _ _ _ _ _ _ _ (by omega) h0 h1 h2 h3 h4 h5 h6, cat_add,
    half_and _ _ h0, half_and _ _ h1, half_and _ _ h2, half_and _ _ h3, half_and _ _ h4, half_and _ _ h5, half_and _ _ h6]
  rfl
theorem s2_cat (d0 d1 d2 d3 d4 d5 d6 d7 : Nat) (h0 : d0 < 256) (h1 : d1 < 256) (h2 : d2 < 256) (h3 : d3 < 256) (h4 : d4 < 256) (h5 : d5 < 256) (h6 : d6 < 256) :
    s2 (cat d0 d1 d2 d3 d4 d5 d6 d7) = cat (g2 d0) (g2 d1) (g2 d2) (g2 d3) (g2 d4) (g2 d5) (g2 d6) (g2 d7) := by
  unfold s2
  rw [cat_quarter, M1_cat, and_cat _ _ _ _ _ _ _ _ _ (by omega) (by omega) (by omega) (by omega) (by omega) (by omega) (by omega) (by omega),
    and_cat _ _ _ _ _ _ _ _ _ (by omega) h0 h1 h2 h3 h4 h5 h6, cat_add,
    quarter_and _ _ h0, quarter_and _ _ h1, quarter_and _ _ h2, quarter_and _ _ h3, quarter_and _ _ h4, quarter_and _ _ h5, quarter_and _ _ h6]
  rfl
theorem s3_cat (d0 d1 d2 d3 d4 d5 d6 d7 : Nat) (h0 : d0 / 16 ≤ 4 ∧ d0 % 16 ≤ 4) (h1 : d1 / 16 ≤ 4 ∧ d1 % 16 ≤ 4) (h2 : d2 / 16 ≤ 4 ∧ d2 % 16 ≤ 4) (h3 : d3 / 16 ≤ 4 ∧ d3 % 16 ≤ 4)
    (h4 : d4 / 16 ≤ 4 ∧ d4 % 16 ≤ 4) (h5 : d5 / 16 ≤ 4 ∧ d5 % 16 ≤ 4) (h6 : d6 / 16 ≤ 4 ∧ d6 % 16 ≤ 4) (h7 : d7 / 16 ≤ 4 ∧ d7 % 16 ≤ 4) :
    s3 (cat d0 d1 d2 d3 d4 d5 d6 d7) = cat (d0 / 16 + d0 % 16) (d1 / 16 + d1 % 16) (d2 / 16 + d2 % 16) (d3 / 16 + d3 % 16) (d4 / 16 + d4 % 16) (d5 / 16 + d5 % 16) (d6 / 16 + d6 % 16) (d7 / 16 + d7 % 16) := by
  unfold s3
  rw [cat_16th, cat_add, M2_cat, and_cat _ _ _ _ _ _ _ _ _ (by omega) (by omega) (by omega) (by omega) (by omega) (by omega) (by omega) (by omega)]
  simp only [and_15]
  have e : ∀ a b : Nat, a / 16 ≤ 4 ∧ a % 16 ≤ 4 → (a / 16 + 16 * (b % 16) + a) % 16 = a / 16 + a % 16 := by intro a b h; omega
  have e7 : (d7 / 16 + d7) % 16 = d7 / 16 + d7 % 16 := by omega
  rw [e _ _ h0, e _ _ h1, e _ _ h2, e _ _ h3, e _ _ h4, e _ _ h5, e _ _ h6, e7]

theorem last_cat (p0 p1 p2 p3 p4 p5 p6 p7 : Nat) (h0 : p0 ≤ 8) (h1 : p1 ≤ 8) (h2 : p2 ≤ 8) (h3 : p3 ≤ 8) (h4 : p4 ≤ 8) (h5 : p5 ≤ 8) (h6 : p6 ≤ 8) (h7 : p7 ≤ 8) :
    ∃ y z : Nat, y = cat p0 p1 p2 p3 p4 p5 p6 p7 + cat p0 p1 p2 p3 p4 p5 p6 p7 / 256 ∧ y ≤ 1000000000000000000 ∧ z = y + y / 65536 ∧ z ≤ 2000000000000000000 ∧
      (z + z / 4294967296) % 128 = p0 + p1 + p2 + p3 + p4 + p5 + p6 + p7 ∧ z + z / 4294967296 ≤ 3000000000000000000 := by
  refine ⟨_, _, rfl, ?_, rfl, ?_, ?_, ?_⟩
  · unfold cat; omega
  · unfold cat; omega
  · have e1 : cat p0 p1 p2 p3 p4 p5 p6 p7 / 256 = cat p1 p2 p3 p4 p5 p6 p7 0 := by unfold cat; omega
    rw [e1, cat_add]
    have e2 : cat (p0 + p1) (p1 + p2) (p2 + p3) (p3 + p4) (p4 + p5) (p5 + p6) (p6 + p7) (p7 + 0) / 65536 = cat (p2 + p3) (p3 + p4) (p4 + p5) (p5 + p6) (p6 + p7) (p7 + 0) 0 0 := by unfold cat; omega
    rw [e2, cat_add]
    have e3 : ∀ q0 q1 q2 q3 q4 q5 q6 q7 : Nat, q0 ≤ 32 → q1 ≤ 32 → q2 ≤ 32 → q3 ≤ 32 → cat q0 q1 q2 q3 q4 q5 q6 q7 / 4294967296 = cat q4 q5 q6 q7 0 0 0 0 := by intro q0 q1 q2 q3 q4 q5 q6 q7 _ _ _ _; unfold cat; omega
    rw [e3 _ _ _ _ _ _ _ _ (by omega) (by omega) (by omega) (by omega), cat_add]
    have e4 : ∀ q0 q1 q2 q3 q4 q5 q6 q7 : Nat, cat q0 q1 q2 q3 q4 q5 q6 q7 % 128 = q0 % 128 := by intro q0 q1 q2 q3 q4 q5 q6 q7; unfold cat; omega
    rw [e4]
    omega
  · unfold cat; omega

/-- the library's way of counting, in whole numbers -/
theorem swar_nat (x : Nat) (hx : x < 18446744073709551616) :
    ∃ y z : Nat, y = s3 (s2 (s1 x)) + s3 (s2 (s1 x)) / 256 ∧ y ≤ 1000000000000000000 ∧ z = y + y / 65536 ∧ z ≤ 2000000000000000000 ∧
      (z + z / 4294967296) % 128 = pop x ∧ z + z / 4294967296 ≤ 3000000000000000000 ∧ s1 x < 18446744073709551616 ∧ s2 (s1 x) < 18446744073709551616 / 2 := by
  have hc := cat_of x
  obtain ⟨d0, e0⟩ : ∃ d, d = x % 256 := ⟨_, rfl⟩
  obtain ⟨d1, e1⟩ : ∃ d, d = x / 256 % 256 := ⟨_, rfl⟩
  obtain ⟨d2, e2⟩ : ∃ d, d = x / 65536 % 256 := ⟨_, rfl⟩
  obtain ⟨d3, e3⟩ : ∃ d, d = x / 16777216 % 256 := ⟨_, rfl⟩
  obtain ⟨d4, e4⟩ : ∃ d, d = x / 4294967296 % 256 := ⟨_, rfl⟩
  obtain ⟨d5, e5⟩ : ∃ d, d = x / 1099511627776 % 256 := ⟨_, rfl⟩
  obtain ⟨d6, e6⟩ : ∃ d, d = x / 281474976710656 % 256 := ⟨_, rfl⟩
  obtain ⟨d7, e7⟩ : ∃ d, d = x / 72057594037927936 := ⟨_, rfl⟩
  rw [← e0, ← e1, ← e2, ← e3, ← e4, ← e5, ← e6, ← e7] at hc
  have h0 : d0 < 256 := by omega
  have h1 : d1 < 256 := by omega
  have h2 : d2 < 256 := by omega
  have h3 : d3 < 256 := by omega
  have h4 : d4 < 256 := by omega
  have h5 : d5 < 256 := by omega
  have h6 : d6 < 256 := by omega
  have h7 : d7 < 256 := by omega
  clear e0 e1 e2 e3 e4 e5 e6 e7 hx
  subst hc
  have f0 := byte_facts ⟨d0, h0⟩
  have f1 := byte_facts ⟨d1, h1⟩
  have f2 := byte_facts ⟨d2, h2⟩
  have f3 := byte_facts ⟨d3, h3⟩
  have f4 := byte_facts ⟨d4, h4⟩
  have f5 := byte_facts ⟨d5, h5⟩
  have f6 := byte_facts ⟨d6, h6⟩
  have f7 := byte_facts ⟨d7, h7⟩
  simp only at f0 f1 f2 f3 f4 f5 f6 f7
  rw [pop_cat _ _ _ _ _ _ _ _ h0 h1 h2 h3 h4 h5 h6, s1_cat _ _ _ _ _ _ _ _ h0 h1 h2 h3 h4 h5 h6, s2_cat _ _ _ _ _ _ _ _ f0.1 f1.1 f2.1 f3.1 f4.1 f5.1 f6.1,
    s3_cat _ _ _ _ _ _ _ _ ⟨f0.2.1, f0.2.2.1⟩ ⟨f1.2.1, f1.2.2.1⟩ ⟨f2.2.1, f2.2.2.1⟩ ⟨f3.2.1, f3.2.2.1⟩ ⟨f4.2.1, f4.2.2.1⟩ ⟨f5.2.1, f5.2.2.1⟩ ⟨f6.2.1, f6.2.2.1⟩ ⟨f7.2.1, f7.2.2.1⟩]
  obtain ⟨y, z, hy, hy1, hz, hz1, hr, hr1⟩ := last_cat _ _ _ _ _ _ _ _ (show g2 (g1 d0) / 16 + g2 (g1 d0) % 16 ≤ 8 by omega) (show g2 (g1 d1) / 16 + g2 (g1 d1) % 16 ≤ 8 by omega) (show g2 (g1 d2) / 16 + g2 (g1 d2) % 16 ≤ 8 by omega)
    (show g2 (g1 d3) / 16 + g2 (g1 d3) % 16 ≤ 8 by omega) (show g2 (g1 d4) / 16 + g2 (g1 d4) % 16 ≤ 8 by omega) (show g2 (g1 d5) / 16 + g2 (g1 d5) % 16 ≤ 8 by omega) (show g2 (g1 d6) / 16 + g2 (g1 d6) % 16 ≤ 8 by omega) (show g2 (g1 d7) / 16 + g2 (g1 d7) % 16 ≤ 8 by omega)
  refine ⟨y, z, hy, hy1, hz, hz1, ?_, hr1, ?_, ?_⟩
  · rw [hr, f0.2.2.2, f1.2.2.2, f2.2.2.2, f3.2.2.2, f4.2.2.2, f5.2.2.2, f6.2.2.2, f7.2.2.2]
  · have := f7.1; have := f6.1; have := f5.1; have := f4.1; have := f3.1; have := f2.1; have := f1.1; have := f0.1
    unfold cat; omega
  · unfold cat; omega

/-- the same as the walk writes it -/
def q1 (x : Int) : Int := IntKind.u64.wrap (bits .and .u64 (x / 2) 6148914691236517205 + bits .and .u64 x 6148914691236517205)
def q2 (x : Int) : Int := IntKind.u64.wrap (bits .and .u64 (x / 4) 3689348814741910323 + bits .and .u64 x 3689348814741910323)
def q3 (x : Int) : Int := bits .and .u64 (IntKind.u64.wrap (x / 16 + x)) 1085102592571150095

theorem and_le (a b : Nat) : a &&& b ≤ b := Nat.and_le_right
theorem q1_nat (x : Nat) (hx : x < 18446744073709551616) (h : s1 x < 18446744073709551616) : q1 (x : Int) = (s1 x : Nat) := by
  unfold q1
  rw [show (x : Int) / 2 = ((x / 2 : Nat) : Int) from by omega, show (6148914691236517205 : Int) = ((M0 : Nat) : Int) from rfl, bits_and_u64_nat _ _ (by omega) (by decide), bits_and_u64_nat _ _ hx (by decide), IntKind.wrap_u64]
  unfold s1 at h ⊢; omega
theorem q2_nat (x : Nat) (hx : x < 18446744073709551616) (h : s2 x < 18446744073709551616) : q2 (x : Int) = (s2 x : Nat) := by
  unfold q2
  rw [show (x : Int) / 4 = ((x / 4 : Nat) : Int) from by omega, show (3689348814741910323 : Int) = ((M1 : Nat) : Int) from rfl, bits_and_u64_nat _ _ (by omega) (by decide), bits_and_u64_nat _ _ hx (by decide), IntKind.wrap_u64]
  unfold s2 at h ⊢; omega
theorem q3_nat (x : Nat) (hx : x < 18446744073709551616 / 2) : q3 (x : Int) = (s3 x : Nat) := by
  unfold q3
  rw [show IntKind.u64.wrap ((x : Int) / 16 + x) = ((x / 16 + x : Nat) : Int) from by rw [IntKind.wrap_u64]; omega, show (1085102592571150095 : Int) = ((M2 : Nat) : Int) from rfl, bits_and_u64_nat _ _ (by omega) (by decide)]
  rfl

def q4 (x : Int) : Int := IntKind.u64.wrap (x + x / 256)
def q5 (x : Int) : Int := IntKind.u64.wrap (x + x / 65536)
def q6 (x : Int) : Int := IntKind.u64.wrap (x + x / 4294967296)

theorem ofInt_i64 (a : Nat) (ha : a < 9223372036854775808) : (BitVec.ofInt 64 (a : Int)).toNat = a := by
  rw [BitVec.ofInt_natCast, BitVec.toNat_ofNat]; exact Nat.mod_eq_of_lt (by omega)
theorem and_127 (a : Nat) (ha : a < 9223372036854775808) : bits .and .i64 (a : Int) 127 = ((a % 128 : Nat) : Int) := by
  show IntKind.i64.wrap ((BitVec.ofInt 64 (a : Int) &&& BitVec.ofInt 64 ((127 : Nat) : Int)).toNat : Int) = _
  rw [BitVec.toNat_and, ofInt_i64 a ha, ofInt_i64 127 (by decide), IntKind.wrap_i64]
  have h := Nat.and_two_pow_sub_one_eq_mod a 7
  simp only [Nat.reducePow, Nat.reduceSub] at h
  rw [h]
  omega

theorem swar (n : Nat) (hn : n < 18446744073709551616) : bits .and .i64 (RowKit.wrap64 (q6 (q5 (q4 (q3 (q2 (q1 n))))))) 127 = ((pop n : Nat) : Int) := by
  obtain ⟨y, z, hy, hy1, hz, hz1, hr, hr1, b1, b2⟩ := swar_nat n hn
  rw [q1_nat n hn b1, q2_nat _ b1 (by omega), q3_nat _ b2]
  have e4 : q4 ((s3 (s2 (s1 n)) : Nat) : Int) = (y : Nat) := by unfold q4; rw [IntKind.wrap_u64]; omega
  have e5 : q5 (y : Int) = (z : Nat) := by unfold q5; rw [IntKind.wrap_u64]; omega
  have e6 : q6 (z : Int) = ((z + z / 4294967296 : Nat) : Int) := by unfold q6; rw [IntKind.wrap_u64]; omega
  rw [e4, e5, e6]
  unfold RowKit.wrap64
  have e7 : ∀ m : Nat, m ≤ 3000000000000000000 → ((m : Int) + 9223372036854775808) % 18446744073709551616 - 9223372036854775808 = (m : Int) := by intro m hm; omega
  first
    | rw [e7 _ hr1]
    | rw [show _ = ((z + z / 4294967296 : Nat) : Int) from by omega]
  rw [and_127 _ (by omega), hr]

end Bt
end Go.Proofs.Ytgnakccbkglfpaa
