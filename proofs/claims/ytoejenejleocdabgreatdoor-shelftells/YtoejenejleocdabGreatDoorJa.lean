import Derived.Laws.BitsAllLaws
import Derived.Laws.Bits64b
import Derived.Laws.BitsLemmas
import Derived.RowKit
import Derived.WalkKit
import Derived.Deep.OwnRows
import Derived.Deep.Draws
import Derived.Test.YtoejenejleocdabGreatDoorRows
import Derived.WalkSpells
import Derived.WalkLawsBesides
import Derived.Lib.Hide
import Derived.Deep.QuietTactic
import Derived.BigQuiet
import Derived.Deep.RegionWith
import Derived.Deep.LoopGhost
/- Plain mathematics of bits: how many ones a number has, a list of bools as a number, and the way in which the library counts ones (sums of neighbours, field by field). No program is named here. -/
namespace Go.Proofs.YtoejenejleocdabGreatDoor
namespace Bt

/-- how many ones stand among the lowest k bits of n -/
def popF : Nat → Nat → Nat
  | 0, _ => 0
  | k + 1, n => n % 2 + popF k (n / 2)

/-- how many ones a number of 64 bits has -/
def pop (n : Nat) : Nat := popF 64 n

theorem popF_add (a k : Nat) : ∀ n, popF (a + k) n = popF a n + popF k (n / 2 ^ a) := by
  induction a with
  | zero => intro n; simp [popF]
  | succ a ih =>
    intro n
    rw [show a + 1 + k = (a + k) + 1 from by omega]
    simp only [popF]
    rw [ih, Nat.div_div_eq_div_mul, show 2 * 2 ^ a = 2 ^ (a + 1) from by rw [Nat.pow_succ, Nat.mul_comm]]
    omega

theorem popF_mod (a : Nat) : ∀ n, popF a (n % 2 ^ a) = popF a n := by
  induction a with
  | zero => intro n; rfl
  | succ a ih =>
    intro n
    simp only [popF]
    have h1 : n % 2 ^ (a + 1) % 2 = n % 2 := Nat.mod_mod_of_dvd _ ⟨2 ^ a, by rw [Nat.pow_succ, Nat.mul_comm]⟩
    have h2 : n % 2 ^ (a + 1) / 2 = n / 2 % 2 ^ a := by
      rw [Nat.pow_succ, Nat.mul_comm, Nat.mod_mul_right_div_self]
    rw [h1, h2, ih]

theorem popF_zero (k : Nat) : popF k 0 = 0 := by
  induction k with
  | zero => rfl
  | succ k ih => simp [popF, ih]

theorem popF_le (k : Nat) : ∀ n, popF k n ≤ k := by
  induction k with
  | zero => intro n; simp [popF]
  | succ k ih => intro n; have := ih (n / 2); simp only [popF]; omega

theorem pop_le (n : Nat) : pop n ≤ 64 := popF_le 64 n

/-- ones of a byte and of what stands above it -/
theorem popF_byte (k d r : Nat) (hd : d < 256) : popF (8 + k) (d + 256 * r) = popF 8 d + popF k r := by
  rw [popF_add, show (2 : Nat) ^ 8 = 256 from rfl, show (d + 256 * r) / 256 = r from by omega]
  have h := popF_mod 8 (d + 256 * r)
  rw [show (2 : Nat) ^ 8 = 256 from rfl, show (d + 256 * r) % 256 = d from by omega] at h
  rw [h]

/-- eight bytes as one number -/
def cat (d0 d1 d2 d3 d4 d5 d6 d7 : Nat) : Nat :=
  d0 + 256 * (d1 + 256 * (d2 + 256 * (d3 + 256 * (d4 + 256 * (d5 + 256 * (d6 + 256 * d7))))))

theorem pop_cat (d0 d1 d2 d3 d4 d5 d6 d7 : Nat) (h0 : d0 < 256) (h1 : d1 < 256) (h2 : d2 < 256) (h3 : d3 < 256) (h4 : d4 < 256) (h5 : d5 < 256) (h6 : d6 < 256) :
    pop (cat d0 d1 d2 d3 d4 d5 d6 d7) = popF 8 d0 + popF 8 d1 + popF 8 d2 + popF 8 d3 + popF 8 d4 + popF 8 d5 + popF 8 d6 + popF 8 d7 := by
  unfold pop cat
  rw [show 64 = 8 + (8 + (8 + (8 + (8 + (8 + (8 + 8)))))) from rfl]
  rw [popF_byte _ _ _ h0, popF_byte _ _ _ h1, popF_byte _ _ _ h2, popF_byte _ _ _ h3, popF_byte _ _ _ h4, popF_byte _ _ _ h5, popF_byte _ _ _ h6]
  omega

theorem cat_of (x : Nat) : x = cat (x % 256) (x / 256 % 256) (x / 65536 % 256) (x / 16777216 % 256) (x / 4294967296 % 256) (x / 1099511627776 % 256) (x / 281474976710656 % 256) (x / 72057594037927936) := by
  unfold cat; omega

/-- AND byte by byte -/
theorem and_byte (a c r s : Nat) (ha : a < 256) (hc : c < 256) : (a + 256 * r) &&& (c + 256 * s) = (a &&& c) + 256 * (r &&& s) := by
  have hac : a &&& c < 2 ^ 8 := Nat.and_lt_two_pow _ (by omega)
  have e1 : a + 256 * r = 2 ^ 8 * r + a := by omega
  have e2 : c + 256 * s = 2 ^ 8 * s + c := by omega
  have e3 : (a &&& c) + 256 * (r &&& s) = 2 ^ 8 * (r &&& s) + (a &&& c) := by omega
  rw [e1, e2, e3]
  apply Nat.eq_of_testBit_eq
  intro i
  rw [Nat.testBit_and, Nat.testBit_two_pow_mul_add _ (by omega), Nat.testBit_two_pow_mul_add _ (by omega), Nat.testBit_two_pow_mul_add _ hac]
  by_cases h : i < 8 <;> simp [h, Nat.testBit_and]

theorem and_cat (a0 a1 a2 a3 a4 a5 a6 a7 c : Nat) (hc : c < 256) (h0 : a0 < 256) (h1 : a1 < 256) (h2 : a2 < 256) (h3 : a3 < 256) (h4 : a4 < 256) (h5 : a5 < 256) (h6 : a6 < 256) :
    cat a0 a1 a2 a3 a4 a5 a6 a7 &&& cat c c c c c c c c = cat (a0 &&& c) (a1 &&& c) (a2 &&& c) (a3 &&& c) (a4 &&& c) (a5 &&& c) (a6 &&& c) (a7 &&& c) := by
  unfold cat
  rw [and_byte _ _ _ _ h0 hc, and_byte _ _ _ _ h1 hc, and_byte _ _ _ _ h2 hc, and_byte _ _ _ _ h3 hc, and_byte _ _ _ _ h4 hc, and_byte _ _ _ _ h5 hc, and_byte _ _ _ _ h6 hc]

/-- the first two sums, of a byte -/
def g1 (d : Nat) : Nat := (d / 2 &&& 85) + (d &&& 85)
def g2 (d : Nat) : Nat := (d / 4 &&& 51) + (d &&& 51)

theorem byte_facts : ∀ d : Fin 256, g1 d < 256 ∧ g2 (g1 d) / 16 ≤ 4 ∧ g2 (g1 d) % 16 ≤ 4 ∧ g2 (g1 d) / 16 + g2 (g1 d) % 16 = popF 8 d := by decide +kernel
theorem byte_half : ∀ d : Fin 128, (d.val + 128) &&& 85 = d.val &&& 85 := by decide +kernel
theorem byte_quarter : ∀ d : Fin 64, (d.val + 64) &&& 51 = d.val &&& 51 ∧ (d.val + 128) &&& 51 = d.val &&& 51 ∧ (d.val + 192) &&& 51 = d.val &&& 51 := by decide +kernel

theorem half_and (d b : Nat) (hd : d < 256) : (d / 2 + 128 * (b % 2)) &&& 85 = d / 2 &&& 85 := by
  rcases Nat.mod_two_eq_zero_or_one b with h | h
  · rw [h]; rfl
  · rw [h]; exact byte_half ⟨d / 2, by omega⟩
theorem quarter_and (d b : Nat) (hd : d < 256) : (d / 4 + 64 * (b % 4)) &&& 51 = d / 4 &&& 51 := by
  have q := byte_quarter ⟨d / 4, by omega⟩
  have hb : b % 4 = 0 ∨ b % 4 = 1 ∨ b % 4 = 2 ∨ b % 4 = 3 := by omega
  rcases hb with h | h | h | h
  · rw [h]; rfl
  · rw [h]; exact q.1
  · rw [h]; exact q.2.1
  · rw [h]; exact q.2.2
theorem and_15 (x : Nat) : x &&& 15 = x % 16 := by
  have := Nat.and_two_pow_sub_one_eq_mod x 4
  simpa using this

def M0 : Nat := 6148914691236517205
def M1 : Nat := 3689348814741910323
def M2 : Nat := 1085102592571150095
theorem M0_cat : M0 = cat 85 85 85 85 85 85 85 85 := rfl
theorem M1_cat : M1 = cat 51 51 51 51 51 51 51 51 := rfl
theorem M2_cat : M2 = cat 15 15 15 15 15 15 15 15 := rfl

theorem cat_half (d0 d1 d2 d3 d4 d5 d6 d7 : Nat) : cat d0 d1 d2 d3 d4 d5 d6 d7 / 2 =
    cat (d0 / 2 + 128 * (d1 % 2)) (d1 / 2 + 128 * (d2 % 2)) (d2 / 2 + 128 * (d3 % 2)) (d3 / 2 + 128 * (d4 % 2)) (d4 / 2 + 128 * (d5 % 2)) (d5 / 2 + 128 * (d6 % 2)) (d6 / 2 + 128 * (d7 % 2)) (d7 / 2) := by
  unfold cat; omega
theorem cat_quarter (d0 d1 d2 d3 d4 d5 d6 d7 : Nat) : cat d0 d1 d2 d3 d4 d5 d6 d7 / 4 =
    cat (d0 / 4 + 64 * (d1 % 4)) (d1 / 4 + 64 * (d2 % 4)) (d2 / 4 + 64 * (d3 % 4)) (d3 / 4 + 64 * (d4 % 4)) (d4 / 4 + 64 * (d5 % 4)) (d5 / 4 + 64 * (d6 % 4)) (d6 / 4 + 64 * (d7 % 4)) (d7 / 4) := by
  unfold cat; omega
theorem cat_16th (d0 d1 d2 d3 d4 d5 d6 d7 : Nat) : cat d0 d1 d2 d3 d4 d5 d6 d7 / 16 =
    cat (d0 / 16 + 16 * (d1 % 16)) (d1 / 16 + 16 * (d2 % 16)) (d2 / 16 + 16 * (d3 % 16)) (d3 / 16 + 16 * (d4 % 16)) (d4 / 16 + 16 * (d5 % 16)) (d5 / 16 + 16 * (d6 % 16)) (d6 / 16 + 16 * (d7 % 16)) (d7 / 16) := by
  unfold cat; omega
theorem cat_add (a0 a1 a2 a3 a4 a5 a6 a7 b0 b1 b2 b3 b4 b5 b6 b7 : Nat) : cat a0 a1 a2 a3 a4 a5 a6 a7 + cat b0 b1 b2 b3 b4 b5 b6 b7 =
    cat (a0 + b0) (a1 + b1) (a2 + b2) (a3 + b3) (a4 + b4) (a5 + b5) (a6 + b6) (a7 + b7) := by
  unfold cat; omega

def s1 (x : Nat) : Nat := (x / 2 &&& M0) + (x &&& M0)
def s2 (x : Nat) : Nat := (x / 4 &&& M1) + (x &&& M1)
def s3 (x : Nat) : Nat := (x / 16 + x) &&& M2

theorem s1_cat (d0 d1 d2 d3 d4 d5 d6 d7 : Nat) (h0 : d0 < 256) (h1 : d1 < 256) (h2 : d2 < 256) (h3 : d3 < 256) (h4 : d4 < 256) (h5 : d5 < 256) (h6 : d6 < 256) :
    s1 (cat d0 d1 d2 d3 d4 d5 d6 d7) = cat (g1 d0) (g1 d1) (g1 d2) (g1 d3) (g1 d4) (g1 d5) (g1 d6) (g1 d7) := by
  unfold s1
  rw [cat_half, M0_cat, and_cat _ _ _ _ _ _ _ _ _ (by omega) (by omega) (by omega) (by omega) (by omega) (by omega) (by omega) (by omega),
    and_cat _ _ _ _ _ _ _ _ _ (by omega) h0 h1 h2 h3 h4 h5 h6, cat_add,
    half_and _ _ h0, half_and _ _ h1, half_and _ _ h2, half_and _ _ h3, half_and _ _ h4, half_and _ _ h5, half_and _ _ h6]
  rfl
theorem s2_cat (d0 d1 d2 d3 d4 d5 d6 d7 : Nat) (h0 : d0 < 256) (h1 : d1 < 256) (h2 : d2 < 256) (h3 : d3 < 256) (h4 : d4 < 256) (h5 : d5 < 256) (h6 : d6 < 256) :
    s2 (cat d0 d1 d2 d3 d4 d5 d6 d7) = cat (g2 d0) (g2 d1) (g2 d2) (g2 d3) (g2 d4) (g2 d5) (g2 d6) (g2 d7) := by
  unfold s2
  rw [cat_quarter, M1_cat, and_cat _ _ _ _ _ _ _ _ _ (by omega) (by omega) (by omega) (by omega) (by omega) (by omega) (by omega) (by omega),
    and_cat _ _ _ _ _ _ _ _ _ (by omega) h0 h1 h2 h3 h4 h5 h6, cat_add,
    quarter_and _ _ h0, quarter_and _ _ h1, quarter_and _ _ h2, quarter_and _ _ h3, quarter_and _ _ h4, quarter_and _ _ h5, quarter_and _ _ h6]
  rfl
theorem s3_cat (d0 d1 d2 d3 d4 d5 d6 d7 : Nat) (h0 : d0 / 16 ≤ 4 ∧ d0 % 16 ≤ 4) (h1 : d1 / 16 ≤ 4 ∧ d1 % 16 ≤ 4) (h2 : d2 / 16 ≤ 4 ∧ d2 % 16 ≤ 4) (h3 : d3 / 16 ≤ 4 ∧ d3 % 16 ≤ 4)
    (h4 : d4 / 16 ≤ 4 ∧ d4 % 16 ≤ 4) (h5 : d5 / 16 ≤ 4 ∧ d5 % 16 ≤ 4) (h6 : d6 / 16 ≤ 4 ∧ d6 % 16 ≤ 4) (h7 : d7 / 16 ≤ 4 ∧ d7 % 16 ≤ 4) :
    s3 (cat d0 d1 d2 d3 d4 d5 d6 d7) = cat (d0 / 16 + d0 % 16) (d1 / 16 + d1 % 16) (d2 / 16 + d2 % 16) (d3 / 16 + d3 % 16) (d4 / 16 + d4 % 16) (d5 / 16 + d5 % 16) (d6 / 16 + d6 % 16) (d7 / 16 + d7 % 16) := by
  unfold s3
  rw [cat_16th, cat_add, M2_cat, and_cat _ _ _ _ _ _ _ _ _ (by omega) (by omega) (by omega) (by omega) (by omega) (by omega) (by omega) (by omega)]
  simp only [and_15]
  have e : ∀ a b : Nat, a / 16 ≤ 4 ∧ a % 16 ≤ 4 → (a / 16 + 16 * (b % 16) + a) % 16 = a / 16 + a % 16 := by intro a b h; omega
  have e7 : (d7 / 16 + d7) % 16 = d7 / 16 + d7 % 16 := by omega
  rw [e _ _ h0, e _ _ h1, e _ _ h2, e _ _ h3, e _ _ h4, e _ _ h5, e _ _ h6, e7]

theorem last_cat (p0 p1 p2 p3 p4 p5 p6 p7 : Nat) (h0 : p0 ≤ 8) (h1 : p1 ≤ 8) (h2 : p2 ≤ 8) (h3 : p3 ≤ 8) (h4 : p4 ≤ 8) (h5 : p5 ≤ 8) (h6 : p6 ≤ 8) (h7 : p7 ≤ 8) :
    ∃ y z : Nat, y = cat p0 p1 p2 p3 p4 p5 p6 p7 + cat p0 p1 p2 p3 p4 p5 p6 p7 / 256 ∧ y ≤ 1000000000000000000 ∧ z = y + y / 65536 ∧ z ≤ 2000000000000000000 ∧
      (z + z / 4294967296) % 128 = p0 + p1 + p2 + p3 + p4 + p5 + p6 + p7 ∧ z + z / 4294967296 ≤ 3000000000000000000 := by
  refine ⟨_, _, rfl, ?_, rfl, ?_, ?_, ?_⟩
  · unfold cat; omega
  · unfold cat; omega
  · have e1 : cat p0 p1 p2 p3 p4 p5 p6 p7 / 256 = cat p1 p2 p3 p4 p5 p6 p7 0 := by unfold cat; omega
    rw [e1, cat_add]
    have e2 : cat (p0 + p1) (p1 + p2) (p2 + p3) (p3 + p4) (p4 + p5) (p5 + p6) (p6 + p7) (p7 + 0) / 65536 = cat (p2 + p3) (p3 + p4) (p4 + p5) (p5 + p6) (p6 + p7) (p7 + 0) 0 0 := by unfold cat; omega
    rw [e2, cat_add]
    have e3 : ∀ q0 q1 q2 q3 q4 q5 q6 q7 : Nat, q0 ≤ 32 → q1 ≤ 32 → q2 ≤ 32 → q3 ≤ 32 → cat q0 q1 q2 q3 q4 q5 q6 q7 / 4294967296 = cat q4 q5 q6 q7 0 0 0 0 := by intro q0 q1 q2 q3 q4 q5 q6 q7 _ _ _ _; unfold cat; omega
    rw [e3 _ _ _ _ _ _ _ _ (by omega) (by omega) (by omega) (by omega), cat_add]
    have e4 : ∀ q0 q1 q2 q3 q4 q5 q6 q7 : Nat, cat q0 q1 q2 q3 q4 q5 q6 q7 % 128 = q0 % 128 := by intro q0 q1 q2 q3 q4 q5 q6 q7; unfold cat; omega
    rw [e4]
    omega
  · unfold cat; omega

/-- the library's way of counting, in whole numbers -/
theorem swar_nat (x : Nat) (hx : x < 18446744073709551616) :
    ∃ y z : Nat, y = s3 (s2 (s1 x)) + s3 (s2 (s1 x)) / 256 ∧ y ≤ 1000000000000000000 ∧ z = y + y / 65536 ∧ z ≤ 2000000000000000000 ∧
      (z + z / 4294967296) % 128 = pop x ∧ z + z / 4294967296 ≤ 3000000000000000000 ∧ s1 x < 18446744073709551616 ∧ s2 (s1 x) < 18446744073709551616 / 2 := by
  have hc := cat_of x
  obtain ⟨d0, e0⟩ : ∃ d, d = x % 256 := ⟨_, rfl⟩
  obtain ⟨d1, e1⟩ : ∃ d, d = x / 256 % 256 := ⟨_, rfl⟩
  obtain ⟨d2, e2⟩ : ∃ d, d = x / 65536 % 256 := ⟨_, rfl⟩
  obtain ⟨d3, e3⟩ : ∃ d, d = x / 16777216 % 256 := ⟨_, rfl⟩
  obtain ⟨d4, e4⟩ : ∃ d, d = x / 4294967296 % 256 := ⟨_, rfl⟩
  obtain ⟨d5, e5⟩ : ∃ d, d = x / 1099511627776 % 256 := ⟨_, rfl⟩
  obtain ⟨d6, e6⟩ : ∃ d, d = x / 281474976710656 % 256 := ⟨_, rfl⟩
  obtain ⟨d7, e7⟩ : ∃ d, d = x / 72057594037927936 := ⟨_, rfl⟩
  rw [← e0, ← e1, ← e2, ← e3, ← e4, ← e5, ← e6, ← e7] at hc
  have h0 : d0 < 256 := by omega
  have h1 : d1 < 256 := by omega
  have h2 : d2 < 256 := by omega
  have h3 : d3 < 256 := by omega
  have h4 : d4 < 256 := by omega
  have h5 : d5 < 256 := by omega
  have h6 : d6 < 256 := by omega
  have h7 : d7 < 256 := by omega
  clear e0 e1 e2 e3 e4 e5 e6 e7 hx
  subst hc
  have f0 := byte_facts ⟨d0, h0⟩
  have f1 := byte_facts ⟨d1, h1⟩
  have f2 := byte_facts ⟨d2, h2⟩
  have f3 := byte_facts ⟨d3, h3⟩
  have f4 := byte_facts ⟨d4, h4⟩
  have f5 := byte_facts ⟨d5, h5⟩
  have f6 := byte_facts ⟨d6, h6⟩
  have f7 := byte_facts ⟨d7, h7⟩
  simp only at f0 f1 f2 f3 f4 f5 f6 f7
  rw [pop_cat _ _ _ _ _ _ _ _ h0 h1 h2 h3 h4 h5 h6, s1_cat _ _ _ _ _ _ _ _ h0 h1 h2 h3 h4 h5 h6, s2_cat _ _ _ _ _ _ _ _ f0.1 f1.1 f2.1 f3.1 f4.1 f5.1 f6.1,
    s3_cat _ _ _ _ _ _ _ _ ⟨f0.2.1, f0.2.2.1⟩ ⟨f1.2.1, f1.2.2.1⟩ ⟨f2.2.1, f2.2.2.1⟩ ⟨f3.2.1, f3.2.2.1⟩ ⟨f4.2.1, f4.2.2.1⟩ ⟨f5.2.1, f5.2.2.1⟩ ⟨f6.2.1, f6.2.2.1⟩ ⟨f7.2.1, f7.2.2.1⟩]
  obtain ⟨y, z, hy, hy1, hz, hz1, hr, hr1⟩ := last_cat _ _ _ _ _ _ _ _ (show g2 (g1 d0) / 16 + g2 (g1 d0) % 16 ≤ 8 by omega) (show g2 (g1 d1) / 16 + g2 (g1 d1) % 16 ≤ 8 by omega) (show g2 (g1 d2) / 16 + g2 (g1 d2) % 16 ≤ 8 by omega)
    (show g2 (g1 d3) / 16 + g2 (g1 d3) % 16 ≤ 8 by omega) (show g2 (g1 d4) / 16 + g2 (g1 d4) % 16 ≤ 8 by omega) (show g2 (g1 d5) / 16 + g2 (g1 d5) % 16 ≤ 8 by omega) (show g2 (g1 d6) / 16 + g2 (g1 d6) % 16 ≤ 8 by omega) (show g2 (g1 d7) / 16 + g2 (g1 d7) % 16 ≤ 8 by omega)
  refine ⟨y, z, hy, hy1, hz, hz1, ?_, hr1, ?_, ?_⟩
  · rw [hr, f0.2.2.2, f1.2.2.2, f2.2.2.2, f3.2.2.2, f4.2.2.2, f5.2.2.2, f6.2.2.2, f7.2.2.2]
  · have := f7.1; have := f6.1; have := f5.1; have := f4.1; have := f3.1; have := f2.1; have := f1.1; have := f0.1
    unfold cat; omega
  · unfold cat; omega

/-- the same as the walk writes it -/
def q1 (x : Int) : Int := IntKind.u64.wrap (bits .and .u64 (x / 2) 6148914691236517205 + bits .and .u64 x 6148914691236517205)
def q2 (x : Int) : Int := IntKind.u64.wrap (bits .and .u64 (x / 4) 3689348814741910323 + bits .and .u64 x 3689348814741910323)
def q3 (x : Int) : Int := bits .and .u64 (IntKind.u64.wrap (x / 16 + x)) 1085102592571150095

theorem q1_nat (x : Nat) (hx : x < 18446744073709551616) (h : s1 x < 18446744073709551616) : q1 (x : Int) = (s1 x : Nat) := by
  unfold q1
  rw [show (x : Int) / 2 = ((x / 2 : Nat) : Int) from by omega, show (6148914691236517205 : Int) = ((M0 : Nat) : Int) from rfl, bits_and_u64_nat _ _ (by omega) (by decide), bits_and_u64_nat _ _ hx (by decide), IntKind.wrap_u64]
  unfold s1 at h ⊢; omega
theorem q2_nat (x : Nat) (hx : x < 18446744073709551616) (h : s2 x < 18446744073709551616) : q2 (x : Int) = (s2 x : Nat) := by
  unfold q2
  rw [show (x : Int) / 4 = ((x / 4 : Nat) : Int) from by omega, show (3689348814741910323 : Int) = ((M1 : Nat) : Int) from rfl, bits_and_u64_nat _ _ (by omega) (by decide), bits_and_u64_nat _ _ hx (by decide), IntKind.wrap_u64]
  unfold s2 at h ⊢; omega
theorem q3_nat (x : Nat) (hx : x < 18446744073709551616 / 2) : q3 (x : Int) = (s3 x : Nat) := by
  unfold q3
  rw [show IntKind.u64.wrap ((x : Int) / 16 + x) = ((x / 16 + x : Nat) : Int) from by rw [IntKind.wrap_u64]; omega, show (1085102592571150095 : Int) = ((M2 : Nat) : Int) from rfl, bits_and_u64_nat _ _ (by omega) (by decide)]
  rfl

def q4 (x : Int) : Int := IntKind.u64.wrap (x + x / 256)
def q5 (x : Int) : Int := IntKind.u64.wrap (x + x / 65536)
def q6 (x : Int) : Int := IntKind.u64.wrap (x + x / 4294967296)

theorem ofInt_i64 (a : Nat) (ha : a < 9223372036854775808) : (BitVec.ofInt 64 (a : Int)).toNat = a := by
  rw [BitVec.ofInt_natCast, BitVec.toNat_ofNat]; exact Nat.mod_eq_of_lt (by omega)
theorem and_127 (a : Nat) (ha : a < 9223372036854775808) : bits .and .i64 (a : Int) 127 = ((a % 128 : Nat) : Int) := by
  show IntKind.i64.wrap ((BitVec.ofInt 64 (a : Int) &&& BitVec.ofInt 64 ((127 : Nat) : Int)).toNat : Int) = _
  rw [BitVec.toNat_and, ofInt_i64 a ha, ofInt_i64 127 (by decide), IntKind.wrap_i64]
  have h := Nat.and_two_pow_sub_one_eq_mod a 7
  simp only [Nat.reducePow, Nat.reduceSub] at h
  rw [h]
  omega

theorem swar (n : Nat) (hn : n < 18446744073709551616) : bits .and .i64 (RowKit.wrap64 (q6 (q5 (q4 (q3 (q2 (q1 n))))))) 127 = ((pop n : Nat) : Int) := by
  obtain ⟨y, z, hy, hy1, hz, hz1, hr, hr1, b1, b2⟩ := swar_nat n hn
  rw [q1_nat n hn b1, q2_nat _ b1 (by omega), q3_nat _ b2]
  have e4 : q4 ((s3 (s2 (s1 n)) : Nat) : Int) = (y : Nat) := by unfold q4; rw [IntKind.wrap_u64]; omega
  have e5 : q5 (y : Int) = (z : Nat) := by unfold q5; rw [IntKind.wrap_u64]; omega
  have e6 : q6 (z : Int) = ((z + z / 4294967296 : Nat) : Int) := by unfold q6; rw [IntKind.wrap_u64]; omega
  rw [e4, e5, e6]
  unfold RowKit.wrap64
  have e7 : ∀ m : Nat, m ≤ 3000000000000000000 → ((m : Int) + 9223372036854775808) % 18446744073709551616 - 9223372036854775808 = (m : Int) := by intro m hm; omega
  first
    | rw [e7 _ hr1]
    | rw [show _ = ((z + z / 4294967296 : Nat) : Int) from by omega]
  rw [and_127 _ (by omega), hr]

end Bt
end Go.Proofs.YtoejenejleocdabGreatDoor

/- Words for memory: a slice that leads to known cells. No program is named here. -/
namespace Go.Proofs.YtoejenejleocdabGreatDoor
open Go.RowKit

/-- A slice's address A leads to n cells, cell i holding f i, in a block below B. (Nothing is said of an empty slice.) -/
def Row (w : World) (B : Nat) (A : Option Addr) (n : Nat) (f : Nat → Value) : Prop :=
  0 < n → ∃ b o, A = some ⟨b, o, none⟩ ∧ b < B ∧ ∀ i, i < n → w.cell? ⟨b, o + i, none⟩ = some (f i)

theorem Row.keep {w w' : World} {B : Nat} {A : Option Addr} {n : Nat} {f : Nat → Value} (h : Row w B A n f) (hk : ∀ p : Addr, p.block < B → w'.cell? p = w.cell? p) : Row w' B A n f := by
  intro hn
  obtain ⟨b, o, e, hb, hc⟩ := h hn
  exact ⟨b, o, e, hb, fun i hi => (hk _ hb).trans (hc i hi)⟩
theorem Row.below {w w' : World} {B : Nat} {A : Option Addr} {n : Nat} {f : Nat → Value} (h : Row w B A n f) (hb : Below B w w') : Row w' B A n f := h.keep fun _ hp => hb.cell hp
theorem Row.more {w : World} {B B' : Nat} {A : Option Addr} {n : Nat} {f : Nat → Value} (h : Row w B A n f) (hB : B ≤ B') : Row w B' A n f := by
  intro hn
  obtain ⟨b, o, e, hb, hc⟩ := h hn
  exact ⟨b, o, e, by omega, hc⟩
theorem Row.congr {w : World} {B : Nat} {A : Option Addr} {n : Nat} {f g : Nat → Value} (h : Row w B A n f) (e : ∀ i, i < n → f i = g i) : Row w B A n g := by
  intro hn
  obtain ⟨b, o, ea, hb, hc⟩ := h hn
  exact ⟨b, o, ea, hb, fun i hi => by rw [hc i hi, e i hi]⟩
theorem Row.less {w : World} {B : Nat} {A : Option Addr} {n m : Nat} {f : Nat → Value} (h : Row w B A n f) (hm : m ≤ n) : Row w B A m f := by
  intro hn
  obtain ⟨b, o, ea, hb, hc⟩ := h (by omega)
  exact ⟨b, o, ea, hb, fun i hi => hc i (by omega)⟩
theorem Row.zero {w : World} {B : Nat} {A : Option Addr} {f : Nat → Value} : Row w B A 0 f := fun h => absurd h (by omega)
theorem Row.of_rowIs {w : World} {B b : Nat} {t : TypeId} {n : Nat} {f : Nat → Value} (h : w.rowIs b t n f) (hb : b < B) : Row w B (some ⟨b, 0, none⟩) n f :=
  fun _ => ⟨b, 0, rfl, hb, fun i hi => by rw [Nat.zero_add]; exact h.cell hi⟩
theorem Below.drewN {B : Nat} {a w : World} (h : Below B a w) (n : Nat) : Below B a (w.drewN n) := ⟨h.os, h.tape, h.output, h.size, h.block⟩

end Go.Proofs.YtoejenejleocdabGreatDoor

/- Plain mathematics of lists of bools as numbers of 64 bits. No program is named here. -/
namespace Go.Proofs.YtoejenejleocdabGreatDoor
namespace Bt

/-- how many are true -/
def ones (l : List Bool) : Nat := l.count true
/-- the list as a number, the first the lowest -/
def val : List Bool → Nat
  | [] => 0
  | b :: l => b.toNat + 2 * val l
/-- the p-th piece of 64 -/
def seg (l : List Bool) (p : Nat) : List Bool := (l.drop (64 * p)).take 64
def part (l : List Bool) (p : Nat) : Nat := val (seg l p)
/-- how many ones there are ahead of the p-th piece -/
def ahd (l : List Bool) (p : Nat) : Nat := ones (l.take (64 * p))

theorem ones_cons (b : Bool) (l : List Bool) : ones (b :: l) = b.toNat + ones l := by cases b <;> simp [ones] <;> omega
theorem ones_append (a b : List Bool) : ones (a ++ b) = ones a + ones b := List.count_append
theorem ones_le (l : List Bool) : ones l ≤ l.length := List.count_le_length
theorem toNat_le (b : Bool) : b.toNat ≤ 1 := by cases b <;> decide

theorem val_lt (l : List Bool) : val l < 2 ^ l.length := by
  induction l with
  | nil => decide
  | cons b l ih => have := toNat_le b; simp only [val, List.length_cons, Nat.pow_succ]; omega
theorem val_mod2 (b : Bool) (l : List Bool) : val (b :: l) % 2 = b.toNat := by have := toNat_le b; simp only [val]; omega
theorem val_div2 (b : Bool) (l : List Bool) : val (b :: l) / 2 = val l := by have := toNat_le b; simp only [val]; omega

theorem popF_val (k : Nat) : ∀ l : List Bool, l.length ≤ k → popF k (val l) = ones l := by
  induction k with
  | zero => intro l h; have : l = [] := List.eq_nil_of_length_eq_zero (by omega); subst this; rfl
  | succ k ih =>
    intro l h
    match l with
    | [] => rw [show val [] = 0 from rfl, popF_zero]; rfl
    | b :: l => simp only [popF]; rw [val_mod2, val_div2, ih l (by simpa using h), ones_cons]
theorem pop_val (l : List Bool) (h : l.length ≤ 64) : pop (val l) = ones l := popF_val 64 l h

theorem val_mod (n : Nat) : ∀ l : List Bool, val l % 2 ^ n = val (l.take n) := by
  induction n with
  | zero => intro l; simp [Nat.mod_one, val]
  | succ n ih =>
    intro l
    match l with
    | [] => simp [val]
    | b :: l =>
      have h := ih l
      have hb := toNat_le b
      simp only [List.take_succ_cons, val]
      rw [← h, Nat.pow_succ, Nat.mul_comm (2 ^ n) 2, Nat.mod_mul, show (b.toNat + 2 * val l) % 2 = b.toNat from by omega, show (b.toNat + 2 * val l) / 2 = val l from by omega]
theorem val_append (a b : List Bool) : val (a ++ b) = val a + 2 ^ a.length * val b := by
  induction a with
  | nil => simp [val]
  | cons x a ih =>
    simp only [List.cons_append, val, ih, List.length_cons, Nat.pow_succ]
    rw [Nat.mul_add, Nat.mul_comm (2 ^ a.length) 2, Nat.mul_assoc]; omega
theorem val_snoc (a : List Bool) (b : Bool) : val (a ++ [b]) = val a + 2 ^ a.length * b.toNat := by rw [val_append]; simp [val]
/-- one bit more, by 'or' -/
theorem val_or (a : List Bool) : val a ||| 2 ^ a.length = val (a ++ [true]) := by
  rw [val_snoc]
  have h := Nat.two_pow_add_eq_or_of_lt (val_lt a) 1
  rw [Nat.or_comm]
  simp only [Nat.mul_one] at h
  rw [← h]; simp [Nat.add_comm]

theorem seg_len (l : List Bool) (p : Nat) : (seg l p).length ≤ 64 := by simp [seg]; omega
theorem part_lt (l : List Bool) (p : Nat) : part l p < 18446744073709551616 := by
  have h := val_lt (seg l p)
  have h2 : 2 ^ (seg l p).length ≤ 2 ^ 64 := Nat.pow_le_pow_right (by omega) (seg_len l p)
  unfold part; omega
/-- ones ahead of a place: those ahead of its piece, and those in it -/
theorem ones_take (l : List Bool) (i : Nat) : ones (l.take i) = ahd l (i / 64) + pop (part l (i / 64) % 2 ^ (i % 64)) := by
  unfold ahd part
  rw [val_mod, pop_val _ (by simp; omega)]
  have e : l.take i = l.take (64 * (i / 64)) ++ (seg l (i / 64)).take (i % 64) := by
    unfold seg
    rw [List.take_take, Nat.min_eq_left (by omega), ← List.take_add, show 64 * (i / 64) + i % 64 = i from by omega]
  rw [e, ones_append]
theorem ahd_zero (l : List Bool) : ahd l 0 = 0 := by simp [ahd, ones]
theorem ahd_succ (l : List Bool) (p : Nat) : ahd l (p + 1) = ahd l p + pop (part l p) := by
  unfold ahd part
  rw [pop_val _ (seg_len l p), ← ones_append]
  unfold seg
  rw [← List.take_add, show 64 * p + 64 = 64 * (p + 1) from by omega]

theorem seg_snoc_here (a : List Bool) (b : Bool) : seg (a ++ [b]) (a.length / 64) = seg a (a.length / 64) ++ [b] ∧ (seg a (a.length / 64)).length = a.length % 64 := by
  have h1 : (a.drop (64 * (a.length / 64))).length = a.length % 64 := by rw [List.length_drop]; omega
  unfold seg
  rw [List.drop_append_of_le_length (by omega), List.take_of_length_le (by rw [List.length_append, h1]; simp; omega), List.take_of_length_le (by rw [h1]; omega)]
  exact ⟨rfl, h1⟩
theorem seg_snoc_there (a : List Bool) (b : Bool) (p : Nat) (hp : p ≠ a.length / 64) : seg (a ++ [b]) p = seg a p := by
  unfold seg
  rcases Nat.lt_or_gt_of_ne hp with h | h
  · rw [List.drop_append_of_le_length (by omega), List.take_append_of_le_length (by rw [List.length_drop]; omega)]
  · rw [List.drop_eq_nil_of_le (by simp; omega), List.drop_eq_nil_of_le (by omega)]
theorem part_snoc (a : List Bool) (b : Bool) (p : Nat) : part (a ++ [b]) p = if p = a.length / 64 ∧ b = true then part a p ||| 2 ^ (a.length % 64) else part a p := by
  unfold part
  by_cases hp : p = a.length / 64
  · subst hp
    obtain ⟨h1, h2⟩ := seg_snoc_here a b
    rw [h1]
    cases b with
    | true => rw [if_pos ⟨rfl, rfl⟩, ← h2, val_or]
    | false => rw [if_neg (fun h => by cases h.2), val_snoc]; simp
  · rw [seg_snoc_there a b p hp, if_neg (fun h => hp h.1)]
theorem part_take_succ (l : List Bool) (k p : Nat) (hk : k < l.length) : part (l.take (k + 1)) p = if p = k / 64 ∧ l.getD k false = true then part (l.take k) p ||| 2 ^ (k % 64) else part (l.take k) p := by
  have e : l.take (k + 1) = l.take k ++ [l.getD k false] := by
    rw [List.take_succ_eq_append_getElem hk, List.getD_eq_getElem?_getD, List.getElem?_eq_getElem hk]; rfl
  have hl : (l.take k).length = k := by rw [List.length_take]; omega
  rw [e, part_snoc, hl]
theorem part_nil (p : Nat) : part [] p = 0 := by simp [part, seg, val]

end Bt
end Go.Proofs.YtoejenejleocdabGreatDoor

/- The contracts of the leaves of package bits: partsFor, lowest, within, and the library's OnesCount64. -/
namespace Go.Proofs.YtoejenejleocdabGreatDoor
open Go.RowKit

set_option maxHeartbeats 400000 in
theorem partsFor_any (n : Int) (w : World) (h0 : 0 ≤ n) (h1 : n ≤ 9223372036854775807) :
    Calls Tryz.prog 109 #[.int .i64 n] w fun e w' => e = .returned (.int .i64 (n / 64 + 1)) ∧ w = w' := by
  go_enter Tryz.func109, Tryz.ntmps109
  go_wp2
  go_ret
  exact ⟨rfl, rfl⟩

theorem ret_int {k : IntKind} {a b : Int} (h : a = b) : Ending.returned (.int k a) = .returned (.int k b) := by rw [h]

set_option maxHeartbeats 400000 in
theorem lowest_any (n : Int) (w : World) (h0 : 0 ≤ n) (h1 : n ≤ 64) :
    Calls Tryz.prog 223 #[.int .i64 n] w fun e w' => e = .returned (.int .u64 (2 ^ n.toNat - 1)) ∧ w = w' := by
  have h2 : (2 : Int) ^ n.toNat = ((2 ^ n.toNat : Nat) : Int) := by simp
  have h3 : 2 ^ n.toNat ≤ 2 ^ 64 := Nat.pow_le_pow_right (by omega) (by omega)
  have h4 : 1 ≤ 2 ^ n.toNat := Nat.one_le_two_pow
  have h5 : IntKind.u64.wrap (IntKind.u64.wrap (2 ^ n.toNat) - 1) = 2 ^ n.toNat - 1 := by
    rw [h2, IntKind.wrap_u64, IntKind.wrap_u64]; omega
  have H := Lib.hid h5
  clear h2 h3 h4 h5
  go_enter Tryz.func223, Tryz.ntmps223
  go_wp2
  go_ret
  exact ⟨ret_int H.out, rfl⟩

set_option maxHeartbeats 400000 in
theorem ones64_any (N : Nat) (w : World) (h1 : N < 18446744073709551616) :
    Calls Tryz.prog 142 #[.int .u64 N] w fun e w' => e = .returned (.int .i64 (Bt.pop N)) ∧ w = w' := by
  obtain ⟨n, hn⟩ : ∃ n : Int, n = N := ⟨_, rfl⟩
  rw [← hn]
  have h0 : 0 ≤ n := by omega
  have h1' : n < 18446744073709551616 := by omega
  have H := Lib.hid (hn)
  clear hn
  go_enter Tryz.func142, Tryz.ntmps142
  go_wp2
  go_ret
  refine ⟨?_, rfl⟩
  have hs := Bt.swar N h1
  rw [← H.out] at hs
  simp only [Bt.q1, Bt.q2, Bt.q3, Bt.q4, Bt.q5, Bt.q6] at hs
  exact ret_int hs

theorem ones64_int (x : Int) (w : World) (h0 : 0 ≤ x) (h1 : x < 18446744073709551616) :
    Calls Tryz.prog 142 #[.int .u64 x] w fun e w' => e = .returned (.int .i64 (Bt.pop x.toNat)) ∧ w = w' := by
  obtain ⟨n, rfl⟩ := Int.eq_ofNat_of_zero_le h0
  rw [Int.toNat_natCast]
  exact ones64_any n w (by omega)

/-- a call that leaves the world alone, in a region that draws -/
theorem quiet_eq {P : Program} {f : FuncId} {args : Array Value} {w : World} {n : Nat} {v : Value}
    (h : Calls P f args (w.drewN n) fun e w' => e = .returned v ∧ w.drewN n = w') : Calls P f args (w.drewN n) fun e w' => e = .returned v ∧ ∃ m, w' = w.drewN m :=
  h.mono fun _ _ ⟨he, hw⟩ => ⟨he, n, hw.symm⟩

theorem and_u64_lo (a b : Int) : 0 ≤ bits .and .u64 a b := by
  show 0 ≤ IntKind.u64.wrap _
  rw [IntKind.wrap_u64]; omega
theorem and_u64_hi (a b : Int) : bits .and .u64 a b < 18446744073709551616 := by
  show IntKind.u64.wrap _ < _
  rw [IntKind.wrap_u64]; omega
/-- a mask of the lowest k bits -/
theorem and_low (p k : Nat) (hp : p < 18446744073709551616) (hk : k ≤ 64) : bits .and .u64 (p : Int) (2 ^ k - 1) = ((p % 2 ^ k : Nat) : Int) := by
  have h3 : 2 ^ k ≤ 2 ^ 64 := Nat.pow_le_pow_right (by omega) hk
  have h4 : 1 ≤ 2 ^ k := Nat.one_le_two_pow
  have e : ((2 : Int) ^ k - 1) = ((2 ^ k - 1 : Nat) : Int) := by
    have : (2 : Int) ^ k = ((2 ^ k : Nat) : Int) := by simp
    omega
  rw [e, bits_and_u64_nat _ _ hp (by omega), Nat.and_two_pow_sub_one_eq_mod]

end Go.Proofs.YtoejenejleocdabGreatDoor

/- What bits.within, At, Ones and Noughts answer, of whatever bits. -/
namespace Go.Proofs.YtoejenejleocdabGreatDoor
open Go.RowKit

theorem ret_bool {a b : Bool} (h : a = b) : Ending.returned (.bool a) = .returned (.bool b) := by rw [h]
set_option maxHeartbeats 400000 in
theorem within_any (n i : Int) (A : Option Addr) (np cp : Nat) (A2 : Option Addr) (na ca : Nat) (w : World) :
    Calls Tryz.prog 222 #[.agg #[.int .i64 n, .slice A np cp, .slice A2 na ca], .int .i64 i] w fun e w' => e = .returned (.int .i64 (max (min i n) 0)) ∧ Below w.heap.size w w' := by
  go_enter Tryz.func222, Tryz.ntmps222
  go_wp2
  all_goals
    go_ret
    exact ⟨ret_int (by simp only [Int.max_def, Int.min_def]; repeat' split <;> omega), (Below.refl _ _).alloc (Nat.le_refl _) _⟩

theorem bcell {W w1 : World} {B : Nat} (hb : Below B W w1) : (∀ b o, b < B → w1.cell? ⟨b, o, none⟩ = W.cell? ⟨b, o, none⟩) :=
  fun b o h => hb.cell (p := ⟨b, o, none⟩) h

/-- the place that is asked for, moved to the nearest one from 0 to n -/
def near (n i : Int) : Nat := (max (min i n) 0).toNat
theorem near_cast (n i : Int) : max (min i n) 0 = (near n i : Int) := by unfold near; omega

set_option maxHeartbeats 400000 in
theorem ones_in (n i : Int) (A : Option Addr) (np cp : Nat) (A2 : Option Addr) (na ca : Nat) (w : World) (P : Nat → Nat) (a : Nat → Int)
    (hP : Row w w.heap.size A np (fun k => .int .u64 (P k))) (hP2 : ∀ k, P k < 18446744073709551616) (ha : Row w w.heap.size A2 na (fun k => .int .i64 (a k)))
    (hn2 : n ≤ 9223372036854775807) (hs : near n i / 64 < np) (hs2 : near n i / 64 < na) :
    Calls Tryz.prog 213 #[.agg #[.int .i64 n, .slice A np cp, .slice A2 na ca], .int .i64 i] w fun e w' =>
      e = .returned (.int .i64 (wrap64 (a (near n i / 64) + Bt.pop (P (near n i / 64) % 2 ^ (near n i % 64))))) ∧ Below w.heap.size w w' := by
  obtain ⟨b, o, rfl, hb, hc⟩ := hP (by omega)
  obtain ⟨b2, o2, rfl, hb2, hc2⟩ := ha (by omega)
  have hc := hc (near n i / 64) hs
  have hc2 := hc2 (near n i / 64) hs2
  have hj := near_cast n i
  have hj2 : near n i ≤ 9223372036854775807 := by unfold near; omega
  generalize near n i = j at *
  have H := Lib.hid hj
  clear hj hP ha
  go_enter Tryz.func213, Tryz.ntmps213
  go_wp2_with fail
  refine (within_any _ _ _ _ _ _ _ _ _).mono ?_
  rintro e w1 ⟨rfl, hb1⟩
  rw [H.out]
  simp only [World.size_alloc] at hb1
  have k1 : w1.cell? ⟨w.heap.size, 0, none⟩ = some (.int .i64 n) := by rw [bcell hb1 _ _ (by omega)]; simp
  have k2 : w1.cell? ⟨w.heap.size, 1, none⟩ = some (.slice (some ⟨b, o, none⟩) np cp) := by rw [bcell hb1 _ _ (by omega)]; simp
  have k3 : w1.cell? ⟨w.heap.size, 2, none⟩ = some (.slice (some ⟨b2, o2, none⟩) na ca) := by rw [bcell hb1 _ _ (by omega)]; simp
  have k4 : w1.cell? ⟨b, o + j / 64, none⟩ = some (.int .u64 (P (j / 64))) := by rw [bcell hb1 _ _ (by omega), ← hc]; exact World.cell?_alloc_lt _ _ _ hb
  have k5 : w1.cell? ⟨b2, o2 + j / 64, none⟩ = some (.int .i64 (a (j / 64))) := by rw [bcell hb1 _ _ (by omega), ← hc2]; exact World.cell?_alloc_lt _ _ _ hb2
  go_wp2_with fail
  go_quiet (first | (go_at_call 223; exact quiet_eq (lowest_any _ _ (by omega) (by omega))) | (go_at_call 142; exact quiet_eq (ones64_int _ _ (and_u64_lo _ _) (and_u64_hi _ _))))
  go_wp2
  go_ret
  refine ⟨ret_int (by rw [and_low _ _ (hP2 _) (by omega), Int.toNat_natCast]), ?_⟩
  exact Below.drewN (((Below.refl _ _).alloc (Nat.le_refl _) _).trans (hb1.mono (by omega))) _

/-- Bits as Make makes them of a list: the two slices' addresses, in a world. -/
structure IsBits (w : World) (B : Nat) (A A2 : Option Addr) (l : List Bool) : Prop where
  parts : Row w B A (l.length / 64 + 1) (fun k => .int .u64 (Bt.part l k))
  ahead : Row w B A2 (l.length / 64 + 1) (fun k => .int .i64 (Bt.ahd l k))
theorem IsBits.below {w w' : World} {B : Nat} {A A2 : Option Addr} {l : List Bool} (h : IsBits w B A A2 l) (hb : Below B w w') : IsBits w' B A A2 l := ⟨h.parts.below hb, h.ahead.below hb⟩
theorem IsBits.more {w : World} {B B' : Nat} {A A2 : Option Addr} {l : List Bool} (h : IsBits w B A A2 l) (hB : B ≤ B') : IsBits w B' A A2 l := ⟨h.parts.more hB, h.ahead.more hB⟩
theorem IsBits.alloc {w : World} {A A2 : Option Addr} {l : List Bool} (h : IsBits w w.heap.size A A2 l) (o : Obj) : IsBits (w.alloc o) (w.alloc o).heap.size A A2 l :=
  (h.below ((Below.refl _ _).alloc (Nat.le_refl _) _)).more (by simp)

theorem near_le (n i : Int) (h : 0 ≤ n) : (near n i : Int) ≤ n := by unfold near; omega

theorem wrap64_in (x : Int) (h1 : -9223372036854775808 ≤ x) (h2 : x ≤ 9223372036854775807) : wrap64 x = x := by unfold wrap64; omega

theorem ones_made (l : List Bool) (i : Int) (A : Option Addr) (np cp : Nat) (A2 : Option Addr) (na ca : Nat) (w : World) (hI : IsBits w w.heap.size A A2 l) (hp : np = l.length / 64 + 1) (ha : na = l.length / 64 + 1) (hl : l.length ≤ 9223372036854775807) :
    Calls Tryz.prog 213 #[.agg #[.int .i64 l.length, .slice A np cp, .slice A2 na ca], .int .i64 i] w fun e w' =>
      e = .returned (.int .i64 (Bt.ones (l.take i.toNat))) ∧ Below w.heap.size w w' := by
  subst hp ha
  have hnl := near_le l.length i (by omega)
  refine (ones_in _ i _ _ _ _ _ _ _ (Bt.part l) (fun k => (Bt.ahd l k : Nat)) hI.parts (Bt.part_lt l) hI.ahead (by omega) (by omega) (by omega)).mono ?_
  rintro e w' ⟨rfl, hb⟩
  refine ⟨ret_int ?_, hb⟩
  have e1 : l.take i.toNat = l.take (near l.length i) := by
    rw [List.take_eq_take_iff]
    unfold near; omega
  have e2 := Bt.ones_take l (near l.length i)
  have e3 := Bt.ones_le (l.take (near l.length i))
  have e4 : (l.take (near l.length i)).length ≤ l.length := by simp; omega
  rw [e1, wrap64_in _ (by omega) (by omega)]
  omega

/-- the three cells of a boxed struct are there still -/
theorem box3 {w w1 : World} {a b c : Value} {t : TypeId} (hb : Below ((w.alloc (.cells #[a, b, c] t)).drew).heap.size ((w.alloc (.cells #[a, b, c] t)).drew) w1) :
    w1.cell? ⟨w.heap.size, 0, none⟩ = some a ∧ w1.cell? ⟨w.heap.size, 1, none⟩ = some b ∧ w1.cell? ⟨w.heap.size, 2, none⟩ = some c ∧ Below w.heap.size w w1 ∧ w.heap.size + 1 ≤ w1.heap.size := by
  have hs : ((w.alloc (.cells #[a, b, c] t)).drew).heap.size = w.heap.size + 1 := by simp
  rw [hs] at hb
  refine ⟨?_, ?_, ?_, ((Below.refl _ w).alloc (Nat.le_refl _) _).drew.trans (hb.mono (by omega)), by have := hb.size; simp at this; omega⟩
  · rw [bcell hb _ _ (by omega)]; simp
  · rw [bcell hb _ _ (by omega)]; simp
  · rw [bcell hb _ _ (by omega)]; simp
set_option maxHeartbeats 1000000 in
theorem noughts_made (l : List Bool) (i : Int) (A : Option Addr) (np cp : Nat) (A2 : Option Addr) (na ca : Nat) (w : World) (hI : IsBits w w.heap.size A A2 l) (hp : np = l.length / 64 + 1) (ha : na = l.length / 64 + 1) (hl : l.length ≤ 9223372036854775807) :
    Calls Tryz.prog 214 #[.agg #[.int .i64 l.length, .slice A np cp, .slice A2 na ca], .int .i64 i] w fun e w' =>
      e = .returned (.int .i64 (near l.length i - Bt.ones (l.take i.toNat))) ∧ Below w.heap.size w w' := by
  subst hp ha
  go_enter Tryz.func214, Tryz.ntmps214
  go_wp2_with fail
  go_region_with (first
    | (go_at_call 222; refine (within_any _ _ _ _ _ _ _ _ _).mono ?_; rintro e w1 ⟨rfl, hb1⟩; obtain ⟨k1, k2, k3, hb2, _⟩ := box3 hb1; clear hb1)
    | (go_at_call 213; refine (ones_made l i _ _ _ _ _ _ _ ?_ rfl rfl hl).mono ?_; (exact (hI.below hb2).more hb2.size); rintro e w2 ⟨rfl, hb3⟩))
  all_goals
    go_wp2
    go_ret
    refine ⟨ret_int ?_, hb2.trans (hb3.mono hb2.size)⟩
    have q1 := Bt.ones_le (l.take i.toNat)
    have q2 : (l.take i.toNat).length ≤ l.length := by simp; omega
    have q3 := near_cast l.length i
    have q4 := near_le l.length i (by omega)
    simp only [q3]
    first
      | rfl
      | (rw [IntKind.wrap_i64]; omega)
      | (unfold wrap64; omega)

end Go.Proofs.YtoejenejleocdabGreatDoor

/- What bits.onesAhead and bits.Make make. -/
namespace Go.Proofs.YtoejenejleocdabGreatDoor
open Go.RowKit

theorem infoInt : (Tryz.prog.info? 3).map (fun i => (i.zero, i.size, i.bytes)) = some (some (.int .i64 0), 1, 8) := by kernel_rfl
theorem infoU64 : (Tryz.prog.info? 139).map (fun i => (i.zero, i.size, i.bytes)) = some (some (.int .u64 0), 1, 8) := by kernel_rfl
theorem infoBool : (Tryz.prog.info? 4).map (fun i => (i.zero, i.size, i.bytes)) = some (some (.bool false), 1, 1) := by kernel_rfl

/-- how many ones there are in the first k numbers -/
def psum (P : Nat → Nat) : Nat → Nat
  | 0 => 0
  | k + 1 => psum P k + Bt.pop (P k)
theorem psum_le (P : Nat → Nat) (k : Nat) : psum P k ≤ 64 * k := by
  induction k with
  | zero => simp [psum]
  | succ k ih => have := Bt.pop_le (P k); simp only [psum]; omega
theorem psum_part (l : List Bool) (k : Nat) : psum (Bt.part l) k = Bt.ahd l k := by
  induction k with
  | zero => rw [Bt.ahd_zero]; rfl
  | succ k ih => rw [Bt.ahd_succ, ← ih]; rfl

set_option maxHeartbeats 1000000 in
theorem onesAhead_any (A : Option Addr) (n c : Nat) (P : Nat → Nat) (w : World) (hP : Row w w.heap.size A n (fun k => .int .u64 (P k))) (hP2 : ∀ k, P k < 18446744073709551616) (hn : n ≤ 17592186044416) :
    Calls Tryz.prog 110 #[.slice A n c] w fun e w' =>
      ∃ g, e = .returned (.slice (some ⟨g, 0, none⟩) n n) ∧ w.heap.size ≤ g ∧ w'.rowIs g 3 n (fun k => .int .i64 (psum P k)) ∧ Below w.heap.size w w' := by
  have hmk := run_make_row' (P := Tryz.prog) 22 3 (.int .i64 0) 8 Tryz.underlying22 infoInt rfl .i64 .i64 n (by omega) (by omega)
  have hrow := World.rowIs_made w (.int .i64 0) n 3
  have hbel : Below w.heap.size w (w.alloc (.cells (madeCells #[.int .i64 0] n) 3)) := (Below.refl _ _).alloc (Nat.le_refl _) _
  go_enter Tryz.func110, Tryz.ntmps110
  go_wp2
  go_loopw [4, 12] (fun s i wr => ∃ k : Nat, k ≤ n ∧ i = .int .i64 k ∧ s = .int .i64 (psum P k) ∧ wr.rowIs w.heap.size 3 n (fun j => .int .i64 (if j < k then psum P j else 0 : Nat)) ∧ Below w.heap.size w wr)
    (fun _ i _ => n - (intOf i).toNat)
  case atStart => exact ⟨0, Nat.zero_le _, rfl, rfl, hrow.congr (fun i _ => by simp), hbel⟩
  case round =>
    obtain ⟨k, hk, rfl, rfl, hr, hb⟩ := hrel
    clear hrow hbel hmk
    have hps := psum_le P k
    by_cases hlt : k < n
    · obtain ⟨b, o, rfl, hbb, hc⟩ := hP (by omega)
      have hc1 : wr.cell? ⟨b, o + k, none⟩ = some (.int .u64 (P k)) := (hb.cell (p := ⟨b, o + k, none⟩) hbb).trans (hc k hlt)
      have hc2 := hr.cell hlt
      have hf := hr.frozen k
      clear hc
      have hr1 := (hr.set k (.int .i64 (psum P k))).congr (g := fun j => .int .i64 (if j < k + 1 then psum P j else 0 : Nat)) (fun i _ => by
        by_cases h1 : i = k
        · subst h1; simp
        · rw [if_neg h1]; by_cases h2 : i < k
          · rw [if_pos h2, if_pos (by omega)]
          · rw [if_neg h2, if_neg (by omega)])
      have hb1 := hb.setCell (p := ⟨w.heap.size, k, none⟩) (Nat.le_refl _) (.int .i64 (psum P k))
      have hp1 := hP2 k
      have hp2 := Bt.pop_le (P k)
      have H := Lib.hid (show psum P (k + 1) = psum P k + Bt.pop (P k) from rfl)
      go_wp2_with (go_at_call 142; refine (ones64_any _ _ hp1).mono ?_; rintro e w' ⟨rfl, rfl⟩)
      go_roundw
      case rel => exact ⟨k + 1, by omega, by go_num, by rw [H.out]; go_num, hr1, hb1⟩
      case measure => simp [intOf]; omega
    · go_wp2
      go_ret
      exact ⟨w.heap.size, rfl, Nat.le_refl _, hr.congr (fun i hi => by rw [if_pos (by omega)]), hb⟩

theorem or_bit (p k : Nat) (hp : p < 18446744073709551616) (hk : k < 64) : bits .or .u64 (p : Int) (IntKind.u64.wrap (2 ^ k)) = ((p ||| 2 ^ k : Nat) : Int) := by
  have h3 : 2 ^ k ≤ 2 ^ 63 := Nat.pow_le_pow_right (by omega) (by omega)
  have e : IntKind.u64.wrap (2 ^ k) = ((2 ^ k : Nat) : Int) := by
    have : (2 : Int) ^ k = ((2 ^ k : Nat) : Int) := by simp
    rw [this, IntKind.wrap_u64]
    generalize (2 : Nat) ^ k = m at h3
    omega
  rw [e, bits_or_u64_nat _ _ hp (by omega)]

/-- three cells stored one behind the other -/
theorem set3 {w : World} {b : Nat} {t : TypeId} {f : Nat → Value} (h : w.rowIs b t 3 f) (v0 v1 v2 : Value) :
    (w.setCell ⟨b, 0, none⟩ v0).cell? ⟨b, 0, none⟩ = some v0 ∧ ((w.setCell ⟨b, 0, none⟩ v0).setCell ⟨b, 1, none⟩ v1).cell? ⟨b, 1, none⟩ = some v1 ∧
    (((w.setCell ⟨b, 0, none⟩ v0).setCell ⟨b, 1, none⟩ v1).setCell ⟨b, 2, none⟩ v2).cell? ⟨b, 2, none⟩ = some v2 :=
  ⟨(h.set 0 v0).cell (by omega), ((h.set 0 v0).set 1 v1).cell (by omega), (((h.set 0 v0).set 1 v1).set 2 v2).cell (by omega)⟩

/-- the three cells of bits that are nothing yet -/
def zeroBits : Nat → Value := fun j => if j = 0 then .int .i64 0 else .slice none 0 0

set_option maxHeartbeats 1000000 in
theorem make_new (A : Option Addr) (n c : Nat) (l : List Bool) (w : World) (hA : Row w w.heap.size A n (fun k => .bool (l.getD k false))) (hl : n = l.length) (hn : n ≤ 140737488355328) :
    Calls Tryz.prog 78 #[.slice A n c] w fun e w' =>
      ∃ g g2, e = .returned (.agg #[.int .i64 n, .slice (some ⟨g, 0, none⟩) (n / 64 + 1) (n / 64 + 1), .slice (some ⟨g2, 0, none⟩) (n / 64 + 1) (n / 64 + 1)]) ∧
        w.heap.size ≤ g ∧ w.heap.size ≤ g2 ∧ IsBits w' w'.heap.size (some ⟨g, 0, none⟩) (some ⟨g2, 0, none⟩) l ∧ Below w.heap.size w w' := by
  have hmk := run_make_row' (P := Tryz.prog) 98 139 (.int .u64 0) 8 Tryz.underlying98 infoU64 rfl .i64 .i64 (n / 64 + 1) (by omega) (by omega)
  have ec : (((n / 64 + 1 : Nat)) : Int) = (n : Int) / 64 + 1 := by omega
  rw [ec] at hmk
  clear ec
  have Hl := Lib.hid hl
  clear hl
  go_enter Tryz.func78, Tryz.ntmps78
  go_wp2_with (go_at_call 109; refine (partsFor_any _ _ (by omega) (by omega)).mono ?_; rintro e w' ⟨rfl, rfl⟩)
  go_loopw [12] (fun i wr => ∃ k : Nat, k ≤ n ∧ i = .int .i64 k ∧ wr.rowIs (w.heap.size + 1) 139 (n / 64 + 1) (fun p => .int .u64 (Bt.part (l.take k) p)) ∧ wr.rowIs w.heap.size 100 3 zeroBits ∧ Below w.heap.size w wr)
    (fun i _ => n - (intOf i).toNat)
  case atStart =>
    refine ⟨0, Nat.zero_le _, rfl, ?_, ?_, ?_⟩
    · have h0 := World.rowIs_made (w.alloc (.cells #[.int .i64 0, .slice none 0 0, .slice none 0 0] 100)) (.int .u64 0) (n / 64 + 1) 139
      rw [World.size_alloc] at h0
      exact h0.congr (g := fun p => .int .u64 (Bt.part (l.take 0) p)) (fun i _ => by rw [List.take_zero, Bt.part_nil]; rfl)
    · exact (World.rowIs_alloc w #[.int .i64 0, .slice none 0 0, .slice none 0 0] 100 zeroBits (fun i hi => by
        match i, hi with
        | 0, _ => rfl
        | 1, _ => rfl
        | 2, _ => rfl)).alloc _
    · exact ((Below.refl _ _).alloc (Nat.le_refl _) _).alloc (by simp) _
  case round =>
    obtain ⟨k, hk, rfl, hr, hz, hb⟩ := hrel
    clear hmk
    by_cases hlt : k < n
    · obtain ⟨b, o, rfl, hbb, hc⟩ := hA (by omega)
      have hc1 : wr.cell? ⟨b, o + k, none⟩ = some (.bool (l.getD k false)) := (hb.cell (p := ⟨b, o + k, none⟩) hbb).trans (hc k hlt)
      clear hc
      cases hx : l.getD k false with
      | false =>
        have hr1 := hr.congr (g := fun p => .int .u64 (Bt.part (l.take (k + 1)) p)) (fun p _ => by rw [Bt.part_take_succ _ _ _ (by have := Hl.out; omega), hx]; simp)
        rw [hx] at hc1
        clear hx
        go_wp2
        go_roundw
        case rel => exact ⟨k + 1, by omega, by go_num, hr1, hz, hb⟩
        case measure => simp [intOf]; omega
      | true =>
        rw [hx] at hc1
        have HX := Lib.hid hx
        clear hx
        have hq : k / 64 < n / 64 + 1 := by omega
        have hc2 := hr.cell hq
        have hf := hr.frozen (k / 64)
        go_wp2
        go_region
        all_goals
          go_wp2
          go_roundw
          case rel =>
            refine ⟨k + 1, by omega, by go_num, ?_, (hz.setOther (by simp) _).drew, (hb.setCell (by simp) _).drew⟩
            rw [or_bit _ _ (Bt.part_lt _ _) (by omega)]
            refine World.rowIs.drew ((hr.set (k / 64) _).congr (fun p _ => ?_))
            rw [Bt.part_take_succ _ _ _ (by have := Hl.out; omega), HX.out]
            by_cases hp : p = k / 64
            · subst hp; simp
            · rw [if_neg hp, if_neg (fun h => hp h.1)]
          case measure => simp [intOf]; omega
    · have hkn : k = n := by omega
      subst hkn
      have hP : Row wr wr.heap.size (some ⟨w.heap.size + 1, 0, none⟩) (k / 64 + 1) (fun p => .int .u64 (Bt.part (l.take k) p)) := Row.of_rowIs hr hr.lt
      clear hlt hA
      go_wp2_with fail
      refine (onesAhead_any _ _ _ (Bt.part (l.take k)) _ hP (Bt.part_lt _) (by omega)).mono ?_
      rintro e w1 ⟨g, rfl, hg, hrow, hb1⟩
      have hsz := hr.lt
      have z0 : w1.cell? ⟨w.heap.size, 0, none⟩ = some (.int .i64 0) := (hb1.cell (p := ⟨w.heap.size, 0, none⟩) (by simp; omega)).trans (hz.cell (by omega))
      have z1 : w1.cell? ⟨w.heap.size, 1, none⟩ = some (.slice none 0 0) := (hb1.cell (p := ⟨w.heap.size, 1, none⟩) (by simp; omega)).trans (hz.cell (by omega))
      have z2 : w1.cell? ⟨w.heap.size, 2, none⟩ = some (.slice none 0 0) := (hb1.cell (p := ⟨w.heap.size, 2, none⟩) (by simp; omega)).trans (hz.cell (by omega))
      have f0 : w1.frozen? ⟨w.heap.size, 0, none⟩ = false := (hb1.frozen (p := ⟨w.heap.size, 0, none⟩) (by simp; omega)).trans (hz.frozen _)
      have f1 : w1.frozen? ⟨w.heap.size, 1, none⟩ = false := (hb1.frozen (p := ⟨w.heap.size, 1, none⟩) (by simp; omega)).trans (hz.frozen _)
      have f2 : w1.frozen? ⟨w.heap.size, 2, none⟩ = false := (hb1.frozen (p := ⟨w.heap.size, 2, none⟩) (by simp; omega)).trans (hz.frozen _)
      go_wp2
      obtain ⟨s0, s1, s2⟩ := set3 (hz.of_block (hb1.block w.heap.size (by omega))) (.int .i64 k) (.slice (some ⟨w.heap.size + 1, 0, none⟩) (k / 64 + 1) (k / 64 + 1)) (.slice (some ⟨g, 0, none⟩) (k / 64 + 1) (k / 64 + 1))
      refine bodyPost_ret (v := .agg #[.int .i64 k, .slice (some ⟨w.heap.size + 1, 0, none⟩) (k / 64 + 1) (k / 64 + 1), .slice (some ⟨g, 0, none⟩) (k / 64 + 1) (k / 64 + 1)]) (by simp [results, Tryz.results78, go_sem, s0, s1, s2]) rfl ⟨w.heap.size + 1, g, rfl, by omega, Nat.le_trans hb.size hg, ?_, ?_⟩
      · have hr1 := ((((hr.of_block (hb1.block _ hsz)).setOther (a := ⟨w.heap.size, 0, none⟩) (by simp) (.int .i64 k)).setOther (a := ⟨w.heap.size, 1, none⟩) (by simp) (.slice (some ⟨w.heap.size + 1, 0, none⟩) (k / 64 + 1) (k / 64 + 1))).setOther (a := ⟨w.heap.size, 2, none⟩) (by simp) (.slice (some ⟨g, 0, none⟩) (k / 64 + 1) (k / 64 + 1)))
        have hr2 := ((hrow.setOther (a := ⟨w.heap.size, 0, none⟩) (by simp; omega) (.int .i64 k)).setOther (a := ⟨w.heap.size, 1, none⟩) (by simp; omega) (.slice (some ⟨w.heap.size + 1, 0, none⟩) (k / 64 + 1) (k / 64 + 1))).setOther (a := ⟨w.heap.size, 2, none⟩) (by simp; omega) (.slice (some ⟨g, 0, none⟩) (k / 64 + 1) (k / 64 + 1))
        have el : l.take k = l := List.take_of_length_le (by have := Hl.out; omega)
        rw [el] at hr1 hr2
        have hh := Hl.out
        subst hh
        exact ⟨Row.of_rowIs hr1 hr1.lt, (Row.of_rowIs hr2 hr2.lt).congr (fun i _ => by rw [psum_part])⟩
      · exact (((hb.trans (hb1.mono hb.size)).setCell (by simp) _).setCell (by simp) _).setCell (by simp) _

end Go.Proofs.YtoejenejleocdabGreatDoor

/- What bits.findInPart and bits.Find answer. -/
namespace Go.Proofs.YtoejenejleocdabGreatDoor
open Go.RowKit

/-- what is known in the middle of the search in one number: h: half of what is still looked at (0: one bit is) -/
def wid (h : Nat) : Nat := if h = 0 then 1 else 2 * h
def FI (p k r q pl h : Nat) : Prop :=
  (h = 0 ∨ h = 1 ∨ h = 2 ∨ h = 4 ∨ h = 8 ∨ h = 16 ∨ h = 32) ∧ pl + wid h ≤ 64 ∧ q < Bt.popF (wid h) r ∧ p / 2 ^ pl = r ∧ k = q + Bt.popF pl p
theorem wid_half {h : Nat} (h0 : 0 < h) (hh : h = 0 ∨ h = 1 ∨ h = 2 ∨ h = 4 ∨ h = 8 ∨ h = 16 ∨ h = 32) : wid (h / 2) = h ∧ wid h = h + h ∧ (h / 2 = 0 ∨ h / 2 = 1 ∨ h / 2 = 2 ∨ h / 2 = 4 ∨ h / 2 = 8 ∨ h / 2 = 16 ∨ h / 2 = 32) := by
  unfold wid
  rcases hh with rfl | rfl | rfl | rfl | rfl | rfl | rfl <;> simp at h0 ⊢
theorem FI.start {p k : Nat} (hk : k < Bt.pop p) : FI p k p k 0 32 := ⟨by omega, by decide, hk, by simp, by simp [Bt.popF]⟩
theorem FI.up {p k r q pl h : Nat} (I : FI p k r q pl h) (h0 : 0 < h) (hq : Bt.popF h r ≤ q) : FI p k (r / 2 ^ h) (q - Bt.popF h r) (pl + h) (h / 2) := by
  obtain ⟨hh, hw, hlt, hr, hk⟩ := I
  obtain ⟨w1, w2, w3⟩ := wid_half h0 hh
  refine ⟨w3, by omega, ?_, ?_, ?_⟩
  · rw [w1]; rw [w2, Bt.popF_add] at hlt; omega
  · rw [Nat.pow_add, ← Nat.div_div_eq_div_mul, hr]
  · rw [Bt.popF_add, hr]; omega
theorem FI.last {p k r q pl : Nat} (I : FI p k r q pl 0) : pl < 64 ∧ p / 2 ^ pl % 2 = 1 ∧ Bt.popF pl p = k := by
  obtain ⟨hh, hw, hlt, hr, hk⟩ := I
  have e : wid 0 = 1 := rfl
  rw [e] at hw hlt
  simp only [Bt.popF] at hlt
  rw [hr]; omega
end Go.Proofs.YtoejenejleocdabGreatDoor

/- What the search by halves and bits.Find answer. -/
namespace Go.Proofs.YtoejenejleocdabGreatDoor
open Go.RowKit
attribute [local irreducible] Bt.pop Bt.popF

end Go.Proofs.YtoejenejleocdabGreatDoor

/- What slices.Equal answers of two rows of numbers. -/
namespace Go.Proofs.YtoejenejleocdabGreatDoor
open Go.RowKit

/-- two rows are alike -/
def Alike (n m : Nat) (a b : Nat → Int) : Prop := n = m ∧ ∀ i, i < n → a i = b i

end Go.Proofs.YtoejenejleocdabGreatDoor

/- slices.Equal lies in Ei; this text binds the two families. -/
namespace Go.Proofs.YtoejenejleocdabGreatDoor
end Go.Proofs.YtoejenejleocdabGreatDoor

/- What bits.Good answers, of whatever bits. -/
namespace Go.Proofs.YtoejenejleocdabGreatDoor
open Go.RowKit
attribute [local irreducible] Bt.pop Bt.popF

end Go.Proofs.YtoejenejleocdabGreatDoor

/- Bits that Make has made and a function keeps in a block of its own: what stays so while other calls are made. -/
namespace Go.Proofs.YtoejenejleocdabGreatDoor
open Go.RowKit
attribute [local irreducible] Bt.pop Bt.popF

/-- the value of bits that Make has made of l -/
abbrev bv (n m g g2 : Nat) : Value := .agg #[.int .i64 n, .slice (some ⟨g, 0, none⟩) m m, .slice (some ⟨g2, 0, none⟩) m m]

/-- Block B holds bits of l (n of them, m parts); what was there in w0 is there still. -/
structure Inv (w0 : World) (l : List Bool) (n m B g g2 : Nat) (w : World) : Prop where
  c0 : w.cell? ⟨B, 0, none⟩ = some (.int .i64 n)
  c1 : w.cell? ⟨B, 1, none⟩ = some (.slice (some ⟨g, 0, none⟩) m m)
  c2 : w.cell? ⟨B, 2, none⟩ = some (.slice (some ⟨g2, 0, none⟩) m m)
  lt : B < w.heap.size
  made : IsBits w w.heap.size (some ⟨g, 0, none⟩) (some ⟨g2, 0, none⟩) l
  old : Below w0.heap.size w0 w
  len : n = l.length
  parts : m = l.length / 64 + 1
  small : n ≤ 140737488355328

theorem Inv.step {w0 : World} {l : List Bool} {n m B g g2 : Nat} {w w' : World} (h : Inv w0 l n m B g g2 w) (hb : Below w.heap.size w w') : Inv w0 l n m B g g2 w' :=
  ⟨(hb.cell (p := ⟨B, 0, none⟩) h.lt).trans h.c0, (hb.cell (p := ⟨B, 1, none⟩) h.lt).trans h.c1, (hb.cell (p := ⟨B, 2, none⟩) h.lt).trans h.c2, Nat.lt_of_lt_of_le h.lt hb.size,
    (h.made.below hb).more hb.size, h.old.trans (hb.mono h.old.size), h.len, h.parts, h.small⟩
theorem Inv.drew {w0 : World} {l : List Bool} {n m B g g2 : Nat} {w : World} (h : Inv w0 l n m B g g2 w) : Inv w0 l n m B g g2 w.drew := h.step (Below.refl _ _).drew
theorem Inv.drewN {w0 : World} {l : List Bool} {n m B g g2 : Nat} {w : World} (h : Inv w0 l n m B g g2 w) (q : Nat) : Inv w0 l n m B g g2 (w.drewN q) := h.step (Below.drewN (Below.refl _ _) q)
theorem Inv.alloc {w0 : World} {l : List Bool} {n m B g g2 : Nat} {w : World} (h : Inv w0 l n m B g g2 w) (o : Obj) : Inv w0 l n m B g g2 (w.alloc o) := h.step ((Below.refl _ _).alloc (Nat.le_refl _) o)
theorem Inv.start {w0 : World} {l : List Bool} {n m g g2 : Nat} {w : World} {t : TypeId} (hI : IsBits w w.heap.size (some ⟨g, 0, none⟩) (some ⟨g2, 0, none⟩) l) (hb : Below w0.heap.size w0 w) (hl : n = l.length) (hm : m = l.length / 64 + 1) (hs : n ≤ 140737488355328) :
    Inv w0 l n m w.heap.size g g2 (w.alloc (.cells #[.int .i64 n, .slice (some ⟨g, 0, none⟩) m m, .slice (some ⟨g2, 0, none⟩) m m] t)) :=
  ⟨by simp, by simp, by simp, by simp, hI.alloc _, hb.alloc hb.size _, hl, hm, hs⟩

section
variable {w0 : World} {l : List Bool} {n m B g g2 : Nat} {w : World}

/-- what the functions answer, by the list -/
def oI (l : List Bool) (i : Int) : Int := (Bt.ones (l.take i.toNat) : Nat)
def nI (l : List Bool) (i : Int) : Int := near l.length i - (Bt.ones (l.take i.toNat) : Nat)
theorem Inv.ones (h : Inv w0 l n m B g g2 w) (i : Int) : Calls Tryz.prog 213 #[bv n m g g2, .int .i64 i] w fun e w' => e = .returned (.int .i64 (oI l i)) ∧ Inv w0 l n m B g g2 w' := by
  have h1 := h.len; have h2 := h.parts; have h3 := h.small
  subst h1 h2
  exact (ones_made l i _ _ _ _ _ _ w h.made rfl rfl (by omega)).mono fun _ _ ⟨he, hb⟩ => ⟨he, h.step hb⟩
theorem Inv.noughts (h : Inv w0 l n m B g g2 w) (i : Int) : Calls Tryz.prog 214 #[bv n m g g2, .int .i64 i] w fun e w' => e = .returned (.int .i64 (nI l i)) ∧ Inv w0 l n m B g g2 w' := by
  have h1 := h.len; have h2 := h.parts; have h3 := h.small
  subst h1 h2
  exact (noughts_made l i _ _ _ _ _ _ w h.made rfl rfl (by omega)).mono fun _ _ ⟨he, hb⟩ => ⟨he, h.step hb⟩
end

end Go.Proofs.YtoejenejleocdabGreatDoor
