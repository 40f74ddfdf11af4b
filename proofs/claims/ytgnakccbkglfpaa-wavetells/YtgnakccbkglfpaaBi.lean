/- What bits.Good answers, of whatever bits. -/
import Derived.Test.YtgnakccbkglfpaaBh
namespace Go.Proofs.Ytgnakccbkglfpaa
open Go.RowKit
attribute [local irreducible] Bt.pop Bt.popF

/-- what Good asks -/
def GoodIs (n : Int) (np na : Nat) (P : Nat → Nat) (a : Nat → Int) : Prop :=
  0 ≤ n ∧ (np : Int) = n / 64 + 1 ∧ P (n / 64).toNat < 2 ^ (n % 64).toNat ∧ Alike na np a (fun k => (psum P k : Nat))

theorem andNot_low (p k : Nat) (hp : p < 18446744073709551616) (hk : k < 64) : (bits .andNot .u64 (p : Int) (2 ^ k - 1) == 0) = decide (p < 2 ^ k) := by
  have h3 : 2 ^ k ≤ 2 ^ 63 := Nat.pow_le_pow_right (by omega) (by omega)
  have h4 : 1 ≤ 2 ^ k := Nat.one_le_two_pow
  have e : ((2 : Int) ^ k - 1) = ((2 ^ k - 1 : Nat) : Int) := by
    have : (2 : Int) ^ k = ((2 ^ k : Nat) : Int) := by simp
    omega
  rw [e]
  rw [u64_andNot_nat _ _ hp (by omega)]
  have em : 18446744073709551615 - (2 ^ k - 1) = 2 ^ 64 - (2 ^ k - 1 + 1) := by omega
  rw [em, Bool.eq_iff_iff]
  have ht : ∀ i, (p &&& (2 ^ 64 - (2 ^ k - 1 + 1))).testBit i = (p.testBit i && (decide (i < 64) && !decide (i < k))) := by
    intro i
    rw [Nat.testBit_and, Nat.testBit_two_pow_sub_succ (by omega), Nat.testBit_two_pow_sub_one]
  constructor
  · intro h
    have hz : p &&& (2 ^ 64 - (2 ^ k - 1 + 1)) = 0 := by simpa using h
    rw [hz] at ht
    simp only [decide_eq_true_eq]
    rcases Nat.lt_or_ge p (2 ^ k) with h5 | h5
    · exact h5
    · exfalso
      obtain ⟨i, hi, hb⟩ := Nat.exists_ge_and_testBit_of_ge_two_pow h5
      have h6 := ht i
      have h7 : i < 64 := by
        rcases Nat.lt_or_ge i 64 with h8 | h8
        · exact h8
        · have h9 : p.testBit i = false := Nat.testBit_lt_two_pow (Nat.lt_of_lt_of_le (show p < 2 ^ 64 by omega) (Nat.pow_le_pow_right (by omega) h8))
          rw [h9] at hb; cases hb
      rw [hb, Nat.zero_testBit] at h6
      simp [h7] at h6
      omega
  · intro h
    have hlt : p < 2 ^ k := by simpa using h
    have hz : p &&& (2 ^ 64 - (2 ^ k - 1 + 1)) = 0 := by
      apply Nat.eq_of_testBit_eq
      intro i
      rw [ht, Nat.zero_testBit]
      by_cases hi : i < k
      · simp [hi]
      · rw [Nat.testBit_lt_two_pow (Nat.lt_of_lt_of_le hlt (Nat.pow_le_pow_right (by omega) (show k ≤ i by omega)))]; rfl
    rw [hz]; rfl

set_option maxHeartbeats 1000000 in
theorem good_any (n : Int) (A : Option Addr) (np cp : Nat) (A2 : Option Addr) (na ca : Nat) (w : World) (P : Nat → Nat) (a : Nat → Int) (hn : n ≤ 562949953421312) (hnp : np ≤ 9223372036854775807) (hna : na ≤ 9223372036854775807)
    (hP : Row w w.heap.size A np (fun k => .int .u64 (P k))) (hP2 : ∀ k, P k < 18446744073709551616) (ha : Row w w.heap.size A2 na (fun k => .int .i64 (a k))) :
    Calls Try.prog 21 #[.agg #[.int .i64 n, .slice A np cp, .slice A2 na ca]] w fun e w' => ∃ r : Bool, e = .returned (.bool r) ∧ (r = true ↔ GoodIs n np na P a) ∧ Below w.heap.size w w' := by
  by_cases h0 : n < 0
  · have hd : decide (n < 0) = true := by simp [h0]
    have HG : ¬ GoodIs n np na P a := fun h => by have := h.1; omega
    go_enter Try.func21, Try.ntmps21
    go_wp2
    go_quiet (fail)
    go_wp2
    go_ret
    exact ⟨false, rfl, ⟨(fun h => by cases h), fun h => absurd h HG⟩, Below.drewN ((Below.refl _ _).alloc (Nat.le_refl _) _) _⟩
  · have hd : decide (n < 0) = false := by simp; omega
    by_cases h1 : (np : Int) = n / 64 + 1
    · obtain ⟨N, rfl⟩ := Int.eq_ofNat_of_zero_le (show 0 ≤ n by omega)
      have h1n : np = N / 64 + 1 := by omega
      subst h1n
      have hd1 : (((N / 64 + 1 : Nat) : Int) != (N : Int) / 64 + 1) = false := by simp
      clear h1
      obtain ⟨b, o, rfl, hb, hc⟩ := hP (by omega)
      have hc1 := hc (N / 64) (by omega)
      have hp := hP2 (N / 64)
      have hg := andNot_low (P (N / 64)) (N % 64) hp (by omega)
      clear hc
      by_cases h2 : P (N / 64) < 2 ^ (N % 64)
      · rw [show decide (P (N / 64) < 2 ^ (N % 64)) = true from by simp; exact h2] at hg
        have HG : Alike na (N / 64 + 1) a (fun k => (psum P k : Nat)) ↔ GoodIs N (N / 64 + 1) na P a := ⟨fun h => ⟨by omega, by omega, h2, h⟩, fun h => h.2.2.2⟩
        clear h2
        go_enter Try.func21, Try.ntmps21
        go_wp2
        go_quiet ((go_at_call 47; exact quiet_eq (partsFor_any _ _ (by omega) (by omega))))
        go_wp2_with fail
        go_quiet ((go_at_call 51; exact quiet_eq2 (lowest_any _ _ (by omega) (by omega))))
        go_wp2_with fail
        clear hc1
        have HR : Hid (Row w w.heap.size (some ⟨b, o, none⟩) (N / 64 + 1) (fun k => .int .u64 (P k))) := hP
        have HA : Hid (Row w w.heap.size A2 na (fun k => .int .i64 (a k))) := ha
        clear hP ha
        go_region_with (first
          | (go_at_call 48; refine (onesAhead_any _ _ _ P _ ?_ hP2 (by omega)).mono ?_; (exact (HR.out.below (Below.drewN ((Below.refl _ _).alloc (Nat.le_refl _) _) _)).more (by simp)); rintro e w1 ⟨g, rfl, hg1, hrow, hb1⟩; obtain ⟨k0, k1, k2, hb2, hsz⟩ := box3N hb1)
          | (go_at_call 55; refine (equal_any _ _ _ _ _ _ a (fun k => (psum P k : Nat)) _ ?_ ?_ (by omega)).mono ?_; (exact (HA.out.below hb2).more hb2.size); (exact Row.of_rowIs hrow hrow.lt); rintro e w2 ⟨r, rfl, hr, q, rfl⟩))
        all_goals
          go_wp2
          go_ret
          exact ⟨r, rfl, hr.trans HG, Below.drewN hb2 _⟩
      · rw [show decide (P (N / 64) < 2 ^ (N % 64)) = false from by simp; omega] at hg
        have HG : ¬ GoodIs N (N / 64 + 1) na P a := fun h => h2 h.2.2.1
        clear h2
        go_enter Try.func21, Try.ntmps21
        go_wp2
        go_quiet ((go_at_call 47; exact quiet_eq (partsFor_any _ _ (by omega) (by omega))))
        go_wp2_with fail
        go_quiet ((go_at_call 51; exact quiet_eq2 (lowest_any _ _ (by omega) (by omega))))
        go_wp2_with fail
        go_quiet (fail)
        go_wp2
        go_ret
        exact ⟨false, rfl, ⟨(fun h => by cases h), fun h => absurd h HG⟩, Below.drewN (Below.drewN (Below.drewN ((Below.refl _ _).alloc (Nat.le_refl _) _) _) _) _⟩
    · have hd1 : ((np : Int) != n / 64 + 1) = true := by simp [h1]
      have HG : ¬ GoodIs n np na P a := fun h => h1 h.2.1
      clear h1
      go_enter Try.func21, Try.ntmps21
      go_wp2
      go_quiet ((go_at_call 47; exact quiet_eq (partsFor_any _ _ (by omega) (by omega))))
      go_wp2
      go_ret
      exact ⟨false, rfl, ⟨(fun h => by cases h), fun h => absurd h HG⟩, Below.drewN ((Below.refl _ _).alloc (Nat.le_refl _) _) _⟩

/-- bits that Make has made are good -/
theorem good_made (l : List Bool) (A : Option Addr) (np cp : Nat) (A2 : Option Addr) (na ca : Nat) (w : World) (hI : IsBits w w.heap.size A A2 l) (hp : np = l.length / 64 + 1) (ha : na = l.length / 64 + 1) (hl : l.length ≤ 140737488355328) :
    Calls Try.prog 21 #[.agg #[.int .i64 l.length, .slice A np cp, .slice A2 na ca]] w fun e w' => e = .returned (.bool true) ∧ Below w.heap.size w w' := by
  subst hp ha
  refine (good_any _ _ _ _ _ _ _ _ (Bt.part l) (fun k => (Bt.ahd l k : Nat)) (by omega) (by omega) (by omega) hI.parts (Bt.part_lt l) hI.ahead).mono ?_
  rintro e w' ⟨r, rfl, hr, hb⟩
  refine ⟨ret_bool (hr.2 ⟨by omega, by omega, ?_, rfl, fun i _ => by simp only [psum_part]⟩), hb⟩
  rw [show ((l.length : Int) / 64).toNat = l.length / 64 from by omega, show ((l.length : Int) % 64).toNat = l.length % 64 from by omega]
  have h := Bt.val_lt (Bt.seg l (l.length / 64))
  have e : (Bt.seg l (l.length / 64)).length = l.length % 64 := by simp [Bt.seg]; omega
  rw [e] at h
  exact h

end Go.Proofs.Ytgnakccbkglfpaa
