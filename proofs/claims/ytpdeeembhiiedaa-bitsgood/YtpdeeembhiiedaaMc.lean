/- Plain mathematics: the list of a number's bits, and bits that are as Make makes them. No program is named here. -/
import Derived.Test.YtpdeeembhiiedaaBi
namespace Go.Proofs.Ytpdeeembhiiedaa
namespace Bt

theorem val_bits (p m : Nat) : val ((List.range m).map fun j => (p / 2 ^ j % 2 == 1)) = p % 2 ^ m := by
  induction m with
  | zero => simp [val, Nat.mod_one]
  | succ m ih =>
    rw [List.range_succ, List.map_append, List.map_singleton, val_snoc, ih, List.length_map, List.length_range, Nat.mod_pow_succ]
    have h : (p / 2 ^ m % 2 == 1).toNat = p / 2 ^ m % 2 := by
      rcases Nat.mod_two_eq_zero_or_one (p / 2 ^ m) with h | h <;> rw [h] <;> rfl
    rw [h]

/-- the bits of numbers, 64 of each, n in all -/
def bitsL (P : Nat → Nat) (n : Nat) : List Bool := (List.range n).map fun i => (P (i / 64) / 2 ^ (i % 64) % 2 == 1)
theorem bitsL_len (P : Nat → Nat) (n : Nat) : (bitsL P n).length = n := by simp [bitsL]
theorem bitsL_get (P : Nat → Nat) (n i : Nat) (hi : i < n) : (bitsL P n).getD i false = (P (i / 64) / 2 ^ (i % 64) % 2 == 1) := by
  simp [bitsL, hi]
theorem seg_bitsL (P : Nat → Nat) (n p : Nat) : seg (bitsL P n) p = (List.range (min 64 (n - 64 * p))).map fun j => (P p / 2 ^ j % 2 == 1) := by
  apply List.ext_getElem?
  intro j
  unfold seg bitsL
  rw [List.getElem?_take]
  by_cases h1 : j < 64
  · rw [if_pos h1, List.getElem?_drop, List.getElem?_map, List.getElem?_map]
    by_cases h2 : 64 * p + j < n
    · rw [List.getElem?_range h2, List.getElem?_range (by omega)]
      simp only [Option.map_some]
      rw [show (64 * p + j) / 64 = p from by omega, show (64 * p + j) % 64 = j from by omega]
    · rw [List.getElem?_eq_none (show (List.range n).length ≤ 64 * p + j by simp; omega), List.getElem?_eq_none (show (List.range (min 64 (n - 64 * p))).length ≤ j by simp; omega)]
      rfl
  · rw [if_neg h1, List.getElem?_eq_none (by simp; omega)]
theorem part_bitsL (P : Nat → Nat) (n p : Nat) : part (bitsL P n) p = P p % 2 ^ (min 64 (n - 64 * p)) := by
  unfold part
  rw [seg_bitsL, val_bits]

end Bt

/-- what the reference asks of bits is what Good asks -/
theorem same_good (N np na : Nat) (P : Nat → Nat) (a : Nat → Int) (hP : ∀ k, P k < 18446744073709551616) (hnp : np = N / 64 + 1) :
    (N = N ∧ N / 64 + 1 = np ∧ Alike (N / 64 + 1) na (fun k => (Bt.ahd (Bt.bitsL P N) k : Nat)) a ∧ ∀ i, i < N / 64 + 1 → Bt.part (Bt.bitsL P N) i = P i) ↔ GoodIs N np na P a := by
  subst hnp
  have e1 : ((N : Int) / 64).toNat = N / 64 := by omega
  have e2 : ((N : Int) % 64).toNat = N % 64 := by omega
  have key : ∀ i, i < N / 64 + 1 → (i = N / 64 → P i < 2 ^ (N % 64)) → Bt.part (Bt.bitsL P N) i = P i := by
    intro i hi h
    rw [Bt.part_bitsL]
    by_cases h1 : i = N / 64
    · rw [show min 64 (N - 64 * i) = N % 64 from by omega]
      exact Nat.mod_eq_of_lt (h h1)
    · rw [show min 64 (N - 64 * i) = 64 from by omega]
      exact Nat.mod_eq_of_lt (by have := hP i; omega)
  have sum : (∀ i, i < N / 64 + 1 → Bt.part (Bt.bitsL P N) i = P i) → ∀ k, k ≤ N / 64 + 1 → Bt.ahd (Bt.bitsL P N) k = psum P k := by
    intro h k hk
    rw [← psum_part]
    induction k with
    | zero => rfl
    | succ k ih => simp only [psum]; rw [ih (by omega), h k (by omega)]
  unfold GoodIs
  rw [e1, e2]
  constructor
  · rintro ⟨_, _, ⟨h1, h2⟩, h3⟩
    refine ⟨by omega, by omega, ?_, h1.symm, fun i hi => ?_⟩
    · have h4 := h3 (N / 64) (by omega)
      rw [← h4, Bt.part_bitsL, show min 64 (N - 64 * (N / 64)) = N % 64 from by omega]
      exact Nat.mod_lt _ (Nat.two_pow_pos _)
    · have h5 := h2 i (by omega)
      simp only at h5
      rw [← h5, sum h3 i (by omega)]
  · rintro ⟨_, _, h3, h4, h5⟩
    have hk : ∀ i, i < N / 64 + 1 → Bt.part (Bt.bitsL P N) i = P i := fun i hi => key i hi (fun e => by rw [e]; exact h3)
    refine ⟨rfl, rfl, ⟨h4.symm, fun i hi => ?_⟩, hk⟩
    have h6 := h5 i (by omega)
    simp only at h6
    rw [h6]
    show ((Bt.ahd (Bt.bitsL P N) i : Nat) : Int) = _
    rw [sum hk i (by omega)]

end Go.Proofs.Ytpdeeembhiiedaa
