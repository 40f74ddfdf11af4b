/- The contracts of the leaves of package bits: partsFor, lowest, within, and the library's OnesCount64. -/
import Derived.Test.YtgnakccbkglfpaaRows
import Derived.WalkKit
import Derived.WalkSpells
import Derived.WalkLawsBesides
import Derived.Lib.Hide
import Derived.Deep.Draws
import Derived.Test.YtgnakccbkglfpaaMa
namespace Go.Proofs.Ytgnakccbkglfpaa
open Go.RowKit

set_option maxHeartbeats 400000 in
theorem partsFor_any (n : Int) (w : World) (h0 : 0 ≤ n) (h1 : n ≤ 9223372036854775807) :
    Calls Try.prog 47 #[.int .i64 n] w fun e w' => e = .returned (.int .i64 (n / 64 + 1)) ∧ w = w' := by
  go_enter Try.func47, Try.ntmps47
  go_wp2
  go_ret
  exact ⟨rfl, rfl⟩

theorem ret_int {k : IntKind} {a b : Int} (h : a = b) : Ending.returned (.int k a) = .returned (.int k b) := by rw [h]

set_option maxHeartbeats 400000 in
theorem lowest_any (n : Int) (w : World) (h0 : 0 ≤ n) (h1 : n ≤ 64) :
    Calls Try.prog 51 #[.int .i64 n] w fun e w' => e = .returned (.int .u64 (2 ^ n.toNat - 1)) ∧ w = w' := by
  have h2 : (2 : Int) ^ n.toNat = ((2 ^ n.toNat : Nat) : Int) := by simp
  have h3 : 2 ^ n.toNat ≤ 2 ^ 64 := Nat.pow_le_pow_right (by omega) (by omega)
  have h4 : 1 ≤ 2 ^ n.toNat := Nat.one_le_two_pow
  have h5 : IntKind.u64.wrap (IntKind.u64.wrap (2 ^ n.toNat) - 1) = 2 ^ n.toNat - 1 := by
    rw [h2, IntKind.wrap_u64, IntKind.wrap_u64]; omega
  have H := Lib.hid h5
  clear h2 h3 h4 h5
  go_enter Try.func51, Try.ntmps51
  go_wp2
  go_ret
  exact ⟨ret_int H.out, rfl⟩

set_option maxHeartbeats 400000 in
theorem ones64_any (N : Nat) (w : World) (h1 : N < 18446744073709551616) :
    Calls Try.prog 50 #[.int .u64 N] w fun e w' => e = .returned (.int .i64 (Bt.pop N)) ∧ w = w' := by
  obtain ⟨n, hn⟩ : ∃ n : Int, n = N := ⟨_, rfl⟩
  rw [← hn]
  have h0 : 0 ≤ n := by omega
  have h1' : n < 18446744073709551616 := by omega
  have H := Lib.hid (hn)
  clear hn
  go_enter Try.func50, Try.ntmps50
  go_wp2
  go_ret
  refine ⟨?_, rfl⟩
  have hs := Bt.swar N h1
  rw [← H.out] at hs
  simp only [Bt.q1, Bt.q2, Bt.q3, Bt.q4, Bt.q5, Bt.q6] at hs
  exact ret_int hs

theorem ones64_int (x : Int) (w : World) (h0 : 0 ≤ x) (h1 : x < 18446744073709551616) :
    Calls Try.prog 50 #[.int .u64 x] w fun e w' => e = .returned (.int .i64 (Bt.pop x.toNat)) ∧ w = w' := by
  obtain ⟨n, rfl⟩ := Int.eq_ofNat_of_zero_le h0
  rw [Int.toNat_natCast]
  exact ones64_any n w (by omega)

/-- a call that leaves the world alone, in a region that draws -/
theorem quiet_eq {P : Program} {f : FuncId} {args : Array Value} {w : World} {n : Nat} {v : Value}
    (h : Calls P f args (w.drewN n) fun e w' => e = .returned v ∧ w.drewN n = w') : Calls P f args (w.drewN n) fun e w' => e = .returned v ∧ ∃ m, w' = w.drewN m :=
  h.mono fun _ _ ⟨he, hw⟩ => ⟨he, n, hw.symm⟩

/-- the same, behind another such region -/
theorem quiet_eq2 {P : Program} {f : FuncId} {args : Array Value} {w : World} {a n : Nat} {v : Value}
    (h : Calls P f args (w.drewN (a + n)) fun e w' => e = .returned v ∧ w.drewN (a + n) = w') : Calls P f args (w.drewN (a + n)) fun e w' => e = .returned v ∧ ∃ m, w' = w.drewN (a + m) :=
  h.mono fun _ _ ⟨he, hw⟩ => ⟨he, n, hw.symm⟩

theorem and_u64_lo (a b : Int) : 0 ≤ bits .and .u64 a b := by
  show 0 ≤ IntKind.u64.wrap _
  rw [IntKind.wrap_u64]; omega
theorem and_u64_hi (a b : Int) : bits .and .u64 a b < 18446744073709551616 := by
  show IntKind.u64.wrap _ < _
  rw [IntKind.wrap_u64]; omega
/-- a mask of the lowest k bits -/
theorem and_low (p k : Nat) (hp : p < 18446744073709551616) (hk : k ≤ 64) : bits .and .u64 (p : Int) (2 ^ k - 1) = ((p % 2 ^ k : Nat) : Int) := by
  have h3 : 2 ^ k ≤ 2 ^ 64 := Nat.pow_le_pow_right (by omega) hk
  have h4 : 1 ≤ 2 ^ k := Nat.one_le_two_pow
  have e : ((2 : Int) ^ k - 1) = ((2 ^ k - 1 : Nat) : Int) := by
    have : (2 : Int) ^ k = ((2 ^ k : Nat) : Int) := by simp
    omega
  rw [e, bits_and_u64_nat _ _ hp (by omega), Nat.and_two_pow_sub_one_eq_mod]

end Go.Proofs.Ytgnakccbkglfpaa
