/- The leaves: the order of two numbers, the first of two that is not 0, the rank at a place, how many numbers two ends have in common, is there one that is no sign. -/
import Derived.Test.YtnmhjhfdgfdooaaEi
import Derived.Test.YtnmhjhfdgfdooaaSb
import Derived.BigRegion
namespace Go.Proofs.Ytnmhjhfdgfdooaa
open Go.RowKit

theorem isNaN_any (x : Int) (w : World) : Calls Try.prog 52 #[.int .i64 x] w fun e w' => e = .returned (.bool false) ∧ w = w' := by
  have h : (x != x) = false := by simp
  go_enter Try.func52, Try.ntmps52
  go_wp2
  go_ret
  exact ⟨rfl, rfl⟩

set_option maxHeartbeats 400000 in
theorem compare_any (x y : Int) (w : World) : Calls Try.prog 43 #[.int .i64 x, .int .i64 y] w fun e w' => e = .returned (.int .i64 (En.ci x y)) ∧ w = w' := by
  unfold En.ci
  by_cases h1 : x < y
  · rw [if_pos h1]
    go_enter Try.func43, Try.ntmps43
    go_wp2_with (go_at_call 52; refine (isNaN_any _ _).mono ?_; rintro e w' ⟨rfl, rfl⟩)
    go_ret
    exact ⟨rfl, rfl⟩
  · rw [if_neg h1]
    by_cases h2 : y < x
    · rw [if_pos h2]
      go_enter Try.func43, Try.ntmps43
      go_wp2_with (go_at_call 52; refine (isNaN_any _ _).mono ?_; rintro e w' ⟨rfl, rfl⟩)
      go_ret
      exact ⟨rfl, rfl⟩
    · rw [if_neg h2]
      go_enter Try.func43, Try.ntmps43
      go_wp2_with (go_at_call 52; refine (isNaN_any _ _).mono ?_; rintro e w' ⟨rfl, rfl⟩)
      go_ret
      exact ⟨rfl, rfl⟩

/-- the first of two that is not 0 -/
def orv (x y : Int) : Int := if x = 0 then y else x

set_option maxHeartbeats 400000 in
theorem or_any (b : Nat) (x y : Int) (w : World) (h0 : w.cell? ⟨b, 0, none⟩ = some (.int .i64 x)) (h1 : w.cell? ⟨b, 1, none⟩ = some (.int .i64 y)) :
    Calls Try.prog 45 #[.slice (some ⟨b, 0, none⟩) 2 2] w fun e w' => e = .returned (.int .i64 (orv x y)) ∧ w = w' := by
  unfold orv
  by_cases hx : x = 0
  · rw [if_pos hx]
    subst hx
    by_cases hy : y = 0
    · subst hy
      go_enter Try.func45, Try.ntmps45
      go_wp2
      refine wp_loop_rounds 3 ?_
      rw [rounds_succ]
      go_wp2
      rw [rounds_succ]
      go_wp2
      rw [rounds_succ]
      go_wp2
      go_ret
      exact ⟨rfl, rfl⟩
    · have hn : (y != 0) = true := by simp [hy]
      go_enter Try.func45, Try.ntmps45
      go_wp2
      refine wp_loop_rounds 2 ?_
      rw [rounds_succ]
      go_wp2
      rw [rounds_succ]
      go_wp2
      go_ret
      exact ⟨rfl, rfl⟩
  · rw [if_neg hx]
    have hn : (x != 0) = true := by simp [hx]
    go_enter Try.func45, Try.ntmps45
    go_wp2
    refine wp_loop_rounds 1 ?_
    rw [rounds_succ]
    go_wp2
    go_ret
    exact ⟨rfl, rfl⟩

theorem rankAt_any (A : Option Addr) (n c p : Nat) (r : Nat → Nat) (w : World) (hr : Row w w.heap.size A n (fun k => .int .i64 (r k : Nat))) (hp : p < 4611686018427387904) (hn : n < 4611686018427387904) :
    Calls Try.prog 46 #[.slice A n c, .int .i64 p] w fun e w' => e = .returned (.int .i64 (En.rat n r p)) ∧ w = w' := by
  unfold En.rat
  by_cases h : n ≤ p
  · rw [if_pos h]
    have hz : (n : Int) ≤ (p : Int) := by omega
    go_enter Try.func46, Try.ntmps46
    go_wp2
    go_ret
    exact ⟨rfl, rfl⟩
  · rw [if_neg h]
    obtain ⟨b, o, rfl, hb, hc⟩ := hr (by omega)
    have hc1 := hc p (by omega)
    have hz : (p : Int) < (n : Int) := by omega
    clear hc
    go_enter Try.func46, Try.ntmps46
    go_wp2
    go_ret
    exact ⟨rfl, rfl⟩

theorem isNoSign_any (x : Int) (w : World) : Calls Try.prog 49 #[.int .i64 x] w fun e w' => e = .returned (.bool (decide (x ≤ 0))) ∧ w = w' := by
  go_enter Try.func49, Try.ntmps49
  go_wp2
  go_ret
  exact ⟨rfl, rfl⟩

set_option maxHeartbeats 1000000 in
/-- the first place that holds no sign, or -1 -/
theorem indexFunc_any (A : Option Addr) (n c : Nat) (f : Nat → Int) (w : World) (hr : Row w w.heap.size A n (fun k => .int .i64 (f k))) (hn : n < 4611686018427387904) :
    Calls Try.prog 53 #[.slice A n c, .func (.func 49) #[] #[]] w fun e w' =>
      ∃ v : Int, e = .returned (.int .i64 v) ∧ (0 ≤ v ↔ ∃ i, i < n ∧ f i ≤ 0) ∧ w = w' := by
  go_enter Try.func53, Try.ntmps53
  go_wp2
  go_loopw [8] (fun s wr => ∃ k : Nat, k ≤ n ∧ s = .int .i64 k ∧ wr = w ∧ Hid (∀ i, i < k → 0 < f i)) (fun s _ => n - (intOf s).toNat)
  case atStart => exact ⟨0, Nat.zero_le _, rfl, rfl, (fun i hi => absurd hi (by omega) : ∀ i, i < 0 → 0 < f i)⟩
  case round =>
    obtain ⟨k, hk, rfl, rfl, I⟩ := hrel
    by_cases hlt : k < n
    · obtain ⟨x, o, rfl, hx, hc⟩ := hr (by omega)
      have hc1 := hc k hlt
      have hlz : (k : Int) < (n : Int) := by omega
      clear hc hr
      by_cases he : f k ≤ 0
      · have HE := Lib.hid he
        have hd : decide (f k ≤ 0) = true := by simp [he]
        have HC := Lib.hid (fun W => isNoSign_any (f k) W)
        rw [hd] at HC
        clear he hd
        go_wp2_with fail
        with_reducible refine (HC.out _).mono ?_
        rintro e w' ⟨rfl, rfl⟩
        go_wp2
        go_ret
        exact ⟨k, rfl, ⟨fun _ => ⟨k, hlt, HE.out⟩, fun _ => by omega⟩, rfl⟩
      · have hd : decide (f k ≤ 0) = false := by simp [he]
        have HC := Lib.hid (fun W => isNoSign_any (f k) W)
        rw [hd] at HC
        have I2 : Hid (∀ i, i < k + 1 → 0 < f i) := fun i hi => by
          rcases Nat.lt_succ_iff_lt_or_eq.1 hi with h | h
          · exact I.out i h
          · rw [h]; omega
        clear he hd I
        go_wp2_with fail
        with_reducible refine (HC.out _).mono ?_
        rintro e w' ⟨rfl, rfl⟩
        go_wp2
        go_roundw
        case rel => exact ⟨k + 1, by omega, by go_num, by first | rfl | trivial, I2⟩
        case measure => simp [intOf]; omega
    · have hkn : k = n := by omega
      go_wp2
      go_ret
      exact ⟨-1, rfl, ⟨fun h => absurd h (by omega), fun ⟨i, hi, h⟩ => absurd (I.out i (by omega)) (by omega)⟩, rfl⟩

theorem containsFunc_any (A : Option Addr) (n c : Nat) (f : Nat → Int) (w : World) (hr : Row w w.heap.size A n (fun k => .int .i64 (f k))) (hn : n < 4611686018427387904) :
    Calls Try.prog 48 #[.slice A n c, .func (.func 49) #[] #[]] w fun e w' =>
      ∃ v : Bool, e = .returned (.bool v) ∧ (v = true ↔ ∃ i, i < n ∧ f i ≤ 0) ∧ w = w' := by
  have HI := Lib.hid (indexFunc_any A n c f w hr hn)
  go_enter Try.func48, Try.ntmps48
  go_wp2_with fail
  refine HI.out.mono ?_
  rintro e w' ⟨v, rfl, hv, rfl⟩
  have HV := Lib.hid hv
  clear hv
  go_wp2
  go_ret
  exact ⟨decide (0 ≤ v), rfl, by rw [decide_eq_true_eq]; exact HV.out, rfl⟩

end Go.Proofs.Ytnmhjhfdgfdooaa
