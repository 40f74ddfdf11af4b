/- How many numbers two ends have in common, from a number on that is known. -/
import Derived.Test.YtnmhjhfdgfdooaaSc
namespace Go.Proofs.Ytnmhjhfdgfdooaa
open Go.RowKit

set_option maxHeartbeats 1000000 in
theorem inCommon_any (A : Option Addr) (n c : Nat) (f : Nat → Int) (a b k0 L : Nat) (w : World) (hr : Row w w.heap.size A n (fun k => .int .i64 (f k))) (hn : n < 1152921504606846976) (ha : a ≤ n) (hb : b ≤ n) (hk : k0 ≤ L) (hL0 : L ≤ n)
    (hL : ∀ j, j ≤ L → ((a + j < n ∧ b + j < n ∧ f (a + j) = f (b + j)) ↔ j < L)) :
    Calls Try.prog 50 #[.slice A n c, .int .i64 a, .int .i64 b, .int .i64 k0] w fun e w' => e = .returned (.int .i64 L) ∧ ∃ q, w' = w.drewN q := by
  have HL := Lib.hid hL
  clear hL
  go_enter Try.func50, Try.ntmps50
  go_wp2
  go_loopw [3] (fun s wr => ∃ k q : Nat, k ≤ L ∧ s = .int .i64 k ∧ wr = w.drewN q) (fun s _ => L - (intOf s).toNat)
  case atStart => exact ⟨k0, 0, hk, rfl, rfl⟩
  case round =>
    obtain ⟨k, q, hkL, rfl, rfl⟩ := hrel
    by_cases hlt : k < L
    · obtain ⟨h1, h2, h3⟩ := (HL.out k hkL).2 hlt
      obtain ⟨x, o, rfl, hx, hc⟩ := hr (by omega)
      have hca := hc (a + k) h1
      have hcb := hc (b + k) h2
      clear hc hr HL
      have hz1 : (a : Int) + (k : Int) < (n : Int) := by omega
      have hz2 : (b : Int) + (k : Int) < (n : Int) := by omega
      have hf : (f (a + k) == f (b + k)) = true := by simp [h3]
      clear h3
      by_cases hab : a < b
      · have habz : (a : Int) < (b : Int) := by omega
        go_wp2
        go_quiet (fail)
        go_wp2
        go_roundw
        case rel => exact ⟨k + 1, _, by omega, by go_num, rfl⟩
        case measure => simp [intOf]; omega
      · have habz : ¬ (a : Int) < (b : Int) := by omega
        go_wp2
        go_quiet (fail)
        go_wp2
        go_roundw
        case rel => exact ⟨k + 1, _, by omega, by go_num, rfl⟩
        case measure => simp [intOf]; omega
    · have hkl : k = L := by omega
      subst hkl
      have hno := fun h => Nat.lt_irrefl _ ((HL.out k (Nat.le_refl _)).1 h)
      by_cases hin : a + k < n ∧ b + k < n
      · obtain ⟨h1, h2⟩ := hin
        obtain ⟨x, o, rfl, hx, hc⟩ := hr (by omega)
        have hca := hc (a + k) h1
        have hcb := hc (b + k) h2
        have hf : (f (a + k) == f (b + k)) = false := by
          rw [Bool.eq_false_iff]; intro h; exact hno ⟨h1, h2, by simpa using h⟩
        clear hc hr HL hno
        have hz1 : (a : Int) + (k : Int) < (n : Int) := by omega
        have hz2 : (b : Int) + (k : Int) < (n : Int) := by omega
        by_cases hab : a < b
        · have habz : (a : Int) < (b : Int) := by omega
          go_wp2
          go_quiet (fail)
          go_wp2
          go_ret
          exact ⟨rfl, _, World.drewN_drewN _ _ _⟩
        · have habz : ¬ (a : Int) < (b : Int) := by omega
          go_wp2
          go_quiet (fail)
          go_wp2
          go_ret
          exact ⟨rfl, _, World.drewN_drewN _ _ _⟩
      · clear HL hno
        by_cases hab : a < b
        · have habz : (a : Int) < (b : Int) := by omega
          have hz1 : (n : Int) ≤ (b : Int) + (k : Int) := by omega
          have hz0 : IntKind.i64.wrap ((b : Int) + (k : Int)) = (b : Int) + (k : Int) := by simp [IntKind.wrap, IntKind.bits, IntKind.signed]; omega
          have hz3 : decide ((b : Int) + (k : Int) < (n : Int)) = false := by simp; omega
          clear hin
          go_wp2
          go_quiet (fail)
          go_wp2
          go_ret
          exact ⟨rfl, _, World.drewN_drewN _ _ _⟩
        · have habz : ¬ (a : Int) < (b : Int) := by omega
          have hz1 : (n : Int) ≤ (a : Int) + (k : Int) := by omega
          have hz0 : IntKind.i64.wrap ((a : Int) + (k : Int)) = (a : Int) + (k : Int) := by simp [IntKind.wrap, IntKind.bits, IntKind.signed]; omega
          have hz3 : decide ((a : Int) + (k : Int) < (n : Int)) = false := by simp; omega
          clear hin
          go_wp2
          go_quiet (fail)
          go_wp2
          go_ret
          exact ⟨rfl, _, World.drewN_drewN _ _ _⟩

end Go.Proofs.Ytnmhjhfdgfdooaa
