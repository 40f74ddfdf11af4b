import Derived.Test.YtoejenejleocdabGreatDoorJa
import Derived.Test.YtoejenejleocdabGreatDoorJb
/- What the reference's SameInts answers. -/
namespace Go.Proofs.YtoejenejleocdabGreatDoor
open Go.RowKit

set_option maxHeartbeats 1000000 in
theorem sameInts_any (A B : Option Addr) (n cn m cm : Nat) (a b : Nat → Int) (w : World) (ha : Row w w.heap.size A n (fun k => .int .i64 (a k))) (hb : Row w w.heap.size B m (fun k => .int .i64 (b k))) (hn : n ≤ 9223372036854775807) :
    Calls Tryz.prog 38 #[.slice A n cn, .slice B m cm] w fun e w' => ∃ r : Bool, e = .returned (.bool r) ∧ (r = true ↔ Alike n m a b) ∧ ∃ q, w' = w.drewN q := by
  by_cases hnm : n = m
  · subst hnm
    have hne : ((n : Int) != (n : Int)) = false := by simp
    go_enter Tryz.func38, Tryz.ntmps38
    go_wp2
    go_loopw [13] (fun s wr => ∃ k q : Nat, k ≤ n ∧ s = .int .i64 k ∧ wr = w.drewN q ∧ Hid (∀ i, i < k → a i = b i)) (fun s _ => n - (intOf s).toNat)
    case atStart => exact ⟨0, 0, Nat.zero_le _, rfl, rfl, (fun i hi => absurd hi (by omega) : ∀ i, i < 0 → a i = b i)⟩
    case round =>
      obtain ⟨k, q, hk, rfl, rfl, I⟩ := hrel
      by_cases hlt : k < n
      · obtain ⟨x, o, rfl, hx, hc⟩ := ha (by omega)
        obtain ⟨y, p, rfl, hy, hd⟩ := hb (by omega)
        have hc1 := hc k hlt
        have hd1 := hd k hlt
        have hlz : (k : Int) < (n : Int) := by omega
        clear hc hd ha hb
        by_cases he : a k = b k
        · have I2 : Hid (∀ i, i < k + 1 → a i = b i) := fun i hi => by
            rcases Nat.lt_succ_iff_lt_or_eq.1 hi with h | h
            · exact I.out i h
            · rw [h]; exact he
          have hf : (a k != b k) = false := by simp [he]
          clear he
          go_wp2
          go_quiet (fail)
          go_wp2
          go_roundw
          case rel => exact ⟨k + 1, _, by omega, by go_num, rfl, I2⟩
          case measure => simp [intOf]; omega
        · have hf : (a k != b k) = true := by simp [he]
          have HE := Lib.hid he
          clear he
          go_wp2
          go_quiet (fail)
          go_wp2
          go_ret
          exact ⟨false, rfl, ⟨(fun h => by cases h), fun h => absurd (h.2 k hlt) HE.out⟩, _, World.drewN_drewN _ _ _⟩
      · have hkn : k = n := by omega
        have HA : Alike n n a b := ⟨rfl, fun i hi => I.out i (by omega)⟩
        clear I
        go_wp2
        go_ret
        exact ⟨true, rfl, ⟨fun _ => HA, fun _ => rfl⟩, _, rfl⟩
  · have hne : ((n : Int) != (m : Int)) = true := by simp; omega
    have HE := Lib.hid hnm
    clear hnm
    go_enter Tryz.func38, Tryz.ntmps38
    go_wp2
    go_ret
    exact ⟨false, rfl, ⟨(fun h => by cases h), fun h => absurd h.1 HE.out⟩, 0, rfl⟩

end Go.Proofs.YtoejenejleocdabGreatDoor

/- SameInts of the reference, of whatever two lists. -/
namespace Go.Proofs.YtoejenejleocdabGreatDoor
open Go.RowKit

theorem sameInts_ints (A B : Option Addr) (cn cm : Nat) (a b : List Int) (w : World) (ha : IRow w w.heap.size A a) (hb : IRow w w.heap.size B b) (hn : a.length ≤ 9223372036854775807) :
    Calls Tryz.prog 38 #[.slice A a.length cn, .slice B b.length cm] w fun e w' => e = .returned (.bool (decide (a = b))) ∧ ∃ q, w' = w.drewN q :=
  (sameInts_any A B a.length cn b.length cm (fun k => a.getD k 0) (fun k => b.getD k 0) w ha hb hn).mono fun e w' ⟨r, h1, h2, h3⟩ => ⟨by
    rw [h1]
    congr 1
    congr 1
    rw [Bool.eq_iff_iff, decide_eq_true_eq, h2]
    constructor
    · rintro ⟨e1, e2⟩
      apply List.ext_getElem e1
      intro i hi hj
      have := e2 i hi
      simpa [hi, hj] using this
    · rintro rfl
      exact ⟨rfl, fun _ _ => rfl⟩, h3⟩

end Go.Proofs.YtoejenejleocdabGreatDoor
