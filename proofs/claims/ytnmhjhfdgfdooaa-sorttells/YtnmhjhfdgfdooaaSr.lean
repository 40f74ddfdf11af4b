/- Is a list one of signs: sort.Good and the reference's. -/
import Derived.Test.YtnmhjhfdgfdooaaSl
namespace Go.Proofs.Ytnmhjhfdgfdooaa
open Go.RowKit

/-- what Good asks, place by place -/
theorem good_iff (l : List Int) : En.good l = true ↔ 0 < l.length ∧ l.getD (l.length - 1) 0 = 0 ∧ ∀ i, i < l.length - 1 → 0 < l.getD i 0 := by
  unfold En.good
  simp only [Bool.and_eq_true, decide_eq_true_eq, beq_iff_eq, List.all_eq_true]
  constructor
  · rintro ⟨⟨h1, h2⟩, h3⟩
    refine ⟨h1, h2, fun i hi => ?_⟩
    have := h3 l[i] (by rw [List.mem_take_iff_getElem]; exact ⟨i, by omega, rfl⟩)
    have hi' : i < l.length := by omega
    simpa [hi'] using this
  · rintro ⟨h1, h2, h3⟩
    refine ⟨⟨h1, h2⟩, fun x hx => ?_⟩
    rw [List.mem_take_iff_getElem] at hx
    obtain ⟨i, hi, rfl⟩ := hx
    have hi' : i < l.length := by omega
    have := h3 i (by omega)
    simpa [hi'] using this

set_option maxHeartbeats 1000000 in
theorem goodL_any (A : Option Addr) (c : Nat) (l : List Int) (w : World) (hr : IRow w w.heap.size A l) (hn : l.length ≤ 17592186044416) (hcap : l.length ≤ c) :
    Calls Try.prog 25 #[.slice A l.length c] w fun e w' => e = .returned (.bool (En.good l)) ∧ Below w.heap.size w w' := by
  have Hg := Lib.hid (good_iff l)
  have Hr : Row w w.heap.size A l.length (fun i => .int .i64 (l.getD i 0)) := hr
  generalize En.good l = r at *
  by_cases h0 : l.length = 0
  · have hf : r = false := by
      rw [Bool.eq_false_iff]; intro h; have := (Hg.out.1 h).1; omega
    subst hf
    clear Hg hr Hr
    rw [h0]
    go_enter Try.func25, Try.ntmps25
    go_wp2
    go_ret
    exact ⟨rfl, Below.refl _ _⟩
  · obtain ⟨n, hnn⟩ : ∃ n, l.length = n + 1 := ⟨l.length - 1, by omega⟩
    rw [hnn] at Hr hn Hg hcap ⊢
    rw [Nat.add_sub_cancel] at Hg
    obtain ⟨b, o, rfl, hb, hc⟩ := Hr (by omega)
    have hc1 : w.cell? ⟨b, o + n, none⟩ = some (.int .i64 (l.getD n 0)) := hc n (by omega)
    have HC := Lib.hid (fun c' => containsFunc_any (some ⟨b, o, none⟩) n c' (fun k => l.getD k 0) w (Hr.less (by omega)) (by omega))
    clear hc Hr hr h0 hnn
    have hcz : (n : Int) ≤ (c : Int) := by omega
    by_cases hx : l.getD n 0 = 0
    · rw [hx] at hc1
      go_enter Try.func25, Try.ntmps25
      go_wp2_with fail
      with_reducible refine (HC.out _).mono ?_
      rintro e w1 ⟨v, rfl, hv, rfl⟩
      have hrv : r = !v := by
        rw [Bool.eq_iff_iff, Hg.out]
        simp only [Bool.not_eq_true', Bool.eq_false_iff, ne_eq, hv]
        constructor
        · rintro ⟨_, _, h3⟩ ⟨i, hi, h4⟩
          have := h3 i hi
          omega
        · intro h
          refine ⟨by omega, hx, fun i hi => ?_⟩
          rcases Int.lt_or_le 0 (l.getD i 0) with h5 | h5
          · exact h5
          · exact absurd ⟨i, hi, h5⟩ h
      subst hrv
      clear Hg HC hx hv
      go_wp2
      go_ret
      exact ⟨rfl, Below.refl _ _⟩
    · have hf : r = false := by
        rw [Bool.eq_false_iff]; intro h; exact hx (Hg.out.1 h).2.1
      subst hf
      generalize l.getD n 0 = x at *
      have hd : (x == 0) = false := by simp [hx]
      clear Hg hx
      go_enter Try.func25, Try.ntmps25
      go_wp2
      go_ret
      exact ⟨rfl, Below.refl _ _⟩

set_option maxHeartbeats 1000000 in
theorem isList_any (A : Option Addr) (c : Nat) (l : List Int) (w : World) (hr : IRow w w.heap.size A l) (hn : l.length ≤ 17592186044416) :
    Calls Try.prog 26 #[.slice A l.length c] w fun e w' => e = .returned (.bool (En.good l)) ∧ Below w.heap.size w w' := by
  have Hg := Lib.hid (good_iff l)
  have Hr : Row w w.heap.size A l.length (fun i => .int .i64 (l.getD i 0)) := hr
  generalize En.good l = r at *
  generalize l.length = n at *
  clear hr
  go_enter Try.func26, Try.ntmps26
  go_wp2
  go_loopw [7] (fun s W => ∃ k : Nat, k ≤ n ∧ s = .int .i64 k ∧ W = w.drewN 0 ∧ Hid (∀ i, i < k → (i = n - 1 → l.getD i 0 = 0) ∧ (i ≠ n - 1 → 0 < l.getD i 0))) (fun s _ => n - (intOf s).toNat)
  case atStart => exact ⟨0, Nat.zero_le _, rfl, rfl, (fun i hi => absurd hi (by omega) : ∀ i, i < 0 → (i = n - 1 → l.getD i 0 = 0) ∧ (i ≠ n - 1 → 0 < l.getD i 0))⟩
  case round =>
    obtain ⟨k, hk, rfl, rfl, I⟩ := hrel
    by_cases hlt : k < n
    · obtain ⟨b, o, rfl, hb, hc⟩ := Hr (by omega)
      have hc1 : w.cell? ⟨b, o + k, none⟩ = some (.int .i64 (l.getD k 0)) := hc k hlt
      have hz : (k : Int) < (n : Int) := by omega
      obtain ⟨x, hx⟩ : ∃ x, l.getD k 0 = x := ⟨_, rfl⟩
      have hxx : Hid (l.getD k 0 = x) := Lib.hid hx
      rw [hx] at hc1
      clear hc Hr hx
      obtain ⟨n', rfl⟩ : ∃ n', n = n' + 1 := ⟨n - 1, by omega⟩
      rw [Nat.add_sub_cancel] at Hg
      rw [Nat.add_sub_cancel] at I
      have hlast : (((k : Int) == (n' : Int))) = decide (k = n') := by rw [Bool.eq_iff_iff, beq_iff_eq, decide_eq_true_eq]; omega
      by_cases hkl : k = n'
      · have e1 : ((k : Int) == (n' : Int)) = true := by rw [hlast]; simp [hkl]
        by_cases h0 : x = 0
        · have I2 : Hid (∀ i, i < k + 1 → (i = n' + 1 - 1 → l.getD i 0 = 0) ∧ (i ≠ n' + 1 - 1 → 0 < l.getD i 0)) := Lib.hid fun i hi => by
            rw [Nat.add_sub_cancel]
            by_cases h : i = k
            · subst h; exact ⟨fun _ => by rw [hxx.out]; exact h0, fun h => absurd hkl h⟩
            · exact I.out i (by omega)
          subst h0
          clear hlast hkl I Hg
          go_wp2
          go_roundw
          case rel => exact ⟨k + 1, by omega, by go_num, by first | rfl | trivial, I2⟩
          case measure => simp [intOf]; omega
        · have hf : r = false := by
            rw [Bool.eq_false_iff]; intro h; have := (Hg.out.1 h).2.1; rw [← hkl, hxx.out] at this; exact h0 this
          subst hf
          have e2 : (x == 0) = false := by simp [h0]
          clear hlast hkl I Hg h0
          go_wp2
          go_ret
          exact ⟨rfl, Below.refl _ _⟩
      · have e1 : ((k : Int) == (n' : Int)) = false := by rw [hlast]; simp [hkl]
        by_cases h0 : 0 < x
        · have I2 : Hid (∀ i, i < k + 1 → (i = n' + 1 - 1 → l.getD i 0 = 0) ∧ (i ≠ n' + 1 - 1 → 0 < l.getD i 0)) := Lib.hid fun i hi => by
            rw [Nat.add_sub_cancel]
            by_cases h : i = k
            · subst h; exact ⟨fun h => absurd h hkl, fun _ => by rw [hxx.out]; exact h0⟩
            · exact I.out i (by omega)
          have e2 : (x == 0) = false := by simp; omega
          have e3 : ¬ x < 0 := by omega
          clear hlast hkl I Hg
          go_wp2
          go_roundw
          case rel => exact ⟨k + 1, by omega, by go_num, by first | rfl | trivial, I2⟩
          case measure => simp [intOf]; omega
        · have hf : r = false := by
            rw [Bool.eq_false_iff]; intro h; have := (Hg.out.1 h).2.2 k (by omega); rw [hxx.out] at this; exact h0 this
          subst hf
          by_cases h2 : x = 0
          · subst h2
            clear hlast hkl I Hg h0
            go_wp2
            go_ret
            exact ⟨rfl, Below.refl _ _⟩
          · have e2 : (x == 0) = false := by simp [h2]
            have e3 : x < 0 := by omega
            clear hlast hkl I Hg h0 h2
            go_wp2
            go_ret
            exact ⟨rfl, Below.refl _ _⟩
    · have hkn : k = n := by omega
      subst hkn
      have hrr : r = decide (0 < k) := by
        rw [Bool.eq_iff_iff, Hg.out, decide_eq_true_eq]
        constructor
        · rintro ⟨h, _⟩; omega
        · intro h
          exact ⟨by omega, (I.out (k - 1) (by omega)).1 rfl, fun i hi => (I.out i (by omega)).2 (by omega)⟩
      subst hrr
      clear Hg I Hr
      go_wp2
      go_ret
      exact ⟨rfl, Below.refl _ _⟩

end Go.Proofs.Ytnmhjhfdgfdooaa
