/- The reference's Fits, CountIn and KindsIn. -/
import Derived.Test.YtgnakccbkglfpaaWu
namespace Go.Proofs.Ytgnakccbkglfpaa
open Go.RowKit

set_option maxHeartbeats 1000000 in
theorem fits_low (A : Option Addr) (n c : Nat) (f : Nat → Int) (d : Int) (w : World) (hr : Row w w.heap.size A n (fun k => .int .i64 (f k))) (hn : n < 4611686018427387904) (h1 : d ≤ 0) :
    Calls Try.prog 34 #[.slice A n c, .int .i64 d] w fun e w' => e = .returned (.bool (!anyQ (fun k => outQ 1 (f k)) n && deepOk d)) ∧ w = w' := by
  have HT := Lib.hid (fun k hk hq => anyQ_true (fun k => outQ 1 (f k)) n k hk hq)
  have HF := Lib.hid (anyQ_false (fun k => outQ 1 (f k)) n)
  have HD := Lib.hid (show deepOk d = (decide (1 ≤ d) && decide (d ≤ 16)) by unfold deepOk; simp)
  generalize anyQ (fun k => outQ 1 (f k)) n = r at *
  have g1 : d < 40 := by omega
  have g2 : ¬ (0 : Int) < d := by omega
  go_enter Try.func34, Try.ntmps34
  go_wp2
  go_loopw [9] (fun s wr => ∃ k : Nat, k ≤ n ∧ s = .int .i64 k ∧ wr = w ∧ Hid (∀ i, i < k → outQ 1 (f i) = false)) (fun s _ => n - (intOf s).toNat)
  case atStart => exact ⟨0, Nat.zero_le _, rfl, rfl, (fun i hi => absurd hi (by omega) : ∀ i, i < 0 → outQ 1 (f i) = false)⟩
  case round =>
    obtain ⟨k, hk, rfl, rfl, I⟩ := hrel
    by_cases hlt : k < n
    · obtain ⟨x, o, rfl, hx, hc⟩ := hr (by omega)
      have hc1 : wr.cell? ⟨x, o + k, none⟩ = some (.int .i64 (f k)) := hc k hlt
      have hlz : (k : Int) < (n : Int) := by omega
      have HE : Hid (outQ 1 (f k) = true → r = true) := Lib.hid (HT.out k hlt)
      have I2 : Hid (outQ 1 (f k) = false → ∀ i, i < k + 1 → outQ 1 (f i) = false) := Lib.hid fun h i hi => by
        rcases Nat.lt_succ_iff_lt_or_eq.1 hi with h' | h'
        · exact I.out i h'
        · rw [h']; exact h
      clear hc hr I HT HF
      generalize f k = y at *
      by_cases h0 : y < 0
      · have HR := Lib.hid (HE.out (by unfold outQ; simp [h0]))
        clear HE I2
        go_wp2
        go_ret
        exact ⟨by rw [HR.out]; rfl, rfl⟩
      · by_cases h1 : 1 ≤ y
        · have HR := Lib.hid (HE.out (by unfold outQ; simp [h1]))
          clear HE I2
          go_wp2
          all_goals
            go_ret
            exact ⟨by rw [HR.out]; rfl, rfl⟩
        · have I3 := Lib.hid (I2.out (by unfold outQ; simp; omega))
          clear HE I2
          go_wp2
          go_roundw
          case rel => exact ⟨k + 1, by omega, by go_num, by first | rfl | trivial, I3⟩
          case measure => simp [intOf]; omega
    · have hkn : k = n := by omega
      subst hkn
      have HR := Lib.hid (HF.out I.out)
      clear I HF HT
      have HQ := Lib.hid (show decide (1 ≤ d) = false by simp; omega)
      have q1 : ¬ (1 : Int) ≤ d := by omega
      go_wp2
      go_ret
      exact ⟨by rw [HR.out, HD.out, HQ.out]; rfl, rfl⟩
set_option maxHeartbeats 1000000 in
theorem fits_high (A : Option Addr) (n c : Nat) (f : Nat → Int) (d : Int) (w : World) (hr : Row w w.heap.size A n (fun k => .int .i64 (f k))) (hn : n < 4611686018427387904) (h1 : 40 < d) :
    Calls Try.prog 34 #[.slice A n c, .int .i64 d] w fun e w' => e = .returned (.bool (!anyQ (fun k => outQ 1099511627776 (f k)) n && deepOk d)) ∧ w = w' := by
  have HT := Lib.hid (fun k hk hq => anyQ_true (fun k => outQ 1099511627776 (f k)) n k hk hq)
  have HF := Lib.hid (anyQ_false (fun k => outQ 1099511627776 (f k)) n)
  have HD := Lib.hid (show deepOk d = (decide (1 ≤ d) && decide (d ≤ 16)) by unfold deepOk; simp)
  generalize anyQ (fun k => outQ 1099511627776 (f k)) n = r at *
  have g1 : ¬ d < 40 := by omega
  go_enter Try.func34, Try.ntmps34
  go_wp2
  go_loopw [9] (fun s wr => ∃ k : Nat, k ≤ n ∧ s = .int .i64 k ∧ wr = w ∧ Hid (∀ i, i < k → outQ 1099511627776 (f i) = false)) (fun s _ => n - (intOf s).toNat)
  case atStart => exact ⟨0, Nat.zero_le _, rfl, rfl, (fun i hi => absurd hi (by omega) : ∀ i, i < 0 → outQ 1099511627776 (f i) = false)⟩
  case round =>
    obtain ⟨k, hk, rfl, rfl, I⟩ := hrel
    by_cases hlt : k < n
    · obtain ⟨x, o, rfl, hx, hc⟩ := hr (by omega)
      have hc1 : wr.cell? ⟨x, o + k, none⟩ = some (.int .i64 (f k)) := hc k hlt
      have hlz : (k : Int) < (n : Int) := by omega
      have HE : Hid (outQ 1099511627776 (f k) = true → r = true) := Lib.hid (HT.out k hlt)
      have I2 : Hid (outQ 1099511627776 (f k) = false → ∀ i, i < k + 1 → outQ 1099511627776 (f i) = false) := Lib.hid fun h i hi => by
        rcases Nat.lt_succ_iff_lt_or_eq.1 hi with h' | h'
        · exact I.out i h'
        · rw [h']; exact h
      clear hc hr I HT HF
      generalize f k = y at *
      by_cases h0 : y < 0
      · have HR := Lib.hid (HE.out (by unfold outQ; simp [h0]))
        clear HE I2
        go_wp2
        go_ret
        exact ⟨by rw [HR.out]; rfl, rfl⟩
      · by_cases h1 : 1099511627776 ≤ y
        · have HR := Lib.hid (HE.out (by unfold outQ; simp [h1]))
          clear HE I2
          go_wp2
          all_goals
            go_ret
            exact ⟨by rw [HR.out]; rfl, rfl⟩
        · have I3 := Lib.hid (I2.out (by unfold outQ; simp; omega))
          clear HE I2
          go_wp2
          go_roundw
          case rel => exact ⟨k + 1, by omega, by go_num, by first | rfl | trivial, I3⟩
          case measure => simp [intOf]; omega
    · have hkn : k = n := by omega
      subst hkn
      have HR := Lib.hid (HF.out I.out)
      clear I HF HT
      have HQ := Lib.hid (show decide (1 ≤ d) = true by simp; omega)
      have q1 : (1 : Int) ≤ d := by omega
      go_wp2
      go_ret
      exact ⟨by rw [HR.out, HD.out, HQ.out]; rfl, rfl⟩
set_option maxHeartbeats 1000000 in
theorem fits_mid (A : Option Addr) (n c : Nat) (f : Nat → Int) (m : Nat) (w : World) (hr : Row w w.heap.size A n (fun k => .int .i64 (f k))) (hn : n < 4611686018427387904) (h1 : 1 ≤ m) (h2 : m ≤ 40) :
    Calls Try.prog 34 #[.slice A n c, .int .i64 (m : Int)] w fun e w' => e = .returned (.bool (!anyQ (fun k => outQ (wrap64 (2 ^ m)) (f k)) n && deepOk (m : Int))) ∧ w = w' := by
  have HT := Lib.hid (fun k hk hq => anyQ_true (fun k => outQ (wrap64 (2 ^ m)) (f k)) n k hk hq)
  have HF := Lib.hid (anyQ_false (fun k => outQ (wrap64 (2 ^ m)) (f k)) n)
  have HD := Lib.hid (show deepOk (m : Int) = (decide (1 ≤ (m : Int)) && decide ((m : Int) ≤ 16)) by unfold deepOk; simp)
  generalize anyQ (fun k => outQ (wrap64 (2 ^ m)) (f k)) n = r at *
  have g1 : ¬ (40 : Int) < (m : Int) := by omega
  have g2 : (0 : Int) < (m : Int) := by omega
  go_enter Try.func34, Try.ntmps34
  go_wp2
  go_loopw [9] (fun s wr => ∃ k : Nat, k ≤ n ∧ s = .int .i64 k ∧ wr = w ∧ Hid (∀ i, i < k → outQ (wrap64 (2 ^ m)) (f i) = false)) (fun s _ => n - (intOf s).toNat)
  case atStart => exact ⟨0, Nat.zero_le _, rfl, rfl, (fun i hi => absurd hi (by omega) : ∀ i, i < 0 → outQ (wrap64 (2 ^ m)) (f i) = false)⟩
  case round =>
    obtain ⟨k, hk, rfl, rfl, I⟩ := hrel
    by_cases hlt : k < n
    · obtain ⟨x, o, rfl, hx, hc⟩ := hr (by omega)
      have hc1 : wr.cell? ⟨x, o + k, none⟩ = some (.int .i64 (f k)) := hc k hlt
      have hlz : (k : Int) < (n : Int) := by omega
      have HE : Hid (outQ (wrap64 (2 ^ m)) (f k) = true → r = true) := Lib.hid (HT.out k hlt)
      have I2 : Hid (outQ (wrap64 (2 ^ m)) (f k) = false → ∀ i, i < k + 1 → outQ (wrap64 (2 ^ m)) (f i) = false) := Lib.hid fun h i hi => by
        rcases Nat.lt_succ_iff_lt_or_eq.1 hi with h' | h'
        · exact I.out i h'
        · rw [h']; exact h
      clear hc hr I HT HF
      generalize f k = y at *
      by_cases h0 : y < 0
      · have HR := Lib.hid (HE.out (by unfold outQ; simp [h0]))
        clear HE I2
        go_wp2
        go_ret
        exact ⟨by rw [HR.out]; rfl, rfl⟩
      · by_cases h1 : (wrap64 (2 ^ m)) ≤ y
        · have HR := Lib.hid (HE.out (by unfold outQ; simp [h1]))
          clear HE I2
          go_wp2
          all_goals
            go_ret
            exact ⟨by rw [HR.out]; rfl, rfl⟩
        · have I3 := Lib.hid (I2.out (by unfold outQ; simp; omega))
          clear HE I2
          go_wp2
          go_roundw
          case rel => exact ⟨k + 1, by omega, by go_num, by first | rfl | trivial, I3⟩
          case measure => simp [intOf]; omega
    · have hkn : k = n := by omega
      subst hkn
      have HR := Lib.hid (HF.out I.out)
      clear I HF HT
      have HQ := Lib.hid (show decide (1 ≤ (m : Int)) = true by simp; omega)
      have q1 : (1 : Int) ≤ (m : Int) := by omega
      go_wp2
      go_ret
      exact ⟨by rw [HR.out, HD.out, HQ.out]; rfl, rfl⟩

/-- do all numbers fit? -/
def fitsI (l : List Int) (d : Int) : Bool := deepOk d && insB (2 ^ d.toNat) l

theorem fits_any (A : Option Addr) (c : Nat) (l : List Int) (d : Int) (w : World) (hr : IRow w w.heap.size A l) (hn : l.length < 4611686018427387904) :
    Calls Try.prog 34 #[.slice A l.length c, .int .i64 d] w fun e w' => e = .returned (.bool (fitsI l d)) ∧ w = w' := by
  by_cases h0 : d ≤ 0
  · refine (fits_low A l.length c (fun k => l.getD k 0) d w hr hn h0).mono fun e w' hh => ⟨?_, hh.2⟩
    rw [hh.1]; unfold fitsI; rw [deepOk_no d (by omega)]; simp
  · by_cases h1 : d ≤ 40
    · obtain ⟨m, rfl⟩ := Int.eq_ofNat_of_zero_le (show 0 ≤ d by omega)
      refine (fits_mid A l.length c (fun k => l.getD k 0) m w hr hn (by omega) (by omega)).mono fun e w' hh => ⟨?_, hh.2⟩
      rw [hh.1]
      unfold fitsI insB
      by_cases h2 : m ≤ 16
      · rw [wrap_pow m h2, Int.toNat_natCast, Bool.and_comm]
      · rw [deepOk_no (m : Int) (by omega)]; simp
    · refine (fits_high A l.length c (fun k => l.getD k 0) d w hr hn (by omega)).mono fun e w' hh => ⟨?_, hh.2⟩
      rw [hh.1]; unfold fitsI; rw [deepOk_no d (by omega)]; simp

/-- how many there are among the first k -/
def cuI (l : List Nat) (n i : Int) (k : Nat) : Nat := if 0 ≤ n then (l.take (min k (Wv.cl l.length i))).count n.toNat else 0
theorem cuI_zero (l : List Nat) (n i : Int) : cuI l n i 0 = 0 := by unfold cuI; split <;> simp
theorem cuI_end (l : List Nat) (n i : Int) : ((cuI l n i l.length : Nat) : Int) = countI l n i := by
  unfold cuI countI
  rw [Nat.min_eq_right (Wv.cl_le _ _)]
  split <;> rfl
theorem cuI_succ (l : List Nat) (n i : Int) (k : Nat) (hk : k < l.length) : cuI l n i (k + 1) = cuI l n i k + if (k : Int) < i ∧ ((l.getD k 0 : Nat) : Int) = n then 1 else 0 := by
  unfold cuI
  by_cases hn : 0 ≤ n
  · rw [if_pos hn, if_pos hn]
    by_cases hi : (k : Int) < i
    · have e1 : min (k + 1) (Wv.cl l.length i) = k + 1 := by unfold Wv.cl; omega
      have e2 : min k (Wv.cl l.length i) = k := by unfold Wv.cl; omega
      rw [e1, e2, Wv.count_take_succ l k _ hk]
      congr 1
      by_cases hx : l.getD k 0 = n.toNat
      · rw [if_pos hx, if_pos ⟨hi, by omega⟩]
      · rw [if_neg hx, if_neg (fun h => hx (by omega))]
    · have e1 : min (k + 1) (Wv.cl l.length i) = min k (Wv.cl l.length i) := by unfold Wv.cl; omega
      rw [e1, if_neg (fun h => hi h.1)]; rfl
  · rw [if_neg hn, if_neg hn, if_neg (fun h => by have := h.2; omega)]
theorem cuI_le (l : List Nat) (n i : Int) (k : Nat) : cuI l n i k ≤ l.length := by
  unfold cuI
  split
  · exact Wv.count_take_le l _ _
  · omega

set_option maxHeartbeats 1000000 in
theorem countIn_any (A : Option Addr) (c : Nat) (l : List Nat) (n i : Int) (w : World) (hr : NRow w w.heap.size A l) (hl : l.length ≤ 17592186044416) :
    Calls Try.prog 43 #[.slice A l.length c, .int .i64 n, .int .i64 i] w fun e w' => e = .returned (.int .i64 (countI l n i)) ∧ w = w' := by
  have Q0 := Lib.hid (cuI_zero l n i)
  have Q1 := Lib.hid (cuI_succ l n i)
  have Q2 := Lib.hid (cuI_end l n i)
  have Q3 := Lib.hid (cuI_le l n i)
  have Hr : Row w w.heap.size A l.length (fun k => .int .i64 ((l.getD k 0 : Nat) : Int)) := hr
  clear hr
  generalize cuI l n i = F at *
  generalize countI l n i = R at *
  generalize l.length = N at *
  go_enter Try.func43, Try.ntmps43
  go_wp2
  go_loopw [7, 12] (fun s7 s wr => ∃ k : Nat, k ≤ N ∧ s = .int .i64 k ∧ s7 = .int .i64 (F k : Nat) ∧ wr = w) (fun _ s _ => N - (intOf s).toNat)
  case atStart => exact ⟨0, Nat.zero_le _, rfl, by rw [Q0.out]; rfl, rfl⟩
  case round =>
    obtain ⟨k, hk, rfl, rfl, rfl⟩ := hrel
    by_cases hlt : k < N
    · obtain ⟨x, o, rfl, hx, hc⟩ := Hr (by omega)
      have hc1 : wr.cell? ⟨x, o + k, none⟩ = some (.int .i64 ((l.getD k 0 : Nat) : Int)) := hc k hlt
      have hlz : (k : Int) < (N : Int) := by omega
      have E1 := Lib.hid (Q1.out k hlt)
      have q3 := Q3.out k
      clear hc Hr Q0 Q1 Q2 Q3
      generalize l.getD k 0 = y at *
      generalize hF1 : F (k + 1) = F1 at *
      have HF1 := Lib.hid hF1
      clear hF1
      generalize F k = F0 at *
      by_cases hki : (k : Int) < i
      · by_cases hy : (y : Int) = n
        · have E2 := E1.out
          rw [if_pos ⟨hki, hy⟩] at E2
          have E3 := Lib.hid E2
          have t1 : ((y : Int) == n) = true := by simp [hy]
          clear E1 E2 hy
          go_wp2
          go_roundw
          case rel => exact ⟨k + 1, by omega, by go_num, by rw [HF1.out, E3.out]; go_num, by first | rfl | trivial⟩
          case measure => simp [intOf]; omega
        · have E2 := E1.out
          rw [if_neg (fun h => hy h.2)] at E2
          have E3 := Lib.hid E2
          have t1 : ((y : Int) == n) = false := by simp [hy]
          clear E1 E2 hy
          go_wp2
          go_roundw
          case rel => exact ⟨k + 1, by omega, by go_num, by rw [HF1.out, E3.out]; rfl, by first | rfl | trivial⟩
          case measure => simp [intOf]; omega
      · have E2 := E1.out
        rw [if_neg (fun h => hki h.1)] at E2
        have E3 := Lib.hid E2
        clear E1 E2
        go_wp2
        go_roundw
        case rel => exact ⟨k + 1, by omega, by go_num, by rw [HF1.out, E3.out]; rfl, by first | rfl | trivial⟩
        case measure => simp [intOf]; omega
    · have hkn : k = N := by omega
      subst hkn
      have HE := Lib.hid Q2.out
      clear Q0 Q1 Q2 Q3
      rw [HE.out]
      go_wp2
      go_ret
      exact ⟨rfl, rfl⟩

end Go.Proofs.Ytgnakccbkglfpaa
