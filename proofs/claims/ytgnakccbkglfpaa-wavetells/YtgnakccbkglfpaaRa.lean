/- What the reference's OnesOf, PlaceOf and SameBits answer. -/
import Derived.Test.YtgnakccbkglfpaaBx
import Derived.Test.YtgnakccbkglfpaaRs
namespace Go.Proofs.Ytgnakccbkglfpaa
open Go.RowKit
attribute [local irreducible] Bt.pop Bt.popF

theorem ones_step (l : List Bool) (k : Nat) (hk : k < l.length) : Bt.ones (l.take (k + 1)) = Bt.ones (l.take k) + (l.getD k false).toNat := by
  have e2 : l.take (k + 1) = l.take k ++ [l.getD k false] := by
    rw [List.take_succ_eq_append_getElem hk, List.getD_eq_getElem?_getD, List.getElem?_eq_getElem hk]; rfl
  rw [e2, Bt.ones_append, Bt.ones_cons, Bt.ones_nil]; omega
/-- ones at places below i, of the first k -/
def oK (l : List Bool) (i : Int) (k : Nat) : Nat := Bt.ones (l.take (min k i.toNat))
theorem oK_le (l : List Bool) (i : Int) (k : Nat) : oK l i k ≤ k := by
  have h := Bt.ones_le (l.take (min k i.toNat))
  rw [List.length_take] at h
  unfold oK; omega
theorem oK_zero (l : List Bool) (i : Int) : oK l i 0 = 0 := by unfold oK; rw [Nat.zero_min]; rfl
theorem oK_yes (l : List Bool) (i : Int) (k : Nat) (hk : k < l.length) (hx : l.getD k false = true) (hi : (k : Int) < i) : oK l i (k + 1) = oK l i k + 1 := by
  unfold oK
  rw [Nat.min_eq_left (by omega), Nat.min_eq_left (by omega), ones_step l k hk, hx]; rfl
theorem oK_no (l : List Bool) (i : Int) (k : Nat) (hk : k < l.length) (h : l.getD k false = false ∨ ¬ (k : Int) < i) : oK l i (k + 1) = oK l i k := by
  unfold oK
  by_cases hi : (k : Int) < i
  · rw [Nat.min_eq_left (by omega), Nat.min_eq_left (by omega), ones_step l k hk]
    rcases h with h | h
    · rw [h]; rfl
    · exact absurd hi h
  · rw [show min (k + 1) i.toNat = min k i.toNat from by omega]
theorem oK_all (l : List Bool) (i : Int) : (oK l i l.length : Int) = oI l i := by
  unfold oK oI
  have : l.take (min l.length i.toNat) = l.take i.toNat := by rw [List.take_eq_take_iff]; omega
  rw [this]

set_option maxHeartbeats 1000000 in
theorem onesOf_any (A : Option Addr) (n c : Nat) (l : List Bool) (i : Int) (w : World) (hA : Row w w.heap.size A n (fun k => .bool (l.getD k false))) (hl : n = l.length) (hn : n ≤ 140737488355328) :
    Calls Try.prog 17 #[.slice A n c, .int .i64 i] w fun e w' => e = .returned (.int .i64 (oI l i)) ∧ w = w' := by
  have Hl := Lib.hid hl
  clear hl
  go_enter Try.func17, Try.ntmps17
  go_wp2
  go_loop [5, 10] (fun s5 s10 => ∃ k : Nat, k ≤ n ∧ s10 = .int .i64 k ∧ s5 = .int .i64 (oK l i k)) (fun _ s => n - (intOf s).toNat)
  case atStart => exact ⟨0, Nat.zero_le _, rfl, by rw [oK_zero]; rfl⟩
  case round =>
    obtain ⟨k, hk, rfl, rfl⟩ := hrel
    have hb := oK_le l i k
    by_cases hlt : k < n
    · obtain ⟨b, o, rfl, hbb, hc⟩ := hA (by omega)
      have hc1 := hc k hlt
      simp only at hc1
      clear hc
      cases hx : l.getD k false
      · rw [hx] at hc1
        have H := Lib.hid (oK_no l i k (by have := Hl.out; omega) (.inl hx))
        clear hx
        go_wp2
        go_round
        case rel => exact ⟨k + 1, by omega, by go_num, by rw [H.out]⟩
        case measure => simp [intOf]; omega
      · rw [hx] at hc1
        by_cases hi : (k : Int) < i
        · have H := Lib.hid (oK_yes l i k (by have := Hl.out; omega) hx hi)
          clear hx
          go_wp2
          go_round
          case rel => exact ⟨k + 1, by omega, by go_num, by rw [H.out]; go_num⟩
          case measure => simp [intOf]; omega
        · have H := Lib.hid (oK_no l i k (by have := Hl.out; omega) (.inr hi))
          clear hx
          go_wp2
          go_round
          case rel => exact ⟨k + 1, by omega, by go_num, by rw [H.out]⟩
          case measure => simp [intOf]; omega
    · obtain rfl : k = n := by omega
      have H := Lib.hid (oK_all l i)
      go_wp2
      go_ret
      exact ⟨ret_int (by rw [← H.out, Hl.out]), rfl⟩

theorem FindIs.one (l : List Bool) (k v v' : Int) (h : FindIs l k v) (h' : FindIs l k v') : v = v' := by
  have key : ∀ i j : Nat, i < j → l.getD i false = true → Bt.ones (l.take i) + 1 ≤ Bt.ones (l.take j) := by
    intro i j hij hx
    have hi : i < l.length := by
      rcases Nat.lt_or_ge i l.length with h1 | h1
      · exact h1
      · rw [List.getD_eq_getElem?_getD, List.getElem?_eq_none h1] at hx; cases hx
    have e1 := ones_step l i hi
    rw [hx] at e1
    have e2 : l.take j = l.take (i + 1) ++ (l.drop (i + 1)).take (j - (i + 1)) := by rw [← List.take_add]; congr 1; omega
    rw [e2, Bt.ones_append, e1]
    show _ + 1 ≤ _ + 1 + _
    omega
  have top : ∀ i : Nat, l.getD i false = true → Bt.ones (l.take i) + 1 ≤ Bt.ones l := by
    intro i hx
    have hi : i < l.length := by
      rcases Nat.lt_or_ge i l.length with h1 | h1
      · exact h1
      · rw [List.getD_eq_getElem?_getD, List.getElem?_eq_none h1] at hx; cases hx
    have := key i l.length hi hx
    rwa [List.take_length] at this
  rcases h with ⟨rfl, h⟩ | ⟨i, rfl, h1, h2⟩ <;> rcases h' with ⟨rfl, h'⟩ | ⟨j, rfl, h3, h4⟩
  · rfl
  · have := top j h3; omega
  · have := top i h1; omega
  · rcases Nat.lt_trichotomy i j with hh | hh | hh
    · have := key i j hh h1; omega
    · rw [hh]
    · have := key j i hh h3; omega

set_option maxHeartbeats 1000000 in
theorem placeOf_any (A : Option Addr) (n c : Nat) (l : List Bool) (K : Nat) (w : World) (hA : Row w w.heap.size A n (fun k => .bool (l.getD k false))) (hl : n = l.length) (hn : n ≤ 140737488355328) (hK : K ≤ 9223372036854775807) :
    Calls Try.prog 12 #[.slice A n c, .int .i64 K] w fun e w' => ∃ v, e = .returned (.int .i64 v) ∧ FindIs l K v ∧ w = w' := by
  have Hl := Lib.hid hl
  clear hl
  go_enter Try.func12, Try.ntmps12
  go_wp2
  go_loop [1, 9] (fun s1 s9 => ∃ j r : Nat, j ≤ n ∧ s9 = .int .i64 j ∧ s1 = .int .i64 r ∧ r ≤ 9223372036854775807 ∧ Hid (r + Bt.ones (l.take j) = K)) (fun _ s => n - (intOf s).toNat)
  case atStart => exact ⟨0, K, Nat.zero_le _, rfl, rfl, hK, (by rw [List.take_zero]; rfl : K + Bt.ones (l.take 0) = K)⟩
  case round =>
    obtain ⟨j, r, hj, rfl, rfl, hr, I⟩ := hrel
    by_cases hlt : j < n
    · obtain ⟨b, o, rfl, hbb, hc⟩ := hA (by omega)
      have hc1 := hc j hlt
      simp only at hc1
      clear hc
      have hs := ones_step l j (by have := Hl.out; omega)
      cases hx : l.getD j false
      · rw [hx] at hc1 hs
        have I2 : Hid (r + Bt.ones (l.take (j + 1)) = K) := by show _ = _; rw [hs]; exact I.out
        clear hx hs
        go_wp2
        go_round
        case rel => exact ⟨j + 1, r, by omega, by go_num, rfl, hr, I2⟩
        case measure => simp [intOf]; omega
      · rw [hx] at hc1 hs
        by_cases hz : r = 0
        · subst hz
          have HV : FindIs l K (j : Int) := .inr ⟨j, rfl, hx, by have := I.out; omega⟩
          clear hx hs
          go_wp2
          go_ret
          exact ⟨j, rfl, HV, rfl⟩
        · have I2 : Hid (r - 1 + Bt.ones (l.take (j + 1)) = K) := by
            show _ = _
            rw [hs]
            have := I.out
            show r - 1 + (_ + 1) = K
            omega
          have hz2 : ((r : Int) == 0) = false := by simp; omega
          have hr1 : 1 ≤ r := by omega
          clear hx hs hz
          go_wp2
          go_round
          case rel => exact ⟨j + 1, r - 1, by omega, by go_num, by go_num, by omega, I2⟩
          case measure => simp [intOf]; omega
    · obtain rfl : j = n := by omega
      have HV : FindIs l K (-1) := .inl ⟨rfl, .inr (by have := I.out; rw [Hl.out, List.take_length] at this; omega)⟩
      clear I
      go_wp2
      go_ret
      exact ⟨-1, rfl, HV, rfl⟩

end Go.Proofs.Ytgnakccbkglfpaa
