/- What bits.findInPart and bits.Find answer. -/
import Derived.Test.YtgnakccbkglfpaaBm
import Derived.Deep.LoopGhost
namespace Go.Proofs.Ytgnakccbkglfpaa
open Go.RowKit

theorem popF_low (h r : Nat) (hh : h ≤ 64) : Bt.pop (r % 2 ^ h) = Bt.popF h r := by
  unfold Bt.pop
  rw [show 64 = h + (64 - h) from by omega, Bt.popF_add, Bt.popF_mod, Nat.div_eq_of_lt (Nat.mod_lt _ (Nat.two_pow_pos h)), Bt.popF_zero, Nat.add_zero]

theorem shr_nat (r h : Nat) : ((r : Int) / 2 ^ h) = ((r / 2 ^ h : Nat) : Int) := by simp

/-- what is known in the middle of the search in one number: h: half of what is still looked at (0: one bit is) -/
def wid (h : Nat) : Nat := if h = 0 then 1 else 2 * h
def FI (p k r q pl h : Nat) : Prop :=
  (h = 0 ∨ h = 1 ∨ h = 2 ∨ h = 4 ∨ h = 8 ∨ h = 16 ∨ h = 32) ∧ pl + wid h ≤ 64 ∧ q < Bt.popF (wid h) r ∧ p / 2 ^ pl = r ∧ k = q + Bt.popF pl p
theorem wid_half {h : Nat} (h0 : 0 < h) (hh : h = 0 ∨ h = 1 ∨ h = 2 ∨ h = 4 ∨ h = 8 ∨ h = 16 ∨ h = 32) : wid (h / 2) = h ∧ wid h = h + h ∧ (h / 2 = 0 ∨ h / 2 = 1 ∨ h / 2 = 2 ∨ h / 2 = 4 ∨ h / 2 = 8 ∨ h / 2 = 16 ∨ h / 2 = 32) := by
  unfold wid
  rcases hh with rfl | rfl | rfl | rfl | rfl | rfl | rfl <;> simp at h0 ⊢
theorem FI.start {p k : Nat} (hk : k < Bt.pop p) : FI p k p k 0 32 := ⟨by omega, by decide, hk, by simp, by simp [Bt.popF]⟩
theorem FI.up {p k r q pl h : Nat} (I : FI p k r q pl h) (h0 : 0 < h) (hq : Bt.popF h r ≤ q) : FI p k (r / 2 ^ h) (q - Bt.popF h r) (pl + h) (h / 2) := by
  obtain ⟨hh, hw, hlt, hr, hk⟩ := I
  obtain ⟨w1, w2, w3⟩ := wid_half h0 hh
  refine ⟨w3, by omega, ?_, ?_, ?_⟩
  · rw [w1]; rw [w2, Bt.popF_add] at hlt; omega
  · rw [Nat.pow_add, ← Nat.div_div_eq_div_mul, hr]
  · rw [Bt.popF_add, hr]; omega
theorem FI.down {p k r q pl h : Nat} (I : FI p k r q pl h) (h0 : 0 < h) (hq : q < Bt.popF h r) : FI p k r q pl (h / 2) := by
  obtain ⟨hh, hw, hlt, hr, hk⟩ := I
  obtain ⟨w1, w2, w3⟩ := wid_half h0 hh
  exact ⟨w3, by omega, by rw [w1]; exact hq, hr, hk⟩
theorem FI.last {p k r q pl : Nat} (I : FI p k r q pl 0) : pl < 64 ∧ p / 2 ^ pl % 2 = 1 ∧ Bt.popF pl p = k := by
  obtain ⟨hh, hw, hlt, hr, hk⟩ := I
  have e : wid 0 = 1 := rfl
  rw [e] at hw hlt
  simp only [Bt.popF] at hlt
  rw [hr]; omega
theorem FI.bound {p k r q pl h : Nat} (I : FI p k r q pl h) : h ≤ 32 ∧ pl + h ≤ 64 ∧ q ≤ 64 := by
  obtain ⟨hh, hw, hlt, hr, hk⟩ := I
  have hb := Bt.popF_le (wid h) r
  unfold wid at hw hb hlt
  refine ⟨by omega, ?_, ?_⟩
  · split at hw <;> omega
  · split at hw <;> simp_all <;> omega

set_option maxHeartbeats 1000000 in
theorem findInPart_any (p k : Nat) (w : World) (hp : p < 18446744073709551616) (hk : k < Bt.pop p) :
    Calls Try.prog 54 #[.int .u64 p, .int .i64 k] w fun e w' => ∃ j : Nat, e = .returned (.int .i64 j) ∧ j < 64 ∧ p / 2 ^ j % 2 = 1 ∧ Bt.popF j p = k ∧ w = w' := by
  have HS := FI.start hk
  clear hk
  go_enter Try.func54, Try.ntmps54
  go_wp2
  go_loop [0, 1, 5, 6] (fun s0 s1 s5 s6 => ∃ r q pl h : Nat, s0 = .int .u64 r ∧ s1 = .int .i64 q ∧ s5 = .int .i64 pl ∧ s6 = .int .i64 h ∧ r ≤ p ∧ FI p k r q pl h)
    (fun _ _ _ s6 => (intOf s6).toNat)
  case atStart => exact ⟨p, k, 0, 32, rfl, rfl, rfl, rfl, Nat.le_refl _, HS⟩
  case round =>
    obtain ⟨r, q, pl, h, rfl, rfl, rfl, rfl, hr, I⟩ := hrel
    obtain ⟨b1, b2, b3⟩ := I.bound
    clear HS
    by_cases h0 : 0 < h
    · go_wp2_with fail
      refine (lowest_any _ _ (by omega) (by omega)).mono ?_
      rintro e w' ⟨rfl, rfl⟩
      go_wp2_with fail
      rw [and_low _ _ (by omega) (by omega)]
      refine (ones64_any _ _ (Nat.lt_of_le_of_lt (Nat.mod_le _ _) (by omega))).mono ?_
      rintro e w' ⟨rfl, rfl⟩
      rw [popF_low _ _ (by omega)]
      by_cases hge : Bt.popF h r ≤ q
      · have I2 := I.up h0 hge
        have hle : r / 2 ^ h ≤ r := Nat.div_le_self _ _
        have HE := Lib.hid (show ((r : Int) / 2 ^ h) = ((r / 2 ^ h : Nat) : Int) from by simp)
        generalize hx : r / 2 ^ h = r2 at I2 hle HE
        clear hx
        generalize Bt.popF h r = t at I2 hge
        go_wp2
        go_round
        case rel => exact ⟨r2, q - t, pl + h, h / 2, by rw [HE.out], by go_num, by go_num, by go_num, by omega, I2⟩
        case measure => simp [intOf]; omega
      · have I2 := I.down h0 (by omega)
        generalize Bt.popF h r = t at I2 hge
        go_wp2
        go_round
        case rel => exact ⟨r, q, pl, h / 2, rfl, rfl, rfl, by go_num, hr, I2⟩
        case measure => simp [intOf]; omega
    · obtain rfl : h = 0 := by omega
      obtain ⟨e1, e2, e3⟩ := I.last
      have H2 := Lib.hid e2
      have H3 := Lib.hid e3
      clear e2 e3
      go_wp2
      go_ret
      exact ⟨pl, rfl, e1, H2.out, H3.out, rfl⟩

end Go.Proofs.Ytgnakccbkglfpaa
