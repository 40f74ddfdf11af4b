/- The walk of the law GuessWhole. -/
import Derived.Test.YtoejenejleocdabGreatDoorJz
namespace Go.Proofs.YtoejenejleocdabGreatDoor
open Go.RowKit
attribute [local irreducible] Bt.pop Bt.popF

namespace Pt
/-- the first i signs together; the next one -/
def tog (l t : List Int) (i : Nat) : Nat × Nat := red (sumTo i (fun x => (lv l x t).1)) (lv l 0 t).2
def nxt (l t : List Int) (i : Nat) : Nat × Nat := red (lv l (i + 1) t).1 (lv l 0 t).2
theorem sumTo_mono (g : Nat → Nat) (i n : Nat) (h : i ≤ n) : sumTo i g ≤ sumTo n g := by
  induction n with
  | zero => rw [show i = 0 from by omega]; exact Nat.le_refl _
  | succ n ih =>
    by_cases e : i = n + 1
    · subst e; exact Nat.le_refl _
    · rw [sumTo_succ]; have := ih (by omega); omega
theorem tog_zero {l : List Int} (h : En.Sg l) (hm : 0 < En.most l) (t : List Int) : tog l t 0 = (0, 1) := by unfold tog; rw [sumTo_zero]; exact red_zero (lv_pos h 0 hm t).2
theorem tog_succ {l : List Int} (h : En.Sg l) (hm : 0 < En.most l) (t : List Int) (i : Nat) : sumP (tog l t i) (nxt l t i) = tog l t (i + 1) := by
  unfold tog nxt
  rw [sumP_same _ _ _ (lv_pos h 0 hm t).2, sumTo_succ]
theorem tog_end {l : List Int} (h : En.Sg l) (hm : 0 < En.most l) (t : List Int) : tog l t (En.most l) = (1, 1) := by unfold tog; rw [lv_sum h t]; exact red_self (lv_pos h 0 hm t).2
theorem tog_ok {l : List Int} (h : En.Sg l) (hm : 0 < En.most l) (t : List Int) (i : Nat) (hi : i ≤ En.most l) : 1 ≤ (tog l t i).2 ∧ (tog l t i).1 ≤ (tog l t i).2 := by
  have hp := (lv_pos h 0 hm t).2
  refine ⟨red_pos _ _ hp, red_lt ?_⟩
  rw [← lv_sum h t]
  exact sumTo_mono _ _ _ hi
theorem nxt_ok {l : List Int} (h : En.Sg l) (hm : 0 < En.most l) (t : List Int) (i : Nat) (hi : i < En.most l) : 1 ≤ (nxt l t i).1 ∧ 1 ≤ (nxt l t i).2 ∧ (nxt l t i).1 ≤ (nxt l t i).2 := by
  have hp := (lv_pos h 0 hm t).2
  have h1 := (lv_pos h (i + 1) hm t).1
  have h2 := lv_le h t (i + 1) (by omega) (by omega)
  rw [lv_den l (i + 1) 0 t] at h2
  exact ⟨red_one hp h1, red_pos _ _ hp, red_lt h2⟩
theorem lik_nxt (l b : List Int) (i : Nat) (hi : i < En.most l) : lik l b ((i + 1 : Nat) : Int) = nxt l (last2 b) i := by
  rw [lik_yes l b (i + 1) (by omega) (by omega), lv_den l (i + 1) 0]
  rfl
theorem add_ok (a b : Nat × Nat) (h1 : a.1 ≤ a.2) (h2 : b.1 ≤ b.2) (h3 : a.2 ≤ 1073741824) (h4 : b.2 ≤ 1073741824) : a.1 * b.2 + b.1 * a.2 < 9223372036854775808 ∧ a.2 * b.2 < 9223372036854775808 := by
  have k1 : a.1 * b.2 ≤ 1073741824 * 1073741824 := Nat.mul_le_mul (by omega) h4
  have k2 : b.1 * a.2 ≤ 1073741824 * 1073741824 := Nat.mul_le_mul (by omega) h3
  have k3 : a.2 * b.2 ≤ 1073741824 * 1073741824 := Nat.mul_le_mul h3 h4
  omega
end Pt

/-- the parts, told otherwise -/
theorem ptF_congr {W : World} {g n : Nat} {q q' : Nat → Nat × Nat} {k : Nat} (h : W.rowIs g 24 (n * 2) (ptF q k)) (e : ∀ i, i < n → q i = q' i) : W.rowIs g 24 (n * 2) (ptF q' k) :=
  h.congr (fun i hi => by unfold ptF; rw [e (i / 2) (by omega)])

end Go.Proofs.YtoejenejleocdabGreatDoor
