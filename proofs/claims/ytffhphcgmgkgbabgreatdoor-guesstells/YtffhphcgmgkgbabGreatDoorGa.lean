/- Plain mathematics of parts: N of D without a common divisor; both together, and the one of the other one. No program is named here. -/
import Derived.Test.YtffhphcgmgkgbabGreatDoorJg
namespace Go.Proofs.YtffhphcgmgkgbabGreatDoor
namespace Pt

/-- without a common divisor -/
def red (n d : Nat) : Nat × Nat := (n / Nat.gcd n d, d / Nat.gcd n d)
theorem red_mul (k n d : Nat) (h : 0 < k) : red (k * n) (k * d) = red n d := by
  unfold red
  rw [Nat.gcd_mul_left, Nat.mul_div_mul_left _ _ h, Nat.mul_div_mul_left _ _ h]
/-- what is as much is the same -/
theorem red_eq {n d n' d' : Nat} (hd : 0 < d) (hd' : 0 < d') (h : n * d' = n' * d) : red n d = red n' d' := by
  rw [← red_mul d' n d hd', ← red_mul d n' d' hd, Nat.mul_comm d' n, h, Nat.mul_comm n' d, Nat.mul_comm d' d]
theorem red_form (n d : Nat) (h : 0 < d) : ∃ g, 0 < g ∧ n = g * (red n d).1 ∧ d = g * (red n d).2 ∧ 0 < (red n d).2 := by
  have hg : 0 < Nat.gcd n d := Nat.gcd_pos_of_pos_right n h
  refine ⟨Nat.gcd n d, hg, (Nat.mul_div_cancel' (Nat.gcd_dvd_left n d)).symm, (Nat.mul_div_cancel' (Nat.gcd_dvd_right n d)).symm, ?_⟩
  exact Nat.div_pos (Nat.le_of_dvd h (Nat.gcd_dvd_right n d)) hg
theorem red_pos (n d : Nat) (h : 0 < d) : 0 < (red n d).2 := (red_form n d h).choose_spec.2.2.2
theorem red_le (n d : Nat) : (red n d).1 ≤ n ∧ (red n d).2 ≤ d := ⟨Nat.div_le_self _ _, Nat.div_le_self _ _⟩
theorem red_lt {n d : Nat} (hn : n ≤ d) : (red n d).1 ≤ (red n d).2 := Nat.div_le_div_right hn
theorem red_one {n d : Nat} (h : 0 < d) (hn : 0 < n) : 0 < (red n d).1 :=
  Nat.div_pos (Nat.le_of_dvd hn (Nat.gcd_dvd_left n d)) (Nat.gcd_pos_of_pos_right n h)
theorem red_zero {d : Nat} (h : 0 < d) : red 0 d = (0, 1) := by unfold red; rw [Nat.gcd_zero_left, Nat.zero_div, Nat.div_self h]
theorem red_self {d : Nat} (h : 0 < d) : red d d = (1, 1) := by unfold red; rw [Nat.gcd_self, Nat.div_self h]
theorem red_unit (d : Nat) : red 1 d = (1, d) := by unfold red; simp
/-- the cross of a part and its short form -/
theorem red_cross (n d : Nat) (h : 0 < d) : n * (red n d).2 = (red n d).1 * d := by
  obtain ⟨g, _, h1, h2, _⟩ := red_form n d h
  generalize (red n d).1 = a at *
  generalize (red n d).2 = b at *
  subst h1 h2
  ac_rfl

/-- both together; the one of the other one -/
def sumP (a b : Nat × Nat) : Nat × Nat := red (a.1 * b.2 + b.1 * a.2) (a.2 * b.2)
def timP (a b : Nat × Nat) : Nat × Nat := red (a.1 * b.1) (a.2 * b.2)
theorem sumP_red (a b : Nat × Nat) (ha : 0 < a.2) (hb : 0 < b.2) : sumP (red a.1 a.2) b = sumP a b := by
  unfold sumP
  have hc := red_cross a.1 a.2 ha
  have hp := red_pos a.1 a.2 ha
  generalize red a.1 a.2 = r at *
  refine red_eq (Nat.mul_pos hp hb) (Nat.mul_pos ha hb) ?_
  rw [Nat.add_mul, Nat.add_mul]
  congr 1
  · rw [show r.1 * b.2 * (a.2 * b.2) = (r.1 * a.2) * (b.2 * b.2) from by ac_rfl, ← hc]; ac_rfl
  · ac_rfl
theorem sumP_comm (a b : Nat × Nat) : sumP a b = sumP b a := by unfold sumP; rw [Nat.add_comm, Nat.mul_comm a.2]
theorem sumP_red2 (a b : Nat × Nat) (ha : 0 < a.2) (hb : 0 < b.2) : sumP a (red b.1 b.2) = sumP a b := by
  rw [sumP_comm, sumP_red b a hb ha, sumP_comm]
theorem timP_red2 (a b : Nat × Nat) (ha : 0 < a.2) (hb : 0 < b.2) : timP a (red b.1 b.2) = timP a b := by
  unfold timP
  have hc := red_cross b.1 b.2 hb
  have hp := red_pos b.1 b.2 hb
  generalize red b.1 b.2 = r at *
  refine red_eq (Nat.mul_pos ha hp) (Nat.mul_pos ha hb) ?_
  rw [show a.1 * r.1 * (a.2 * b.2) = (r.1 * b.2) * (a.1 * a.2) from by ac_rfl, ← hc]; ac_rfl
theorem timP_comm (a b : Nat × Nat) : timP a b = timP b a := by unfold timP; rw [Nat.mul_comm, Nat.mul_comm a.2]
theorem timP_red (a b : Nat × Nat) (ha : 0 < a.2) (hb : 0 < b.2) : timP (red a.1 a.2) b = timP a b := by
  rw [timP_comm, timP_red2 b a hb ha, timP_comm]
/-- by the least D that both have in common -/
theorem sumP_least (a b : Nat × Nat) (ha : 0 < a.2) : red (a.1 * (b.2 / Nat.gcd a.2 b.2) + b.1 * (a.2 / Nat.gcd a.2 b.2)) (a.2 * (b.2 / Nat.gcd a.2 b.2)) = sumP a b := by
  have hg : 0 < Nat.gcd a.2 b.2 := Nat.gcd_pos_of_pos_left _ ha
  have h1 : Nat.gcd a.2 b.2 * (a.2 / Nat.gcd a.2 b.2) = a.2 := Nat.mul_div_cancel' (Nat.gcd_dvd_left _ _)
  have h2 : Nat.gcd a.2 b.2 * (b.2 / Nat.gcd a.2 b.2) = b.2 := Nat.mul_div_cancel' (Nat.gcd_dvd_right _ _)
  generalize Nat.gcd a.2 b.2 = g at *
  rw [← red_mul g _ _ hg]
  unfold sumP
  generalize a.2 / g = x at *
  generalize b.2 / g = y at *
  congr 1
  · rw [Nat.mul_add, show g * (a.1 * y) = a.1 * (g * y) from by ac_rfl, show g * (b.1 * x) = b.1 * (g * x) from by ac_rfl, h1, h2]
  · rw [show g * (a.2 * y) = a.2 * (g * y) from by ac_rfl, h2]
/-- parts of one D -/
theorem sumP_same (n m d : Nat) (h : 0 < d) : sumP (red n d) (red m d) = red (n + m) d := by
  have h1 := sumP_red (n, d) (red m d) h (red_pos m d h)
  have h2 := sumP_red2 (n, d) (m, d) h h
  simp only at h1 h2
  rw [h1, h2]
  unfold sumP
  simp only
  rw [← Nat.add_mul, Nat.mul_comm (n + m) d, red_mul _ _ _ h]

/-- one sign more ahead: o of a, and t of a of what it was -/
def stp (o t a : Nat) (p : Nat × Nat) : Nat × Nat := (o * p.2 + t * p.1, a * p.2)
theorem stp_red (o t a : Nat) (p : Nat × Nat) (ha : 0 < a) (hp : 0 < p.2) : sumP (o, a) (timP (t, a) (red p.1 p.2)) = red (stp o t a p).1 (stp o t a p).2 := by
  rw [timP_red2 (t, a) p ha hp]
  have h1 := sumP_red2 (o, a) (t * p.1, a * p.2) ha (Nat.mul_pos ha hp)
  unfold timP
  simp only at h1 ⊢
  rw [h1]
  unfold sumP stp
  simp only
  rw [← red_mul a (o * p.2 + t * p.1) (a * p.2) ha, Nat.mul_add, show o * (a * p.2) = a * (o * p.2) from by ac_rfl, show t * p.1 * a = a * (t * p.1) from by ac_rfl]
/-- the same of short parts -/
theorem stp_red2 (o t a : Nat) (p : Nat × Nat) (ha : 0 < a) (hp : 0 < p.2) : sumP (red o a) (timP (red t a) (red p.1 p.2)) = red (stp o t a p).1 (stp o t a p).2 := by
  have h1 := timP_red (t, a) (red p.1 p.2) ha (red_pos _ _ hp)
  have h2 := sumP_red (o, a) (timP (t, a) (red p.1 p.2)) ha (red_pos _ _ (Nat.mul_pos ha (red_pos _ _ hp)))
  simp only at h1 h2
  rw [h1, h2, stp_red o t a p ha hp]

end Pt
end Go.Proofs.YtffhphcgmgkgbabGreatDoor
