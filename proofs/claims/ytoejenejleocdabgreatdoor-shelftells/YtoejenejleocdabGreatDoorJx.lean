import Derived.Test.YtoejenejleocdabGreatDoorJg
/- Plain mathematics of parts: N of D without a common divisor; both together, and the one of the other one. No program is named here. -/
namespace Go.Proofs.YtoejenejleocdabGreatDoor
namespace Pt

/-- without a common divisor -/
def red (n d : Nat) : Nat × Nat := (n / Nat.gcd n d, d / Nat.gcd n d)
theorem red_mul (k n d : Nat) (h : 0 < k) : red (k * n) (k * d) = red n d := by
  unfold red
  rw [Nat.gcd_mul_left, Nat.mul_div_mul_left _ _ h, Nat.mul_div_mul_left _ _ h]
/-- what is as much is the same -/
theorem red_eq {n d n' d' : Nat} (hd : 0 < d) (hd' : 0 < d') (h : n * d' = n' * d) : red n d = red n' d' := by
  rw [← red_mul d' n d hd', ← red_mul d n' d' hd, Nat.mul_comm d' n, h, Nat.mul_comm n' d, Nat.mul_comm d' d]
theorem red_form (n d : Nat) (h : 0 < d) : ∃ g, 0 < g ∧ n = g * (red n d).1 ∧ d = g * (red n d).2 ∧ 0 < (red n d).2 := by
  have hg : 0 < Nat.gcd n d := Nat.gcd_pos_of_pos_right n h
  refine ⟨Nat.gcd n d, hg, (Nat.mul_div_cancel' (Nat.gcd_dvd_left n d)).symm, (Nat.mul_div_cancel' (Nat.gcd_dvd_right n d)).symm, ?_⟩
  exact Nat.div_pos (Nat.le_of_dvd h (Nat.gcd_dvd_right n d)) hg
theorem red_pos (n d : Nat) (h : 0 < d) : 0 < (red n d).2 := (red_form n d h).choose_spec.2.2.2
theorem red_le (n d : Nat) : (red n d).1 ≤ n ∧ (red n d).2 ≤ d := ⟨Nat.div_le_self _ _, Nat.div_le_self _ _⟩
theorem red_zero {d : Nat} (h : 0 < d) : red 0 d = (0, 1) := by unfold red; rw [Nat.gcd_zero_left, Nat.zero_div, Nat.div_self h]
theorem red_unit (d : Nat) : red 1 d = (1, d) := by unfold red; simp
/-- the cross of a part and its short form -/
theorem red_cross (n d : Nat) (h : 0 < d) : n * (red n d).2 = (red n d).1 * d := by
  obtain ⟨g, _, h1, h2, _⟩ := red_form n d h
  generalize (red n d).1 = a at *
  generalize (red n d).2 = b at *
  subst h1 h2
  ac_rfl

/-- both together; the one of the other one -/
def sumP (a b : Nat × Nat) : Nat × Nat := red (a.1 * b.2 + b.1 * a.2) (a.2 * b.2)
def timP (a b : Nat × Nat) : Nat × Nat := red (a.1 * b.1) (a.2 * b.2)
theorem sumP_red (a b : Nat × Nat) (ha : 0 < a.2) (hb : 0 < b.2) : sumP (red a.1 a.2) b = sumP a b := by
  unfold sumP
  have hc := red_cross a.1 a.2 ha
  have hp := red_pos a.1 a.2 ha
  generalize red a.1 a.2 = r at *
  refine red_eq (Nat.mul_pos hp hb) (Nat.mul_pos ha hb) ?_
  rw [Nat.add_mul, Nat.add_mul]
  congr 1
  · rw [show r.1 * b.2 * (a.2 * b.2) = (r.1 * a.2) * (b.2 * b.2) from by ac_rfl, ← hc]; ac_rfl
  · ac_rfl
theorem sumP_comm (a b : Nat × Nat) : sumP a b = sumP b a := by unfold sumP; rw [Nat.add_comm, Nat.mul_comm a.2]
theorem sumP_red2 (a b : Nat × Nat) (ha : 0 < a.2) (hb : 0 < b.2) : sumP a (red b.1 b.2) = sumP a b := by
  rw [sumP_comm, sumP_red b a hb ha, sumP_comm]
theorem timP_red2 (a b : Nat × Nat) (ha : 0 < a.2) (hb : 0 < b.2) : timP a (red b.1 b.2) = timP a b := by
  unfold timP
  have hc := red_cross b.1 b.2 hb
  have hp := red_pos b.1 b.2 hb
  generalize red b.1 b.2 = r at *
  refine red_eq (Nat.mul_pos ha hp) (Nat.mul_pos ha hb) ?_
  rw [show a.1 * r.1 * (a.2 * b.2) = (r.1 * b.2) * (a.1 * a.2) from by ac_rfl, ← hc]; ac_rfl
theorem timP_comm (a b : Nat × Nat) : timP a b = timP b a := by unfold timP; rw [Nat.mul_comm, Nat.mul_comm a.2]
theorem timP_red (a b : Nat × Nat) (ha : 0 < a.2) (hb : 0 < b.2) : timP (red a.1 a.2) b = timP a b := by
  rw [timP_comm, timP_red2 b a hb ha, timP_comm]
/-- by the least D that both have in common -/
theorem sumP_least (a b : Nat × Nat) (ha : 0 < a.2) : red (a.1 * (b.2 / Nat.gcd a.2 b.2) + b.1 * (a.2 / Nat.gcd a.2 b.2)) (a.2 * (b.2 / Nat.gcd a.2 b.2)) = sumP a b := by
  have hg : 0 < Nat.gcd a.2 b.2 := Nat.gcd_pos_of_pos_left _ ha
  have h1 : Nat.gcd a.2 b.2 * (a.2 / Nat.gcd a.2 b.2) = a.2 := Nat.mul_div_cancel' (Nat.gcd_dvd_left _ _)
  have h2 : Nat.gcd a.2 b.2 * (b.2 / Nat.gcd a.2 b.2) = b.2 := Nat.mul_div_cancel' (Nat.gcd_dvd_right _ _)
  generalize Nat.gcd a.2 b.2 = g at *
  rw [← red_mul g _ _ hg]
  unfold sumP
  generalize a.2 / g = x at *
  generalize b.2 / g = y at *
  congr 1
  · rw [Nat.mul_add, show g * (a.1 * y) = a.1 * (g * y) from by ac_rfl, show g * (b.1 * x) = b.1 * (g * x) from by ac_rfl, h1, h2]
  · rw [show g * (a.2 * y) = a.2 * (g * y) from by ac_rfl, h2]
/-- one sign more ahead: o of a, and t of a of what it was -/
def stp (o t a : Nat) (p : Nat × Nat) : Nat × Nat := (o * p.2 + t * p.1, a * p.2)
theorem stp_red (o t a : Nat) (p : Nat × Nat) (ha : 0 < a) (hp : 0 < p.2) : sumP (o, a) (timP (t, a) (red p.1 p.2)) = red (stp o t a p).1 (stp o t a p).2 := by
  rw [timP_red2 (t, a) p ha hp]
  have h1 := sumP_red2 (o, a) (t * p.1, a * p.2) ha (Nat.mul_pos ha hp)
  unfold timP
  simp only at h1 ⊢
  rw [h1]
  unfold sumP stp
  simp only
  rw [← red_mul a (o * p.2 + t * p.1) (a * p.2) ha, Nat.mul_add, show o * (a * p.2) = a * (o * p.2) from by ac_rfl, show t * p.1 * a = a * (t * p.1) from by ac_rfl]
/-- the same of short parts -/
theorem stp_red2 (o t a : Nat) (p : Nat × Nat) (ha : 0 < a) (hp : 0 < p.2) : sumP (red o a) (timP (red t a) (red p.1 p.2)) = red (stp o t a p).1 (stp o t a p).2 := by
  have h1 := timP_red (t, a) (red p.1 p.2) ha (red_pos _ _ hp)
  have h2 := sumP_red (o, a) (timP (t, a) (red p.1 p.2)) ha (red_pos _ _ (Nat.mul_pos ha (red_pos _ _ hp)))
  simp only at h1 h2
  rw [h1, h2, stp_red o t a p ha hp]

end Pt
end Go.Proofs.YtoejenejleocdabGreatDoor

/- Plain mathematics of how likely a sign is behind others: what each weighs, the parts from the shortest on, and that all signs together are one. No program is named here. -/
namespace Go.Proofs.YtoejenejleocdabGreatDoor
namespace Pt
open En (plc bfr bhd Sg most)

/-- what a sign weighs behind others -/
def wt (l s : List Int) (x : Nat) : Nat := if 2 ≤ s.length then (plc l (s ++ [((x : Nat) : Int)])).length else (bfr l (s ++ [((x : Nat) : Int)])).length
/-- the signs that stand there; what all weigh; how many there are -/
def sgs (l s : List Int) : List Nat := (bhd l s).filter fun x => x != 0
def all (l s : List Int) : Nat := ((sgs l s).map (wt l s)).sum
def unl (l s : List Int) : Nat := (sgs l s).length

theorem bfr_le {l : List Int} (h : Sg l) (t : List Int) : (bfr l t).length ≤ (plc l t).length := by
  have e := En.sum_split (fun p => (l.getD (En.prv l p) 0).toNat) (bfr l t) (En.rising_nodup (En.bfr_rising l t)) (plc l t) (fun p hp => (En.bfr_mem l t _).2 ⟨p, hp, by have := h.nn (En.prv l p); omega⟩)
  rw [← e]
  have hone : ∀ v ∈ bfr l t, 1 ≤ ((plc l t).filter fun p => (l.getD (En.prv l p) 0).toNat == v).length := by
    intro v hv
    obtain ⟨p, hp, he⟩ := (En.bfr_mem l t v).1 hv
    exact List.length_pos_iff_exists_mem.2 ⟨p, List.mem_filter.2 ⟨hp, by rw [he]; simp⟩⟩
  generalize bfr l t = K at *
  clear e
  induction K with
  | nil => simp
  | cons v K ih =>
    have h1 := hone v (by simp)
    have h2 := ih (fun u hu => hone u (by simp [hu]))
    simp only [List.length_cons, List.map_cons, List.sum_cons]
    omega
theorem bfr_pos {l : List Int} (h : Sg l) (t : List Int) : 0 < (bfr l t).length ↔ 0 < (plc l t).length := by
  constructor
  · intro h1; exact Nat.lt_of_lt_of_le h1 (bfr_le h t)
  · intro h1
    obtain ⟨p, hp⟩ := List.length_pos_iff_exists_mem.1 h1
    have := h.nn (En.prv l p)
    exact List.length_pos_iff_exists_mem.2 ⟨(l.getD (En.prv l p) 0).toNat, (En.bfr_mem l t _).2 ⟨p, hp, by omega⟩⟩
theorem wt_pos {l : List Int} (h : Sg l) (s : List Int) (x : Nat) : 0 < wt l s x ↔ x ∈ bhd l s := by
  have e : 0 < wt l s x ↔ 0 < (plc l (s ++ [((x : Nat) : Int)])).length := by
    unfold wt
    split
    · rfl
    · exact bfr_pos h _
  rw [e]
  constructor
  · intro h1
    obtain ⟨p, hp⟩ := List.length_pos_iff_exists_mem.1 h1
    obtain ⟨h2, h3⟩ := (En.plc_mem _ _ _).1 hp
    obtain ⟨h4, h5, h6⟩ := (En.stands_snoc l x s p (by omega)).1 h3
    exact (En.bhd_mem l s x).2 ⟨p, (En.plc_mem _ _ _).2 ⟨h2, h4⟩, h5, h6⟩
  · intro h1
    unfold bhd at h1
    simpa using (List.mem_filter.1 h1).2
theorem wt_le {l : List Int} (h : Sg l) (s : List Int) (x : Nat) : wt l s x ≤ (plc l (s ++ [((x : Nat) : Int)])).length := by
  unfold wt
  split
  · exact Nat.le_refl _
  · exact bfr_le h _

theorem sum_filter (Q : Nat → Bool) (g : Nat → Nat) : ∀ L : List Nat, ((L.filter Q).map g).sum = (L.map fun x => if Q x = true then g x else 0).sum
  | [] => rfl
  | x :: L => by
    rw [List.filter_cons]
    by_cases hx : Q x = true
    · rw [if_pos hx]; simp only [List.map_cons, List.sum_cons, sum_filter Q g L, if_pos hx]
    · rw [if_neg hx]; simp only [List.map_cons, List.sum_cons, sum_filter Q g L, if_neg hx, Nat.zero_add]
/-- over all signs from 1 on -/
def sumTo (n : Nat) (g : Nat → Nat) : Nat := ((List.range n).map fun i => g (i + 1)).sum
theorem sumTo_succ (n : Nat) (g : Nat → Nat) : sumTo (n + 1) g = sumTo n g + g (n + 1) := by
  unfold sumTo
  rw [List.range_succ, List.map_append, List.sum_append]
  simp
theorem sumTo_congr {n : Nat} {g g' : Nat → Nat} (h : ∀ x, 1 ≤ x → x ≤ n → g x = g' x) : sumTo n g = sumTo n g' := by
  induction n with
  | zero => rfl
  | succ n ih => rw [sumTo_succ, sumTo_succ, ih (fun x h1 h2 => h x h1 (by omega)), h (n + 1) (by omega) (by omega)]
theorem sumTo_add (n : Nat) (g g' : Nat → Nat) : sumTo n (fun x => g x + g' x) = sumTo n g + sumTo n g' := by
  induction n with
  | zero => rfl
  | succ n ih => rw [sumTo_succ, sumTo_succ, sumTo_succ, ih]; omega
theorem sumTo_mul (n k : Nat) (g : Nat → Nat) : sumTo n (fun x => k * g x) = k * sumTo n g := by
  induction n with
  | zero => rfl
  | succ n ih => rw [sumTo_succ, sumTo_succ, ih, Nat.mul_add]
theorem sumTo_one (n : Nat) : sumTo n (fun _ => 1) = n := by
  induction n with
  | zero => rfl
  | succ n ih => rw [sumTo_succ, ih]
theorem sumTo_ge {n : Nat} (g : Nat → Nat) (x : Nat) (h1 : 1 ≤ x) (h2 : x ≤ n) : g x ≤ sumTo n g := by
  induction n with
  | zero => omega
  | succ n ih =>
    rw [sumTo_succ]
    by_cases h : x = n + 1
    · subst h; omega
    · have := ih (by omega); omega

theorem sgs_sum {l : List Int} (h : Sg l) (s : List Int) (g : Nat → Nat) (hg : ∀ x, wt l s x = 0 → g x = 0) : ((sgs l s).map g).sum = sumTo (most l) g := by
  unfold sgs bhd
  rw [List.filter_filter, sum_filter, List.range_succ_eq_map, List.map_cons, List.sum_cons]
  simp only [bne_self_eq_false, Bool.false_and, Bool.false_eq_true, if_false, Nat.zero_add]
  unfold sumTo
  rw [List.map_map]
  congr 1
  apply List.map_congr_left
  intro i hi
  have hi' := List.mem_range.1 hi
  simp only [Function.comp]
  split
  · rfl
  · next hq =>
    symm
    apply hg
    rcases Nat.eq_zero_or_pos (wt l s (i + 1)) with h0 | h0
    · exact h0
    · exfalso
      apply hq
      have := (wt_pos h s (i + 1)).1 h0
      unfold bhd at this
      have := (List.mem_filter.1 this).2
      simpa using this
theorem all_sum {l : List Int} (h : Sg l) (s : List Int) : all l s = sumTo (most l) (wt l s) := sgs_sum h s _ (fun _ h => h)
theorem unl_sum {l : List Int} (h : Sg l) (s : List Int) : unl l s = sumTo (most l) (fun x => if 0 < wt l s x then 1 else 0) := by
  rw [← sgs_sum h s _ (fun x hx => by rw [hx]; rfl)]
  unfold unl
  have : ∀ L : List Nat, (∀ x ∈ L, 0 < wt l s x) → L.length = (L.map fun x => if 0 < wt l s x then 1 else 0).sum := by
    intro L
    induction L with
    | nil => intro _; rfl
    | cons x L ih => intro hL; rw [List.map_cons, List.sum_cons, if_pos (hL x (by simp)), ← ih (fun y hy => hL y (by simp [hy])), List.length_cons]; omega
  exact this _ (fun x hx => (wt_pos h s x).2 (List.mem_filter.1 hx).1)
theorem unl_le {l : List Int} (h : Sg l) (s : List Int) : unl l s ≤ all l s := by
  rw [all_sum h, unl_sum h]
  generalize most l = n
  induction n with
  | zero => exact Nat.le_refl _
  | succ n ih => rw [sumTo_succ, sumTo_succ]; split <;> omega
theorem all_le {l : List Int} (h : Sg l) (s : List Int) : all l s ≤ l.length := by
  have h1 := En.bhd_sum h s
  have h2 : all l s ≤ ((bhd l s).map fun (v : Nat) => (plc l (s ++ [((v : Nat) : Int)])).length).sum := by
    unfold all sgs
    generalize bhd l s = K
    induction K with
    | nil => exact Nat.le_refl _
    | cons x K ih =>
      have := wt_le h s x
      rw [List.filter_cons]
      split
      · simp only [List.map_cons, List.sum_cons]; omega
      · simp only [List.map_cons, List.sum_cons]; omega
  rw [h1] at h2
  refine Nat.le_trans h2 (Nat.le_trans (List.length_filter_le _ _) ?_)
  exact Nat.le_trans (List.length_filter_le _ _) (by simp)
theorem wt_all {l : List Int} (h : Sg l) (s : List Int) (x : Nat) (h1 : 1 ≤ x) (h2 : x ≤ most l) : wt l s x ≤ all l s := by rw [all_sum h]; exact sumTo_ge _ x h1 h2
/-- what is taken from each is what is shared out -/
theorem own_sum {l : List Int} (h : Sg l) (s : List Int) : sumTo (most l) (fun x => 4 * wt l s x - 3) + 3 * unl l s = 4 * all l s := by
  rw [all_sum h, unl_sum h, ← sumTo_mul, ← sumTo_mul, ← sumTo_add]
  apply sumTo_congr
  intro x _ _
  split <;> omega

/-- by one sign more ahead -/
def stpS (l s : List Int) (x : Nat) (p : Nat × Nat) : Nat × Nat := if unl l s = 0 then p else stp (4 * wt l s x - 3) (3 * unl l s) (4 * all l s) p
/-- how likely a sign is: N and D, not shortened -/
def lv (l : List Int) (x : Nat) : List Int → Nat × Nat
  | [] => stpS l [] x (1, most l)
  | y :: t => stpS l (y :: t) x (lv l x t)
theorem stpS_den (l s : List Int) (x y : Nat) (p q : Nat × Nat) (h : p.2 = q.2) : (stpS l s x p).2 = (stpS l s y q).2 := by
  unfold stpS stp
  split
  · exact h
  · simp only [h]
theorem lv_den (l : List Int) (x y : Nat) : ∀ s : List Int, (lv l x s).2 = (lv l y s).2
  | [] => stpS_den l [] x y _ _ rfl
  | z :: t => stpS_den l (z :: t) x y _ _ (lv_den l x y t)
theorem stpS_pos {l : List Int} (h : Sg l) (s : List Int) (x : Nat) (p : Nat × Nat) (h1 : 0 < p.1) (h2 : 0 < p.2) : 0 < (stpS l s x p).1 ∧ 0 < (stpS l s x p).2 := by
  unfold stpS stp
  split
  · exact ⟨h1, h2⟩
  · next hu =>
    have := unl_le h s
    refine ⟨Nat.lt_of_lt_of_le (Nat.mul_pos (show 0 < 3 * unl l s by omega) h1) (Nat.le_add_left _ _), Nat.mul_pos (by omega) h2⟩
theorem lv_pos {l : List Int} (h : Sg l) (x : Nat) (hm : 0 < most l) : ∀ s : List Int, 0 < (lv l x s).1 ∧ 0 < (lv l x s).2
  | [] => stpS_pos h [] x _ (by simp) hm
  | z :: t => stpS_pos h (z :: t) x _ (lv_pos h x hm t).1 (lv_pos h x hm t).2
/-- ALL TOGETHER ARE ONE -/
theorem stpS_sum {l : List Int} (h : Sg l) (s : List Int) (f : Nat → Nat × Nat) (d : Nat) (hd : ∀ x, (f x).2 = d) (hs : sumTo (most l) (fun x => (f x).1) = d) : sumTo (most l) (fun x => (stpS l s x (f x)).1) = (stpS l s 0 (f 0)).2 := by
  unfold stpS
  split
  · rw [hs, hd]
  · unfold stp
    simp only [hd]
    rw [sumTo_add, sumTo_mul]
    have e : sumTo (most l) (fun x => (4 * wt l s x - 3) * d) = d * sumTo (most l) (fun x => 4 * wt l s x - 3) := by
      rw [← sumTo_mul]; exact sumTo_congr fun x _ _ => Nat.mul_comm _ _
    rw [e, hs, ← own_sum h s, Nat.add_mul, Nat.mul_comm d]
theorem lv_sum {l : List Int} (h : Sg l) : ∀ s : List Int, sumTo (most l) (fun x => (lv l x s).1) = (lv l 0 s).2
  | [] => stpS_sum h [] (fun _ => (1, most l)) (most l) (fun _ => rfl) (sumTo_one _)
  | z :: t => stpS_sum h (z :: t) (fun x => lv l x t) (lv l 0 t).2 (fun x => lv_den l x 0 t) (lv_sum h t)
theorem lv_le {l : List Int} (h : Sg l) (s : List Int) (x : Nat) (h1 : 1 ≤ x) (h2 : x ≤ most l) : (lv l x s).1 ≤ (lv l x s).2 := by
  rw [lv_den l x 0 s, ← lv_sum h s]
  exact sumTo_ge (fun x => (lv l x s).1) x h1 h2
theorem stpS_bound {l : List Int} (h : Sg l) (hl : l.length ≤ 150) (s : List Int) (x : Nat) (p : Nat × Nat) (b : Nat) (hp : p.2 ≤ b) : (stpS l s x p).2 ≤ 600 * b := by
  unfold stpS stp
  split
  · omega
  · have := all_le h s
    exact Nat.mul_le_mul (by omega) hp
theorem lv_bound {l : List Int} (h : Sg l) (hl : l.length ≤ 150) (x : Nat) : ∀ s : List Int, (lv l x s).2 ≤ 600 ^ (s.length + 1) * most l
  | [] => by have := stpS_bound h hl [] x (1, most l) (most l) (Nat.le_refl _); simpa [lv] using this
  | z :: t => by
    have := stpS_bound h hl (z :: t) x (lv l x t) _ (lv_bound h hl x t)
    rw [List.length_cons, Nat.pow_succ, Nat.mul_comm (600 ^ (t.length + 1)) 600, Nat.mul_assoc]
    exact this
theorem lv_small {l : List Int} (h : Sg l) (hl : l.length ≤ 150) (hm : most l < 1024) (x : Nat) (s : List Int) (hs : s.length ≤ 2) : (lv l x s).2 ≤ 221184000000 := by
  refine Nat.le_trans (lv_bound h hl x s) ?_
  have h1 : 600 ^ (s.length + 1) ≤ 600 ^ 3 := Nat.pow_le_pow_right (by omega) (by omega)
  exact Nat.le_trans (Nat.mul_le_mul h1 (show most l ≤ 1024 by omega)) (by decide)

/-- what stands nowhere behind others stands nowhere behind more -/
theorem unl_cons (l t : List Int) (y : Int) (h : unl l t = 0) : unl l (y :: t) = 0 := by
  unfold unl at *
  rw [List.length_eq_zero_iff] at *
  unfold sgs at *
  rw [List.filter_eq_nil_iff] at *
  intro v hv
  obtain ⟨p, hp, h1, h2⟩ := (En.bhd_mem l (y :: t) v).1 hv
  obtain ⟨h3, h4⟩ := (En.plc_mem l _ p).1 hp
  obtain ⟨_, h5⟩ := En.stands_cons' l t y p h3 h4
  simp only [List.length_cons] at h1 h2
  refine h v ((En.bhd_mem l t v).2 ⟨p + 1, (En.plc_mem l t _).2 ⟨by omega, h5⟩, by omega, ?_⟩)
  rw [show p + 1 + t.length = p + (t.length + 1) from by omega]
  exact h2

/-- so far: the k shortest -/
def sofar (l : List Int) (x : Nat) (s : List Int) (k : Nat) : Nat × Nat := if k = 0 then (1, most l) else lv l x (s.drop (s.length + 1 - k))
theorem sofar_zero (l : List Int) (x : Nat) (s : List Int) : sofar l x s 0 = (1, most l) := rfl
theorem sofar_succ (l : List Int) (x : Nat) (s : List Int) (k : Nat) (hk : k ≤ s.length) : sofar l x s (k + 1) = stpS l (s.drop (s.length - k)) x (sofar l x s k) := by
  unfold sofar
  rw [if_neg (by omega), show s.length + 1 - (k + 1) = s.length - k from by omega]
  by_cases h0 : k = 0
  · subst h0
    rw [if_pos rfl, Nat.sub_zero, List.drop_length]
    rfl
  · rw [if_neg h0, List.drop_eq_getElem_cons (show s.length - k < s.length by omega), show s.length - k + 1 = s.length + 1 - k from by omega]
    rfl
theorem sofar_all (l : List Int) (x : Nat) (s : List Int) : sofar l x s (s.length + 1) = lv l x s := by
  unfold sofar
  rw [if_neg (by omega), Nat.sub_self, List.drop_zero]
theorem unl_drop (l s : List Int) : ∀ (k : Nat), unl l (s.drop k) = 0 → unl l (s.drop (k - 1)) = 0
  | 0, h => h
  | k + 1, h => by
    rw [Nat.add_sub_cancel]
    by_cases hk : k < s.length
    · rw [List.drop_eq_getElem_cons hk]
      exact unl_cons l _ _ h
    · rw [List.drop_eq_nil_of_le (by omega)] at *
      exact h
/-- where none stands, that is all -/
theorem sofar_stop (l : List Int) (x : Nat) (s : List Int) : ∀ (m k : Nat), m + k = s.length + 1 → unl l (s.drop (s.length - k)) = 0 → sofar l x s k = lv l x s
  | 0, k, hk, _ => by rw [show k = s.length + 1 from by omega, sofar_all]
  | m + 1, k, hk, h => by
    rw [← sofar_stop l x s m (k + 1) (by omega) (by rw [show s.length - (k + 1) = s.length - k - 1 from by omega]; exact unl_drop l s _ h), sofar_succ l x s k (by omega)]
    unfold stpS
    rw [if_pos h]
theorem sofar_pos {l : List Int} (h : Sg l) (hm : 0 < most l) (x : Nat) (s : List Int) (k : Nat) : 0 < (sofar l x s k).1 ∧ 0 < (sofar l x s k).2 := by
  unfold sofar
  split
  · exact ⟨by simp, hm⟩
  · exact lv_pos h x hm _
theorem sofar_le {l : List Int} (h : Sg l) (x : Nat) (h1 : 1 ≤ x) (h2 : x ≤ most l) (s : List Int) (k : Nat) : (sofar l x s k).1 ≤ (sofar l x s k).2 := by
  unfold sofar
  split
  · show 1 ≤ most l; omega
  · exact lv_le h _ x h1 h2
theorem sofar_small {l : List Int} (h : Sg l) (hl : l.length ≤ 150) (hm : most l < 1024) (x : Nat) (s : List Int) (hs : s.length ≤ 2) (k : Nat) : (sofar l x s k).2 ≤ 221184000000 := by
  unfold sofar
  split
  · show most l ≤ _; omega
  · exact lv_small h hl hm x _ (by rw [List.length_drop]; omega)
/-- the last ones of those ahead -/
def last2 (s : List Int) : List Int := s.drop (s.length - 2)
theorem last2_len (s : List Int) : (last2 s).length = min s.length 2 := by unfold last2; rw [List.length_drop]; omega

end Pt
end Go.Proofs.YtoejenejleocdabGreatDoor
