/- Plain mathematics of lists of bools as numbers of 64 bits. No program is named here. -/
import Derived.Test.YtgnakccbkglfpaaMa
namespace Go.Proofs.Ytgnakccbkglfpaa
namespace Bt

/-- how many are true -/
def ones (l : List Bool) : Nat := l.count true
/-- the list as a number, the first the lowest -/
def val : List Bool → Nat
  | [] => 0
  | b :: l => b.toNat + 2 * val l
/-- the p-th piece of 64 -/
def seg (l : List Bool) (p : Nat) : List Bool := (l.drop (64 * p)).take 64
def part (l : List Bool) (p : Nat) : Nat := val (seg l p)
/-- how many ones there are ahead of the p-th piece -/
def ahd (l : List Bool) (p : Nat) : Nat := ones (l.take (64 * p))

theorem ones_nil : ones [] = 0 := rfl
theorem ones_cons (b : Bool) (l : List Bool) : ones (b :: l) = b.toNat + ones l := by cases b <;> simp [ones] <;> omega
theorem ones_append (a b : List Bool) : ones (a ++ b) = ones a + ones b := List.count_append
theorem ones_le (l : List Bool) : ones l ≤ l.length := List.count_le_length
theorem toNat_le (b : Bool) : b.toNat ≤ 1 := by cases b <;> decide

theorem val_lt (l : List Bool) : val l < 2 ^ l.length := by
  induction l with
  | nil => decide
  | cons b l ih => have := toNat_le b; simp only [val, List.length_cons, Nat.pow_succ]; omega
theorem val_mod2 (b : Bool) (l : List Bool) : val (b :: l) % 2 = b.toNat := by have := toNat_le b; simp only [val]; omega
theorem val_div2 (b : Bool) (l : List Bool) : val (b :: l) / 2 = val l := by have := toNat_le b; simp only [val]; omega

theorem popF_val (k : Nat) : ∀ l : List Bool, l.length ≤ k → popF k (val l) = ones l := by
  induction k with
  | zero => intro l h; have : l = [] := List.eq_nil_of_length_eq_zero (by omega); subst this; rfl
  | succ k ih =>
    intro l h
    match l with
    | [] => rw [show val [] = 0 from rfl, popF_zero]; rfl
    | b :: l => simp only [popF]; rw [val_mod2, val_div2, ih l (by simpa using h), ones_cons]
theorem pop_val (l : List Bool) (h : l.length ≤ 64) : pop (val l) = ones l := popF_val 64 l h

theorem val_mod (n : Nat) : ∀ l : List Bool, val l % 2 ^ n = val (l.take n) := by
  induction n with
  | zero => intro l; simp [Nat.mod_one, val]
  | succ n ih =>
    intro l
    match l with
    | [] => simp [val]
    | b :: l =>
      have h := ih l
      have hb := toNat_le b
      simp only [List.take_succ_cons, val]
      rw [← h, Nat.pow_succ, Nat.mul_comm (2 ^ n) 2, Nat.mod_mul, show (b.toNat + 2 * val l) % 2 = b.toNat from by omega, show (b.toNat + 2 * val l) / 2 = val l from by omega]
theorem val_div (n : Nat) : ∀ l : List Bool, val l / 2 ^ n = val (l.drop n) := by
  induction n with
  | zero => intro l; simp
  | succ n ih =>
    intro l
    match l with
    | [] => simp [val]
    | b :: l => rw [Nat.pow_succ, Nat.mul_comm (2 ^ n) 2, ← Nat.div_div_eq_div_mul, val_div2, ih l]; rfl
theorem val_mod_two (l : List Bool) : (val l % 2 == 1) = l.headD false := by
  match l with
  | [] => rfl
  | b :: l => rw [val_mod2]; cases b <;> rfl
theorem val_bit (n : Nat) (l : List Bool) : (val l / 2 ^ n % 2 == 1) = l.getD n false := by
  rw [val_div, val_mod_two]
  simp [List.headD_eq_head?_getD, List.head?_drop, List.getD_eq_getElem?_getD]
theorem val_append (a b : List Bool) : val (a ++ b) = val a + 2 ^ a.length * val b := by
  induction a with
  | nil => simp [val]
  | cons x a ih =>
    simp only [List.cons_append, val, ih, List.length_cons, Nat.pow_succ]
    rw [Nat.mul_add, Nat.mul_comm (2 ^ a.length) 2, Nat.mul_assoc]; omega
theorem val_snoc (a : List Bool) (b : Bool) : val (a ++ [b]) = val a + 2 ^ a.length * b.toNat := by rw [val_append]; simp [val]
/-- one bit more, by 'or' -/
theorem val_or (a : List Bool) : val a ||| 2 ^ a.length = val (a ++ [true]) := by
  rw [val_snoc]
  have h := Nat.two_pow_add_eq_or_of_lt (val_lt a) 1
  rw [Nat.or_comm]
  simp only [Nat.mul_one] at h
  rw [← h]; simp [Nat.add_comm]

theorem seg_len (l : List Bool) (p : Nat) : (seg l p).length ≤ 64 := by simp [seg]; omega
theorem part_lt (l : List Bool) (p : Nat) : part l p < 18446744073709551616 := by
  have h := val_lt (seg l p)
  have h2 : 2 ^ (seg l p).length ≤ 2 ^ 64 := Nat.pow_le_pow_right (by omega) (seg_len l p)
  unfold part; omega
/-- ones ahead of a place: those ahead of its piece, and those in it -/
theorem ones_take (l : List Bool) (i : Nat) : ones (l.take i) = ahd l (i / 64) + pop (part l (i / 64) % 2 ^ (i % 64)) := by
  unfold ahd part
  rw [val_mod, pop_val _ (by simp; omega)]
  have e : l.take i = l.take (64 * (i / 64)) ++ (seg l (i / 64)).take (i % 64) := by
    unfold seg
    rw [List.take_take, Nat.min_eq_left (by omega), ← List.take_add, show 64 * (i / 64) + i % 64 = i from by omega]
  rw [e, ones_append]
theorem bit_at (l : List Bool) (i : Nat) : (part l (i / 64) / 2 ^ (i % 64) % 2 == 1) = l.getD i false := by
  unfold part seg
  rw [val_bit]
  simp only [List.getD_eq_getElem?_getD, List.getElem?_take, List.getElem?_drop]
  rw [if_pos (by omega), show 64 * (i / 64) + i % 64 = i from by omega]
theorem ahd_zero (l : List Bool) : ahd l 0 = 0 := by simp [ahd, ones]
theorem ahd_succ (l : List Bool) (p : Nat) : ahd l (p + 1) = ahd l p + pop (part l p) := by
  unfold ahd part
  rw [pop_val _ (seg_len l p), ← ones_append]
  unfold seg
  rw [← List.take_add, show 64 * p + 64 = 64 * (p + 1) from by omega]

theorem seg_snoc_here (a : List Bool) (b : Bool) : seg (a ++ [b]) (a.length / 64) = seg a (a.length / 64) ++ [b] ∧ (seg a (a.length / 64)).length = a.length % 64 := by
  have h1 : (a.drop (64 * (a.length / 64))).length = a.length % 64 := by rw [List.length_drop]; omega
  unfold seg
  rw [List.drop_append_of_le_length (by omega), List.take_of_length_le (by rw [List.length_append, h1]; simp; omega), List.take_of_length_le (by rw [h1]; omega)]
  exact ⟨rfl, h1⟩
theorem seg_snoc_there (a : List Bool) (b : Bool) (p : Nat) (hp : p ≠ a.length / 64) : seg (a ++ [b]) p = seg a p := by
  unfold seg
  rcases Nat.lt_or_gt_of_ne hp with h | h
  · rw [List.drop_append_of_le_length (by omega), List.take_append_of_le_length (by rw [List.length_drop]; omega)]
  · rw [List.drop_eq_nil_of_le (by simp; omega), List.drop_eq_nil_of_le (by omega)]
theorem part_snoc (a : List Bool) (b : Bool) (p : Nat) : part (a ++ [b]) p = if p = a.length / 64 ∧ b = true then part a p ||| 2 ^ (a.length % 64) else part a p := by
  unfold part
  by_cases hp : p = a.length / 64
  · subst hp
    obtain ⟨h1, h2⟩ := seg_snoc_here a b
    rw [h1]
    cases b with
    | true => rw [if_pos ⟨rfl, rfl⟩, ← h2, val_or]
    | false => rw [if_neg (fun h => by cases h.2), val_snoc]; simp
  · rw [seg_snoc_there a b p hp, if_neg (fun h => hp h.1)]
theorem part_take_succ (l : List Bool) (k p : Nat) (hk : k < l.length) : part (l.take (k + 1)) p = if p = k / 64 ∧ l.getD k false = true then part (l.take k) p ||| 2 ^ (k % 64) else part (l.take k) p := by
  have e : l.take (k + 1) = l.take k ++ [l.getD k false] := by
    rw [List.take_succ_eq_append_getElem hk, List.getD_eq_getElem?_getD, List.getElem?_eq_getElem hk]; rfl
  have hl : (l.take k).length = k := by rw [List.length_take]; omega
  rw [e, part_snoc, hl]
theorem part_nil (p : Nat) : part [] p = 0 := by simp [part, seg, val]

end Bt
end Go.Proofs.Ytgnakccbkglfpaa
