import Derived.Test.YtoejenejleocdabGreatDoorJt
import Derived.Test.YtoejenejleocdabGreatDoorJx
import Derived.Lib.Replace
/- Plain mathematics of texts for the whole: words joined by a space, more spaces, a text that stands twice; a book's signs as a list of an index. No program is named here. -/
namespace Go.Proofs.YtoejenejleocdabGreatDoor
namespace Tx

/-- a book's signs are a list of an index -/
theorem bt_sg (ls : List (List Wd)) : En.Sg (bt ls) := by
  refine ⟨by rw [bt_length]; omega, ?_, fun i hi => ?_⟩
  · rw [bt_length, show (toks ls).length + 2 - 1 = (toks ls).length + 1 from by omega]; exact bt_last ls
  · rw [bt_length] at hi
    by_cases h : i < (toks ls).length
    · have := (bt_range ls i h).1; omega
    · obtain rfl : i = (toks ls).length := by omega
      rw [bt_stop]; omega
theorem bt_most (ls : List (List Wd)) : En.most (bt ls) = (bw ls).length + 1 := by
  have hlen := bt_length ls
  apply Nat.le_antisymm
  · obtain ⟨i, hi, he⟩ := En.most_in (bt ls) (by omega)
    have := bt_all ls i hi
    omega
  · by_cases h0 : (bw ls).length = 0
    · have := En.most_ge (bt ls) (toks ls).length
      rw [bt_stop] at this
      omega
    · have hs := bt_seen ls ((bw ls).length - 1) (by omega)
      rw [List.take_length, List.any_eq_true] at hs
      obtain ⟨v, hv, he⟩ := hs
      obtain ⟨i, hi, rfl⟩ := List.mem_iff_getElem.1 hv
      have h2 := En.most_ge (bt ls) i
      rw [show (bt ls).getD i 0 = (bt ls)[i] from by simp [hi]] at h2
      simp only [decide_eq_true_eq] at he
      omega
theorem bt_good (ls : List (List Wd)) : En.good (bt ls) = true := by
  have h := bt_sg ls
  unfold En.good
  simp only [Bool.and_eq_true, decide_eq_true_eq, beq_iff_eq, List.all_eq_true]
  refine ⟨⟨h.pos, h.last⟩, fun v hv => ?_⟩
  obtain ⟨i, hi, rfl⟩ := List.mem_iff_getElem.1 hv
  rw [List.length_take] at hi
  have h2 := h.above i (by omega)
  rw [List.getElem_take]
  rwa [show (bt ls).getD i 0 = (bt ls)[i] from by simp [show i < (bt ls).length by omega]] at h2

end Tx
end Go.Proofs.YtoejenejleocdabGreatDoor

/- Plain mathematics of counting for the whole: what is longer stands no oftener than either part; in a text that stands twice all that stays within a line stands twice as often. No program is named here. -/
namespace Go.Proofs.YtoejenejleocdabGreatDoor
namespace En

theorem stands_iff (l : List Int) : ∀ (s : List Int) (p : Nat), p ≤ l.length → (stands l s p = true ↔ p + s.length ≤ l.length ∧ ∀ j, j < s.length → l.getD (p + j) 0 = s.getD j 0)
  | [], p, hp => by simp [stands]; omega
  | x :: s, p, hp => by
    by_cases h : p < l.length
    · rw [stands_cons l s x p h, Bool.and_eq_true, decide_eq_true_eq, stands_iff l s (p + 1) (by omega)]
      constructor
      · rintro ⟨h1, h2, h3⟩
        refine ⟨by simp only [List.length_cons]; omega, fun j hj => ?_⟩
        cases j with
        | zero => simpa using h1
        | succ j =>
          have := h3 j (by simpa using hj)
          rw [show p + (j + 1) = p + 1 + j from by omega, this]
          rfl
      · rintro ⟨h1, h2⟩
        simp only [List.length_cons] at h1
        refine ⟨by simpa using h2 0 (by simp), by omega, fun j hj => ?_⟩
        have := h2 (j + 1) (by simpa using hj)
        rw [show p + 1 + j = p + (j + 1) from by omega, this]
        rfl
    · obtain rfl : p = l.length := by omega
      simp [stands]
      intro h3
      omega
theorem count_mono (n : Nat) (P Q : Nat → Bool) (h : ∀ p, p < n → P p = true → Q p = true) : ((List.range n).filter P).length ≤ ((List.range n).filter Q).length := by
  induction n with
  | zero => simp
  | succ n ih =>
    have ih := ih (fun p hp => h p (by omega))
    rw [List.range_succ, List.filter_append, List.filter_append, List.length_append, List.length_append]
    have : ([n].filter P).length ≤ ([n].filter Q).length := by
      rw [List.filter_cons, List.filter_cons, List.filter_nil, List.filter_nil]
      by_cases hp : P n = true
      · rw [if_pos hp, if_pos (h n (by omega) hp)]; exact Nat.le_refl _
      · rw [if_neg hp]; split <;> simp
    omega
theorem count_shift (k : Nat) (P Q : Nat → Bool) : ∀ (n : Nat), (∀ p, p < n → P p = true → Q (p + k) = true) → ((List.range n).filter P).length ≤ ((List.range (n + k)).filter Q).length
  | 0, _ => by simp
  | n + 1, h => by
    have ih := count_shift k P Q n (fun p hp => h p (by omega))
    rw [show n + 1 + k = n + k + 1 from by omega, List.range_succ, List.range_succ, List.filter_append, List.filter_append, List.length_append, List.length_append]
    have : ([n].filter P).length ≤ ([n + k].filter Q).length := by
      rw [List.filter_cons, List.filter_cons, List.filter_nil, List.filter_nil]
      by_cases hp : P n = true
      · rw [if_pos hp, if_pos (h n (by omega) hp)]; exact Nat.le_refl _
      · rw [if_neg hp]; split <;> simp
    omega
theorem stands_app (l s t : List Int) (p : Nat) (hp : p ≤ l.length) (h : stands l (s ++ t) p = true) : stands l s p = true ∧ stands l t (p + s.length) = true ∧ p + s.length + t.length ≤ l.length := by
  obtain ⟨h1, h2⟩ := (stands_iff l (s ++ t) p hp).1 h
  rw [List.length_append] at h1 h2
  refine ⟨(stands_iff l s p hp).2 ⟨by omega, fun j hj => ?_⟩, (stands_iff l t (p + s.length) (by omega)).2 ⟨by omega, fun j hj => ?_⟩, by omega⟩
  · rw [h2 j (by omega), List.getD_eq_getElem?_getD, List.getElem?_append_left hj, ← List.getD_eq_getElem?_getD]
  · rw [show p + s.length + j = p + (s.length + j) from by omega, h2 (s.length + j) (by omega), List.getD_eq_getElem?_getD, List.getElem?_append_right (by omega), ← List.getD_eq_getElem?_getD, Nat.add_sub_cancel_left]
theorem plc_le_n (l s : List Int) : (plc l s).length ≤ l.length := Nat.le_trans (List.length_filter_le _ _) (by simp)
theorem plc_back_part (l s t : List Int) : (plc l (s ++ t)).length ≤ (plc l t).length := by
  by_cases ht : t = []
  · subst ht
    rw [plc_nil, List.length_range]
    exact plc_le_n _ _
  · have hpos : 0 < t.length := List.length_pos_iff.2 ht
    have h := count_shift s.length (stands l (s ++ t)) (fun q => stands l t q && decide (q < l.length)) l.length (fun p hp h => by
      obtain ⟨_, h2, h3⟩ := stands_app l s t p (by omega) h
      rw [h2, Bool.true_and, decide_eq_true_eq]
      omega)
    rw [filter_below (l.length + s.length) l.length (by omega) (stands l t)] at h
    exact h

end En
namespace Tx
/-- what a call of Signs says of words: none, or their numbers -/
def sgn (ws : List Wd) (q : Wd) : Option (List Int) := if allIn (findIn ws) (cutB q) = true then some (nums (findIn ws) (toks (cutB q))) else none
/-- how often words stand in a book -/
def cntW (ls : List (List Wd)) (q : Wd) : Nat := match sgn (bw ls) q with
  | some t => (En.plc (bt ls) t).length
  | none => 0
end Tx
end Go.Proofs.YtoejenejleocdabGreatDoor

/- Plain mathematics of what is guessed: the first of the likeliest signs; that comparing two parts of a book's signs does not overflow. No program is named here. -/
namespace Go.Proofs.YtoejenejleocdabGreatDoor
namespace Pt
open En (plc bhd Sg most)

/-- the first of the greatest, of the numbers from 1 to n, and how great it is -/
def best (f : Nat → Nat) : Nat → Nat × Nat
  | 0 => (0, 0)
  | n + 1 => if (best f n).2 < f (n + 1) then (n + 1, f (n + 1)) else best f n
theorem best_yes (f : Nat → Nat) (n : Nat) (h : (best f n).2 < f (n + 1)) : best f (n + 1) = (n + 1, f (n + 1)) := by
  show (if (best f n).2 < f (n + 1) then (n + 1, f (n + 1)) else best f n) = _
  rw [if_pos h]
theorem best_no (f : Nat → Nat) (n : Nat) (h : ¬ (best f n).2 < f (n + 1)) : best f (n + 1) = best f n := by
  show (if (best f n).2 < f (n + 1) then (n + 1, f (n + 1)) else best f n) = _
  rw [if_neg h]
theorem best_le (f : Nat → Nat) : ∀ (n x : Nat), 1 ≤ x → x ≤ n → f x ≤ (best f n).2
  | 0, x, h1, h2 => by omega
  | n + 1, x, h1, h2 => by
    by_cases h : (best f n).2 < f (n + 1)
    · rw [best_yes f n h]
      by_cases e : x = n + 1
      · subst e; exact Nat.le_refl _
      · have := best_le f n x h1 (by omega); show f x ≤ f (n + 1); omega
    · rw [best_no f n h]
      by_cases e : x = n + 1
      · subst e; omega
      · exact best_le f n x h1 (by omega)
theorem best_rng (f : Nat → Nat) : ∀ n : Nat, (best f n).1 ≤ n
  | 0 => Nat.le_refl _
  | n + 1 => by
    by_cases h : (best f n).2 < f (n + 1)
    · rw [best_yes f n h]; exact Nat.le_refl _
    · rw [best_no f n h]; have := best_rng f n; omega
theorem best_is (f : Nat → Nat) : ∀ n : Nat, best f n = (0, 0) ∨ (1 ≤ (best f n).1 ∧ f (best f n).1 = (best f n).2)
  | 0 => .inl rfl
  | n + 1 => by
    by_cases h : (best f n).2 < f (n + 1)
    · rw [best_yes f n h]; exact .inr ⟨by show 1 ≤ n + 1; omega, rfl⟩
    · rw [best_no f n h]; exact best_is f n
theorem best_pos (f : Nat → Nat) (n : Nat) (hn : 0 < n) (h : 0 < f 1) : 1 ≤ (best f n).1 ∧ (best f n).1 ≤ n ∧ f (best f n).1 = (best f n).2 := by
  have h1 := best_le f n 1 (Nat.le_refl _) hn
  rcases best_is f n with h2 | h2
  · rw [h2] at h1; simp at h1; omega
  · exact ⟨h2.1, best_rng f n, h2.2⟩
theorem best_congr {f g : Nat → Nat} : ∀ n : Nat, (∀ x, 1 ≤ x → x ≤ n → f x = g x) → best f n = best g n
  | 0, _ => rfl
  | n + 1, h => by
    show (if (best f n).2 < f (n + 1) then (n + 1, f (n + 1)) else best f n) = (if (best g n).2 < g (n + 1) then (n + 1, g (n + 1)) else best g n)
    rw [best_congr n (fun x h1 h2 => h x h1 (by omega)), h (n + 1) (by omega) (Nat.le_refl _)]

/-- two parts of one D, compared crosswise -/
theorem red_more (a b d : Nat) (hd : 0 < d) : (red b d).1 * (red a d).2 < (red a d).1 * (red b d).2 ↔ b < a := by
  obtain ⟨g, hg, e1, e2, hp⟩ := red_form a d hd
  obtain ⟨k, hk, f1, f2, hq⟩ := red_form b d hd
  generalize red a d = p at *
  generalize red b d = q at *
  have X1 : a * q.2 * k = p.1 * q.2 * g * k := by rw [e1]; simp only [Nat.mul_comm, Nat.mul_left_comm]
  have X2 : b * p.2 * g = q.1 * p.2 * g * k := by rw [f1]; simp only [Nat.mul_comm, Nat.mul_left_comm]
  have Y1 : a * q.2 * k = a * d := by rw [f2]; simp only [Nat.mul_comm, Nat.mul_left_comm]
  have Y2 : b * p.2 * g = b * d := by rw [e2]; simp only [Nat.mul_comm, Nat.mul_left_comm]
  rw [X1] at Y1
  rw [X2] at Y2
  have hgk : 0 < g * k := Nat.mul_pos hg hk
  constructor
  · intro h
    have h2 := Nat.mul_lt_mul_of_pos_right h hgk
    rw [← Nat.mul_assoc, ← Nat.mul_assoc, Y1, Y2] at h2
    exact Nat.lt_of_mul_lt_mul_right h2
  · intro h
    have h2 := Nat.mul_lt_mul_of_pos_right h hd
    rw [← Y1, ← Y2, Nat.mul_assoc (q.1 * p.2), Nat.mul_assoc (p.1 * q.2)] at h2
    exact Nat.lt_of_mul_lt_mul_right h2

theorem all_le_plc {l : List Int} (h : Sg l) (s : List Int) : all l s ≤ (plc l s).length := by
  have h1 := En.bhd_sum h s
  have h2 : all l s ≤ ((bhd l s).map fun (v : Nat) => (plc l (s ++ [((v : Nat) : Int)])).length).sum := by
    unfold all sgs
    generalize bhd l s = K
    induction K with
    | nil => exact Nat.le_refl _
    | cons x K ih =>
      have := wt_le h s x
      rw [List.filter_cons]
      split
      · simp only [List.map_cons, List.sum_cons]; omega
      · simp only [List.map_cons, List.sum_cons]; omega
  rw [h1] at h2
  exact Nat.le_trans h2 (List.length_filter_le _ _)

/-- how often each of the signs stands, together -/
theorem sum_ge (c : Nat → Nat) (y : Nat) : ∀ n : Nat, (∀ v, v < n → 1 ≤ c v) → n ≤ ((List.range n).map c).sum ∧ (y < n → c y + n ≤ ((List.range n).map c).sum + 1)
  | 0, _ => ⟨Nat.le_refl _, fun h => by omega⟩
  | n + 1, h => by
    obtain ⟨h1, h2⟩ := sum_ge c y n (fun v hv => h v (by omega))
    have h3 := h n (by omega)
    rw [List.range_succ, List.map_append, List.sum_append]
    simp only [List.map_cons, List.map_nil, List.sum_cons, List.sum_nil, Nat.add_zero]
    refine ⟨by omega, fun hy => ?_⟩
    by_cases e : y = n
    · subst e; omega
    · have := h2 (by omega); omega
/-- a list in which each number up to its greatest stands: what stands often leaves room for few -/
theorem often {l : List Int} (hev : ∀ v, v ≤ most l → ∃ p, p < l.length ∧ (l.getD p 0).toNat = v) (y : Int) : (plc l [y]).length + most l ≤ l.length := by
  have hs := En.sum_split (fun p => (l.getD p 0).toNat) (List.range (most l + 1)) List.nodup_range (List.range l.length) (fun p _ => List.mem_range.2 (by have := En.most_ge l p; omega))
  rw [List.length_range] at hs
  have h1 : ∀ v, v < most l + 1 → 1 ≤ ((List.range l.length).filter fun p => (l.getD p 0).toNat == v).length := by
    intro v hv
    obtain ⟨p, hp, he⟩ := hev v (by omega)
    exact List.length_pos_iff_exists_mem.2 ⟨p, List.mem_filter.2 ⟨List.mem_range.2 hp, by rw [he]; simp⟩⟩
  obtain ⟨k1, k2⟩ := sum_ge (fun v => ((List.range l.length).filter fun p => (l.getD p 0).toNat == v).length) y.toNat (most l + 1) h1
  rw [hs] at k1 k2
  have h3 : (plc l [y]).length ≤ ((List.range l.length).filter fun p => (l.getD p 0).toNat == y.toNat).length := by
    apply En.count_mono
    intro p hp hst
    obtain ⟨e, _⟩ := En.stands_cons' l [] y p hp hst
    rw [e]; simp
  by_cases hy : y.toNat < most l + 1
  · have := k2 hy
    omega
  · have h4 : (plc l [y]).length = 0 := by
      unfold plc
      rw [List.length_eq_zero_iff, List.filter_eq_nil_iff]
      intro p hp hst
      obtain ⟨e, _⟩ := En.stands_cons' l [] y p (List.mem_range.1 hp) hst
      have := En.most_ge l p
      rw [e] at this
      omega
    omega

theorem amgm (m k n : Nat) (h : m + k ≤ n) (hn : n ≤ 101) : m * k ≤ 2550 := by
  have h2 : k ≤ 101 - m := by omega
  have h3 : m ≤ 101 := by omega
  have h4 : m * k ≤ m * (101 - m) := Nat.mul_le_mul_left m h2
  refine Nat.le_trans h4 ?_
  clear h h2 h4 hn
  have : ∀ m, m ≤ 101 → m * (101 - m) ≤ 2550 := by decide
  exact this m h3
theorem stpS_times {l : List Int} (h : Sg l) (s : List Int) (x : Nat) (p : Nat × Nat) (b : Nat) (hb : (plc l s).length ≤ b) (hb1 : 1 ≤ b) : (stpS l s x p).2 ≤ 4 * b * p.2 := by
  unfold stpS stp
  split
  · exact Nat.le_mul_of_pos_left _ (by omega)
  · have := all_le_plc h s
    exact Nat.mul_le_mul (by omega) (Nat.le_refl _)
/-- D of a book's signs, not shortened -/
theorem lv_tight {l : List Int} (h : Sg l) (hl : l.length ≤ 101) (hev : ∀ v, v ≤ most l → ∃ p, p < l.length ∧ (l.getD p 0).toNat = v) (x : Nat) (t : List Int) (ht : t.length ≤ 2) : (lv l x t).2 ≤ 2147483648 := by
  have ho := often hev
  have hm : most l ≤ 101 := by have := ho 0; omega
  have hp0 : (plc l []).length ≤ 101 := by have := En.plc_le_n l []; omega
  have h0 : (lv l x []).2 ≤ 404 * most l := by
    have := stpS_times h [] x (1, most l) 101 hp0 (by omega)
    exact this
  match t, ht with
  | [], _ => exact Nat.le_trans h0 (by omega)
  | [y], _ =>
    have h1 := stpS_times h [y] x (lv l x []) 101 (by have := ho y; omega) (by omega)
    have h2 : (lv l x [y]).2 ≤ 404 * (404 * most l) := Nat.le_trans h1 (Nat.mul_le_mul (by omega) h0)
    omega
  | [z, y], _ =>
    by_cases hq : (plc l [y]).length = 0
    · have hu : unl l [y] = 0 := by
        have h1 := all_le_plc h [y]
        have h2 := unl_le h [y]
        omega
      have hu2 := unl_cons l [y] z hu
      have e1 : lv l x [z, y] = lv l x [] := by
        show stpS l [z, y] x (stpS l [y] x (lv l x [])) = _
        unfold stpS
        rw [if_pos hu2, if_pos hu]
      rw [e1]
      exact Nat.le_trans h0 (by omega)
    · have hb := En.plc_back_part l [z] [y]
      have h1 := stpS_times h [y] x (lv l x []) (plc l [y]).length (Nat.le_refl _) (by omega)
      have h2 := stpS_times h [z, y] x (lv l x [y]) (plc l [y]).length hb (by omega)
      have hk := amgm _ _ _ (ho y) hl
      have hy := ho y
      generalize (plc l [y]).length = m at *
      have h3 : (lv l x [y]).2 ≤ 4 * m * (404 * most l) := Nat.le_trans h1 (Nat.mul_le_mul (Nat.le_refl _) h0)
      have h4 : 4 * m * (404 * most l) ≤ 1616 * 2550 := by
        rw [show 4 * m * (404 * most l) = 1616 * (m * most l) from by rw [Nat.mul_mul_mul_comm]]
        exact Nat.mul_le_mul (by omega) hk
      have h5 : (lv l x [z, y]).2 ≤ 404 * (1616 * 2550) := Nat.le_trans h2 (Nat.mul_le_mul (by omega) (Nat.le_trans h3 h4))
      omega
end Pt
namespace Tx
/-- each number up to the greatest stands in a book -/
theorem bt_every (ls : List (List Wd)) (v : Nat) (hv : v ≤ En.most (bt ls)) : ∃ p, p < (bt ls).length ∧ ((bt ls).getD p 0).toNat = v := by
  have hlen := bt_length ls
  rw [bt_most] at hv
  by_cases h0 : v = 0
  · exact ⟨(toks ls).length + 1, by omega, by rw [bt_last, h0]; rfl⟩
  · by_cases h1 : v = 1
    · exact ⟨(toks ls).length, by omega, by rw [bt_stop, h1]; rfl⟩
    · have hs := bt_seen ls (v - 2) (by omega)
      rw [List.take_length, List.any_eq_true] at hs
      obtain ⟨u, hu, he⟩ := hs
      obtain ⟨i, hi, rfl⟩ := List.mem_iff_getElem.1 hu
      refine ⟨i, hi, ?_⟩
      rw [show (bt ls).getD i 0 = (bt ls)[i] from by simp [hi]]
      simp only [decide_eq_true_eq] at he
      omega
end Tx
end Go.Proofs.YtoejenejleocdabGreatDoor

/- Plain mathematics: each space put twice is the library's ReplaceAll; a text with a line's end, twice; a shelf's answers told as functions of its lines. No program is named here. -/
namespace Go.Proofs.YtoejenejleocdabGreatDoor
namespace Tx

/-- the word of a sign; the likeliest sign behind others; its word -/
def wordS (ls : List (List Wd)) (k : Nat) : Wd := if k = 1 then [10] else (bw ls).getD (k - 2) []
def bestS (l t : List Int) : Nat := (Pt.best (fun x => (Pt.lv l x (Pt.last2 t)).1) (En.most l)).1
def gsW (ls : List (List Wd)) (t : List Int) : Wd := wordS ls (bestS (bt ls) t)

theorem best_sign (ls : List (List Wd)) (t : List Int) : 1 ≤ bestS (bt ls) t ∧ bestS (bt ls) t ≤ En.most (bt ls) ∧ ∀ x, 1 ≤ x → x ≤ En.most (bt ls) → (Pt.lv (bt ls) x (Pt.last2 t)).1 ≤ (Pt.lv (bt ls) (bestS (bt ls) t) (Pt.last2 t)).1 := by
  have hm : 0 < En.most (bt ls) := by rw [bt_most]; omega
  obtain ⟨h1, h2, h3⟩ := Pt.best_pos (fun x => (Pt.lv (bt ls) x (Pt.last2 t)).1) (En.most (bt ls)) hm (Pt.lv_pos (bt_sg ls) 1 hm _).1
  refine ⟨h1, h2, fun x hx1 hx2 => ?_⟩
  have h4 := Pt.best_le (fun x => (Pt.lv (bt ls) x (Pt.last2 t)).1) (En.most (bt ls)) x hx1 hx2
  exact Nat.le_trans h4 (Nat.le_of_eq h3.symm)
/-- of one text -/
def ab2 : Wd := [97, 32, 98, 10, 97, 32, 98]
theorem ab2_lines : linesOf ab2 = [[[97], [98]], [[97], [98]]] := by decide
theorem ab2_err : errB ab2 = 0 := by unfold errB; rw [ab2_lines]; decide
theorem ab2_bw : bw [[[97], [98]], [[97], [98]]] = [[97], [98]] := by
  refine rising_eq (bw_rising _) (by decide) (fun x => ?_)
  rw [mem_bw]
  simp
theorem ab2_bt : bt [[[97], [98]], [[97], [98]]] = [2, 3, 1, 2, 3, 1, 0] := by
  unfold bt
  rw [ab2_bw]
  decide +kernel
theorem ab2_signs : sgn [[97], [98]] [97] = some [2] := by decide +kernel
theorem ab2_signs2 : sgn [[97], [98]] [97, 32, 98] = some [2, 3] := by decide +kernel
theorem ab2_best : bestS [2, 3, 1, 2, 3, 1, 0] [2] = 3 := by decide +kernel
theorem ab2_guess : gsW [[[97], [98]], [[97], [98]]] [2] = [98] := by
  unfold gsW wordS
  rw [ab2_bt, ab2_best, ab2_bw]
  rfl
theorem ab2_count : cntW [[[97], [98]], [[97], [98]]] [97, 32, 98] = 2 := by
  unfold cntW
  rw [ab2_bw, ab2_signs2, ab2_bt]
  decide +kernel
end Tx
end Go.Proofs.YtoejenejleocdabGreatDoor

/- Plain mathematics of how the document's own answer reads a text: byte by byte; its words, the least first. No program is named here. -/
namespace Go.Proofs.YtoejenejleocdabGreatDoor
namespace Tx

/-- a word, or a line's end, as bytes -/
def tokW : Option Wd → Wd
  | none => [10]
  | some w => w
/-- the words that have begun are ended -/
def shutW (own : Wd) (acc : List (Option Wd)) : List (Option Wd) := if own = [] then acc else acc ++ [some own]
/-- byte by byte: what is read so far, and the word that has begun; none: a word has no form -/
def rdB : Wd → Wd → List (Option Wd) → Option (List (Option Wd) × Wd)
  | [], own, acc => some (acc, own)
  | c :: r, own, acc => if c ≠ 32 ∧ c ≠ 10 then rdB r (own ++ [c]) acc
      else if own ≠ [] ∧ isWord own = false then none
      else rdB r [] (if c = 10 then shutW own acc ++ [none] else shutW own acc)
theorem rdB_app : ∀ (x y own : Wd) (acc : List (Option Wd)), rdB (x ++ y) own acc = match rdB x own acc with
    | none => none
    | some p => rdB y p.2 p.1
  | [], y, own, acc => rfl
  | c :: x, y, own, acc => by
    simp only [List.cons_append, rdB]
    by_cases h1 : c ≠ 32 ∧ c ≠ 10
    · rw [if_pos h1, if_pos h1]; exact rdB_app x y _ _
    · rw [if_neg h1, if_neg h1]
      by_cases h2 : own ≠ [] ∧ isWord own = false
      · rw [if_pos h2, if_pos h2]
      · rw [if_neg h2, if_neg h2]; exact rdB_app x y _ _
theorem rdB_ten (own : Wd) (acc : List (Option Wd)) (y : Wd) : rdB (10 :: y) own acc = if own ≠ [] ∧ isWord own = false then none else rdB y [] (shutW own acc ++ [none]) := by
  simp only [rdB]
  rw [if_neg (by simp)]
  simp
theorem rdB_space (own : Wd) (acc : List (Option Wd)) (y : Wd) : rdB (32 :: y) own acc = if own ≠ [] ∧ isWord own = false then none else rdB y [] (shutW own acc) := by
  simp only [rdB]
  rw [if_neg (by simp)]
  simp
theorem rdB_on (c : UInt8) (own : Wd) (acc : List (Option Wd)) (y : Wd) (h : c ≠ 32) (h2 : c ≠ 10) : rdB (c :: y) own acc = rdB y (own ++ [c]) acc := by
  simp only [rdB]
  rw [if_pos ⟨h, h2⟩]
/-- a line -/
theorem rdB_line : ∀ (x own : Wd) (acc : List (Option Wd)), (∀ c ∈ x, c ≠ 10) → rdB (x ++ [10]) own acc = if (fb own x).all isWord = true then some (acc ++ (fb own x).map some ++ [none], []) else none
  | [], own, acc, _ => by
    rw [List.nil_append, rdB_ten]
    by_cases h : own = []
    · subst h
      simp [rdB, fb, shutW]
    · have e : fb own [] = [own] := by simp [fb, h]
      rw [e]
      cases h2 : isWord own <;> simp [rdB, shutW, h, h2]
  | c :: x, own, acc, hx => by
    have hc : c ≠ 10 := hx c (by simp)
    have hx' : ∀ d ∈ x, d ≠ 10 := fun d hd => hx d (by simp [hd])
    rw [List.cons_append]
    by_cases h1 : c = 32
    · subst h1
      rw [rdB_space, rdB_line x [] _ hx']
      by_cases h : own = []
      · subst h
        have e : fb [] (32 :: x) = fb [] x := by simp [fb]
        rw [e]
        simp [shutW]
      · have e : fb own (32 :: x) = own :: fb [] x := by simp [fb, h]
        rw [e]
        cases h2 : isWord own <;> simp [shutW, h, h2]
    · have e : fb own (c :: x) = fb (own ++ [c]) x := by simp [fb, h1]
      rw [rdB_on c own acc _ h1 hc, e]
      exact rdB_line x _ acc hx'
theorem toks_cons_end (L : List Wd) (r : List (List Wd)) : toks (L :: r) ++ [none] = L.map some ++ none :: (if r = [] then [] else toks r ++ [none]) := by
  cases r with
  | nil => simp [toks]
  | cons M r => simp [toks]
/-- the first end of a line, if there is one -/
theorem sb_first (l : Wd) : (∀ c ∈ l, c ≠ 10) ∨ ∃ x y, l = x ++ 10 :: y ∧ ∀ c ∈ x, c ≠ 10 := by
  induction l with
  | nil => exact .inl (by simp)
  | cons c l ih =>
    by_cases hc : c = 10
    · exact .inr ⟨[], l, by simp [hc], by simp⟩
    · rcases ih with h | ⟨x, y, rfl, hx⟩
      · exact .inl (fun d hd => by
          rcases List.mem_cons.1 hd with rfl | h2
          · exact hc
          · exact h d h2)
      · exact .inr ⟨c :: x, y, rfl, fun d hd => by
          rcases List.mem_cons.1 hd with rfl | h2
          · exact hc
          · exact hx d h2⟩
/-- a text that ends with a line's end -/
theorem rdB_text : ∀ (n : Nat) (r : Wd), r.length ≤ n → ∀ acc, rdB (r ++ [10]) [] acc = if (cutB r).flatten.all isWord = true then some (acc ++ (toks (cutB r) ++ [none]), []) else none := by
  intro n
  induction n with
  | zero =>
    intro r hr acc
    obtain rfl : r = [] := List.length_eq_zero_iff.1 (by omega)
    simp [rdB, cutB, sb, fieldsB, fb, toks, shutW]
  | succ n ih =>
    intro r hr acc
    rcases sb_first r with h | ⟨x, y, rfl, hx⟩
    · rw [rdB_line r [] acc h]
      have e : cutB r = [fieldsB r] := by unfold cutB; rw [sb_only r h]; rfl
      rw [e]
      simp only [List.flatten_cons, List.flatten_nil, List.append_nil, toks_one, fieldsB]
      split <;> simp
    · have e : cutB (x ++ 10 :: y) = fieldsB x :: cutB y := by unfold cutB; rw [sb_end x y hx]; rfl
      have hy : y.length ≤ n := by simp at hr; omega
      rw [show (x ++ 10 :: y) ++ [10] = (x ++ [10]) ++ (y ++ [10]) by simp, rdB_app, rdB_line x [] acc hx, e]
      simp only [List.flatten_cons, List.all_append]
      rw [toks_cons_end, if_neg (cutB_ne y)]
      by_cases h1 : (fb [] x).all isWord = true
      · rw [if_pos h1]
        simp only [fieldsB, h1, Bool.true_and]
        rw [ih y hy]
        split
        · simp
        · rfl
      · rw [if_neg h1]
        have : (fieldsB x).all isWord = false := by unfold fieldsB; simpa using h1
        rw [this]
        simp
/-- what is read: a line's end is put behind where it lacks -/
def endB (l : Wd) : Wd := if Lib.hasSuffix l [10] = true then l else l ++ [10]
theorem endB_trim (l : Wd) : endB l = trimB l ++ [10] := by
  unfold endB trimB Lib.trimSuffix
  by_cases h : Lib.hasSuffix l [10] = true
  · rw [if_pos h, if_pos h]
    unfold Lib.hasSuffix at h
    rw [List.isSuffixOf_iff_suffix] at h
    obtain ⟨r, rfl⟩ := h
    simp
  · rw [if_neg h, if_neg h]
theorem rdB_all (l : Wd) : rdB (endB l) [] [] = if (linesOf l).flatten.all isWord = true then some (toks (linesOf l) ++ [none], []) else none := by
  rw [endB_trim, rdB_text _ _ (Nat.le_refl _)]
  rfl

/-- the least of the words behind one, so far -/
def leastB (last : Option Wd) : List (Option Wd) → Wd → Wd
  | [], m => m
  | none :: r, m => leastB last r m
  | some w :: r, m => leastB last r (if (∀ x, last = some x → x < w) ∧ (m = [] ∨ w < m) then w else m)
theorem wd_total (a b : Wd) : a ≤ b ∨ b < a := by
  by_cases h : b < a
  · exact .inr h
  · exact .inl (List.not_lt.1 h)
theorem leastB_is (last : Option Wd) : ∀ (ts : List (Option Wd)) (m : Wd), (∀ w, some w ∈ ts → w ≠ []) →
    (leastB last ts m = m ∨ (some (leastB last ts m) ∈ ts ∧ ∀ x, last = some x → x < leastB last ts m)) ∧
    (m ≠ [] → leastB last ts m ≠ [] ∧ leastB last ts m ≤ m) ∧
    (∀ w, some w ∈ ts → (∀ x, last = some x → x < w) → leastB last ts m ≠ [] ∧ leastB last ts m ≤ w)
  | [], m, _ => ⟨.inl rfl, fun h => ⟨h, List.le_refl _⟩, fun w hw => by simp at hw⟩
  | none :: r, m, h => by
    obtain ⟨h1, h2, h3⟩ := leastB_is last r m (fun w hw => h w (by simp [hw]))
    refine ⟨?_, h2, fun w hw hx => h3 w (by simpa using hw) hx⟩
    rcases h1 with h1 | ⟨h1, h4⟩
    · exact .inl h1
    · exact .inr ⟨by simp only [leastB]; simp [h1], h4⟩
  | some u :: r, m, h => by
    have hu : u ≠ [] := h u (by simp)
    obtain ⟨h1, h2, h3⟩ := leastB_is last r (if (∀ x, last = some x → x < u) ∧ (m = [] ∨ u < m) then u else m) (fun w hw => h w (by simp [hw]))
    have e : leastB last (some u :: r) m = leastB last r (if (∀ x, last = some x → x < u) ∧ (m = [] ∨ u < m) then u else m) := rfl
    rw [e]
    by_cases hc : (∀ x, last = some x → x < u) ∧ (m = [] ∨ u < m)
    · rw [if_pos hc] at h1 h2 h3 ⊢
      obtain ⟨k1, k2⟩ := h2 hu
      refine ⟨.inr ?_, fun hm => ⟨k1, ?_⟩, fun w hw hx => ?_⟩
      · rcases h1 with h1 | ⟨h1, h4⟩
        · rw [h1]; exact ⟨by simp, hc.1⟩
        · exact ⟨by simp [h1], h4⟩
      · rcases hc.2 with h5 | h5
        · exact absurd h5 hm
        · exact wd_le_trans k2 (wd_le_of_lt h5)
      · rcases List.mem_cons.1 hw with h6 | h6
        · rw [Option.some.inj h6]; exact ⟨k1, k2⟩
        · exact h3 w h6 hx
    · rw [if_neg hc] at h1 h2 h3 ⊢
      refine ⟨?_, h2, fun w hw hx => ?_⟩
      · rcases h1 with h1 | ⟨h1, h4⟩
        · exact .inl h1
        · exact .inr ⟨by simp [h1], h4⟩
      · rcases List.mem_cons.1 hw with h6 | h6
        · have h8 := Option.some.inj h6
          rw [h8] at hx ⊢
          have hm : m ≠ [] := fun hm => hc ⟨hx, .inl hm⟩
          have hle : m ≤ u := by
            rcases wd_total m u with h7 | h7
            · exact h7
            · exact absurd ⟨hx, .inr h7⟩ hc
          obtain ⟨k1, k2⟩ := h2 hm
          exact ⟨k1, wd_le_trans k2 hle⟩
        · exact h3 w h6 hx
/-- the last of the first k words -/
def lastK (ws : List Wd) (k : Nat) : Option Wd := if k = 0 then none else some (ws.getD (k - 1) [])
theorem rising_lt {ws : List Wd} (hr : ws.Pairwise (· < ·)) {i j : Nat} (hij : i < j) (hj : j < ws.length) : ws.getD i [] < ws.getD j [] := by
  have := List.pairwise_iff_getElem.1 hr i j (by omega) hj hij
  rw [show ws.getD i [] = ws[i] from by simp [show i < ws.length by omega], show ws.getD j [] = ws[j] from by simp [hj]]
  exact this
theorem wd_irrefl (a : Wd) : ¬ a < a := List.lt_irrefl a
theorem leastB_next {ws : List Wd} (hr : ws.Pairwise (· < ·)) (hne : ∀ w ∈ ws, w ≠ []) (ts : List (Option Wd)) (hts : ∀ w, some w ∈ ts ↔ w ∈ ws) (k : Nat) (hk : k ≤ ws.length) : leastB (lastK ws k) ts [] = ws.getD k [] := by
  obtain ⟨h1, _, h3⟩ := leastB_is (lastK ws k) ts [] (fun w hw => hne w ((hts w).1 hw))
  have hcond : ∀ j, j < ws.length → ((∀ x, lastK ws k = some x → x < ws.getD j []) ↔ k ≤ j) := by
    intro j hj
    unfold lastK
    by_cases h0 : k = 0
    · rw [if_pos h0]; simp [h0]
    · rw [if_neg h0]
      constructor
      · intro h
        have h4 := h _ rfl
        by_cases h5 : k ≤ j
        · exact h5
        · exfalso
          by_cases h6 : j = k - 1
          · subst h6; exact wd_irrefl _ h4
          · have h7 := rising_lt hr (i := j) (j := k - 1) (by omega) (by omega)
            exact wd_irrefl _ (wd_lt_of_le_of_lt (wd_le_of_lt h4) h7)
      · intro h x hx
        cases hx
        exact rising_lt hr (by omega) hj
  by_cases hlt : k < ws.length
  · have hm : ws.getD k [] ∈ ws := getD_mem ws [] k hlt
    obtain ⟨k1, k2⟩ := h3 _ ((hts _).2 hm) ((hcond k hlt).2 (Nat.le_refl _))
    rcases h1 with h1 | ⟨h1, h4⟩
    · exact absurd h1 k1
    · obtain ⟨j, hj, he⟩ := List.mem_iff_getElem.1 ((hts _).1 h1)
      have he' : ws.getD j [] = leastB (lastK ws k) ts [] := by rw [← he]; simp [hj]
      rw [← he'] at h4 k2 ⊢
      have hkj := (hcond j hj).1 h4
      by_cases e : k = j
      · subst e; rfl
      · exact absurd (wd_lt_of_le_of_lt k2 (rising_lt hr (i := k) (j := j) (by omega) hj)) (wd_irrefl _)
  · rcases h1 with h1 | ⟨h1, h4⟩
    · rw [h1]; simp [show ws.length ≤ k by omega]
    · obtain ⟨j, hj, he⟩ := List.mem_iff_getElem.1 ((hts _).1 h1)
      have he' : ws.getD j [] = leastB (lastK ws k) ts [] := by rw [← he]; simp [hj]
      rw [← he'] at h4
      have := (hcond j hj).1 h4
      omega
theorem mem_all_toks (ls : List (List Wd)) (w : Wd) : some w ∈ toks ls ++ [none] ↔ w ∈ bw ls := by
  rw [List.mem_append, mem_toks, mem_bw]
  simp
/-- the words, the least first -/
theorem leastB_bw (ls : List (List Wd)) (h : Formed ls) (k : Nat) (hk : k ≤ (bw ls).length) : leastB (lastK (bw ls) k) (toks ls ++ [none]) [] = (bw ls).getD k [] :=
  leastB_next (bw_rising ls) (fun w hw => (isWord_ne ((List.all_eq_true.1 (bw_form h)) w hw)).1) _ (mem_all_toks ls) k hk

/-- where a word stands among words, looked for one by one -/
theorem find_one {ws : List Wd} (hr : ws.Pairwise (· < ·)) (w : Wd) (k : Nat) (hk : k < ws.length) : ws.getD k [] = w ↔ findIn ws w = some k := by
  constructor
  · rintro rfl; exact findIn_at hr hk
  · intro h; exact (findIn_some h).2
end Tx
end Go.Proofs.YtoejenejleocdabGreatDoor
