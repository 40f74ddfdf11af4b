import Derived.Test.YtoejenejleocdabGreatDoorJe
import Derived.Test.YtoejenejleocdabGreatDoorJb
import Derived.Test.YtoejenejleocdabGreatDoorJd
/- Plain mathematics of an index: which ends begin with signs, by what stands ahead of the ends. No program is named here. -/
namespace Go.Proofs.YtoejenejleocdabGreatDoor
namespace En

/-- signs stand at a place -/
def stands (l s : List Int) (p : Nat) : Bool := s.isPrefixOf (l.drop p)
/-- how many ends are less than signs; and how many are less, or begin with them -/
def lo (l s : List Int) : Nat := ((List.range l.length).filter fun p => decide (cl (l.drop p) s < 0)).length
def hi (l s : List Int) : Nat := ((List.range l.length).filter fun p => decide (cl (l.drop p) s < 0) || stands l s p).length

theorem filter_down (P : Nat → Bool) (n : Nat) (h : ∀ i j, i < j → j < n → P j = true → P i = true) (i : Nat) (hi : i < n) : P i = true ↔ i < ((List.range n).filter P).length := by
  induction n with
  | zero => omega
  | succ n ih =>
    rw [List.range_succ, List.filter_append, List.length_append]
    have hle : ((List.range n).filter P).length ≤ n := Nat.le_trans (List.length_filter_le _ _) (by simp)
    cases hn : P n with
    | true =>
      have hall : (List.range n).filter P = List.range n := by
        rw [List.filter_eq_self]
        intro a ha
        exact h a n (List.mem_range.1 ha) (by omega) hn
      rw [hall]
      simp [hn]
      by_cases hin : i = n
      · subst hin; exact ⟨fun _ => by omega, fun _ => hn⟩
      · exact ⟨fun _ => hi, fun _ => h i n (by omega) (by omega) hn⟩
    | false =>
      simp only [List.filter_cons, hn, List.filter_nil]
      by_cases hin : i = n
      · subst hin
        rw [hn]
        constructor
        · intro h; cases h
        · intro h; simp at h; omega
      · have := ih (fun a b hab hb => h a b hab (by omega)) (by omega)
        simpa using this

/-- counted by places, or by ends -/
theorem filter_ends (l : List Int) (P : Nat → Bool) : ((List.range l.length).filter fun i => P (eat l i)).length = ((List.range l.length).filter P).length := by
  have hp := (endsOf_is l).1
  have e : (List.range l.length).map (eat l) = endsOf l := by
    apply List.ext_getElem
    · rw [List.length_map, List.length_range, endsOf_length]
    · intro i h1 h2
      simp [eat, h2]
  have h1 := (hp.filter P).length_eq
  rw [← h1, ← e, List.filter_map, List.length_map]
  rfl

theorem stands_lcp (l s : List Int) (p : Nat) : stands l s p = true ↔ lcp s (l.drop p) = s.length := by
  unfold stands
  generalize l.drop p = b
  induction s generalizing b with
  | nil => simp [lcp_nil]
  | cons x s ih =>
    cases b with
    | nil => simp [List.isPrefixOf, lcp]
    | cons y b =>
      rw [List.isPrefixOf]
      unfold lcp
      by_cases hxy : x = y
      · subst hxy
        simp [ih b]
      · simp [hxy]

theorem cl_prefix (s b : List Int) (h : lcp s b = s.length) : cl s b ≤ 0 := by
  induction s generalizing b with
  | nil => cases b <;> simp [cl]
  | cons x s ih =>
    cases b with
    | nil => simp [lcp] at h
    | cons y b =>
      unfold lcp at h
      by_cases hxy : x = y
      · subst hxy
        simp at h
        have := ih b h
        unfold cl
        simpa using this
      · simp [hxy] at h

theorem lcp_share : ∀ (s a b : List Int), lcp s b = s.length → s.length ≤ lcp a b → lcp s a = s.length
  | [], a, _, _, _ => by rw [lcp_nil]; rfl
  | x :: s, a, [], h, _ => by rw [lcp_nil'] at h; simp at h
  | x :: s, [], y :: b, _, h => by rw [lcp_nil] at h; simp at h
  | x :: s, z :: a, y :: b, h1, h2 => by
    unfold lcp at h1 h2 ⊢
    by_cases e1 : x = y
    · by_cases e2 : z = y
      · subst e1 e2
        simp at h1 h2 ⊢
        exact lcp_share s a b h1 h2
      · simp [e2] at h2
    · simp [e1] at h1

/-- the ends that begin with signs stand together -/
theorem ends_lo (l s : List Int) (i : Nat) (hi' : i < l.length) : cl (l.drop (eat l i)) s < 0 ↔ i < lo l s := by
  have h := filter_down (fun i => decide (cl (l.drop (eat l i)) s < 0)) l.length (fun a b hab hb h => by
    simp only [decide_eq_true_eq] at h ⊢
    exact cl_trans (eat_elt l a b hab hb) h) i hi'
  rw [filter_ends l (fun p => decide (cl (l.drop p) s < 0))] at h
  simpa [lo] using h
theorem ends_hi (l s : List Int) (i : Nat) (hi' : i < l.length) : (cl (l.drop (eat l i)) s < 0 ∨ stands l s (eat l i) = true) ↔ i < hi l s := by
  have h := filter_down (fun i => decide (cl (l.drop (eat l i)) s < 0) || stands l s (eat l i)) l.length (fun a b hab hb h => by
    simp only [Bool.or_eq_true, decide_eq_true_eq] at h ⊢
    have hlt := eat_elt l a b hab hb
    rcases h with h | h
    · exact .inl (cl_trans hlt h)
    · by_cases hc : cl (l.drop (eat l a)) s < 0
      · exact .inl hc
      · right
        rw [stands_lcp] at h ⊢
        have h1 : cl s (l.drop (eat l a)) ≤ 0 := by have := cl_neg (l.drop (eat l a)) s; omega
        have h2 := lcp_mono h1 (Int.le_of_lt hlt)
        rw [h] at h2
        exact lcp_share s (l.drop (eat l a)) (l.drop (eat l b)) h h2) i hi'
  rw [filter_ends l (fun p => decide (cl (l.drop p) s < 0) || stands l s p)] at h
  simpa [hi] using h

theorem ends_span (l s : List Int) (i : Nat) (h : i < l.length) : stands l s (eat l i) = true ↔ lo l s ≤ i ∧ i < hi l s := by
  have h1 := ends_lo l s i h
  have h2 := ends_hi l s i h
  constructor
  · intro hs
    refine ⟨?_, h2.1 (.inr hs)⟩
    rcases Nat.lt_or_ge i (lo l s) with hlt | hge
    · have hc := h1.2 hlt
      rw [stands_lcp] at hs
      have := cl_prefix s _ hs
      have := cl_neg (l.drop (eat l i)) s
      omega
    · exact hge
  · rintro ⟨g1, g2⟩
    rcases h2.2 g2 with hc | hs
    · have := h1.1 hc; omega
    · exact hs
theorem lo_le (l s : List Int) : lo l s ≤ l.length := Nat.le_trans (List.length_filter_le _ _) (by simp)
theorem hi_le (l s : List Int) : hi l s ≤ l.length := Nat.le_trans (List.length_filter_le _ _) (by simp)

/-- how many numbers are less -/
def lessN (l : List Int) (x : Int) : Nat := ((List.range l.length).filter fun q => decide (l.getD q 0 < x)).length
/-- what stands ahead of the i-th end -/
def ah (l : List Int) (i : Nat) : Int := l.getD (if eat l i = 0 then l.length - 1 else eat l i - 1) 0

theorem filter_or (n : Nat) (P Q : Nat → Bool) (h : ∀ q, q < n → P q = true → Q q = false) : ((List.range n).filter fun q => P q || Q q).length = ((List.range n).filter P).length + ((List.range n).filter Q).length := by
  induction n with
  | zero => rfl
  | succ n ih =>
    have ih' := ih (fun q hq => h q (by omega))
    rw [List.range_succ, List.filter_append, List.filter_append, List.filter_append, List.length_append, List.length_append, List.length_append, ih']
    have hn := h n (by omega)
    cases hP : P n with
    | true => simp [hP, hn hP]; omega
    | false => cases hQ : Q n <;> simp [hP, hQ]; omega
theorem filter_shift (n : Nat) (f : Nat → Bool) (h0 : f 0 = false) : ((List.range n).filter fun q => f (q + 1)).length = ((List.range (n + 1)).filter f).length := by
  rw [List.range_succ_eq_map, List.filter_cons, if_neg (by simp [h0]), List.filter_map, List.length_map]
  rfl
theorem filter_below (n m : Nat) (hm : m ≤ n) (f : Nat → Bool) : ((List.range n).filter fun i => f i && decide (i < m)).length = ((List.range m).filter f).length := by
  induction n with
  | zero => obtain rfl : m = 0 := by omega
            rfl
  | succ n ih =>
    by_cases hmn : m ≤ n
    · rw [List.range_succ, List.filter_append, List.length_append, ih hmn]
      have : (f n && decide (n < m)) = false := by simp; intro _; omega
      simp [this]
    · obtain rfl : m = n + 1 := by omega
      congr 1
      apply List.filter_congr
      intro i hi
      have := List.mem_range.1 hi
      simp; intro _; omega

/-- ONE SIGN AHEAD: the ends by their first number, and by what is behind it -/
theorem step_back (l : List Int) (x : Int) (R : Nat → Bool) (m : Nat) (hg : l.getD (l.length - 1) 0 ≠ x) (hm : m ≤ l.length) (hR : ∀ i, i < l.length → (R (eat l i) = true ↔ i < m)) :
    ((List.range l.length).filter fun q => decide (l.getD q 0 < x) || (decide (l.getD q 0 = x) && R (q + 1))).length = lessN l x + ((List.range m).filter fun i => decide (ah l i = x)).length := by
  rw [filter_or _ (fun q => decide (l.getD q 0 < x)) (fun q => decide (l.getD q 0 = x) && R (q + 1)) (fun q _ h => by
    simp only [decide_eq_true_eq] at h
    rw [decide_eq_false (by omega)]; rfl)]
  unfold lessN
  congr 1
  by_cases hn : l.length = 0
  · have : m = 0 := by omega
    subst this
    rw [hn]; rfl
  have e1 : ((List.range l.length).filter fun q => decide (l.getD q 0 = x) && R (q + 1)) = (List.range l.length).filter fun q => (fun p => decide (p ≠ 0) && (decide (l.getD (p - 1) 0 = x) && R p)) (q + 1) := by
    apply List.filter_congr
    intro q _
    simp
  rw [e1, filter_shift _ (fun p => decide (p ≠ 0) && (decide (l.getD (p - 1) 0 = x) && R p)) (by simp), List.range_succ, List.filter_append, List.length_append]
  have e2 : ([l.length].filter fun p => decide (p ≠ 0) && (decide (l.getD (p - 1) 0 = x) && R p)) = [] := by
    rw [List.filter_cons, if_neg]
    · rfl
    · rw [decide_eq_false (show ¬ l.getD (l.length - 1) 0 = x from hg)]; simp
  rw [e2, List.length_nil, Nat.add_zero, ← filter_ends l (fun p => decide (p ≠ 0) && (decide (l.getD (p - 1) 0 = x) && R p)), ← filter_below l.length m hm]
  congr 1
  apply List.filter_congr
  intro i hi
  have hi' := List.mem_range.1 hi
  have hr := hR i hi'
  rw [Bool.eq_iff_iff]
  simp only [Bool.and_eq_true, decide_eq_true_eq, ne_eq]
  unfold ah
  by_cases h0 : eat l i = 0
  · rw [if_pos h0]
    constructor
    · rintro ⟨h1, _⟩; exact absurd h0 h1
    · rintro ⟨h1, _⟩; exact absurd h1 hg
  · rw [if_neg h0, hr]
    constructor
    · rintro ⟨_, h1, h2⟩; exact ⟨h1, h2⟩
    · rintro ⟨h1, h2⟩; exact ⟨h0, h1, h2⟩

theorem cl_cons (y x : Int) (t s : List Int) : cl (y :: t) (x :: s) < 0 ↔ y < x ∨ (y = x ∧ cl t s < 0) := by
  rw [show cl (y :: t) (x :: s) = if y < x then -1 else if x < y then 1 else cl t s from by rw [cl]]
  by_cases h1 : y < x
  · simp [h1]
  · by_cases h2 : x < y
    · rw [if_neg h1, if_pos h2]; constructor
      · intro h; omega
      · rintro (h | ⟨h, _⟩) <;> omega
    · rw [if_neg h1, if_neg h2]; constructor
      · intro h; exact .inr ⟨by omega, h⟩
      · rintro (h | ⟨_, h⟩)
        · omega
        · exact h
theorem stands_cons (l s : List Int) (x : Int) (q : Nat) (hq : q < l.length) : stands l (x :: s) q = (decide (l.getD q 0 = x) && stands l s (q + 1)) := by
  unfold stands
  rw [drop_cons l q hq, List.isPrefixOf]
  congr 1
  rw [Bool.eq_iff_iff]
  simp only [beq_iff_eq, decide_eq_true_eq]
  exact ⟨fun h => h.symm, fun h => h.symm⟩

theorem lo_cons (l s : List Int) (x : Int) (hg : l.getD (l.length - 1) 0 ≠ x) : lo l (x :: s) = lessN l x + ((List.range (lo l s)).filter fun i => decide (ah l i = x)).length := by
  rw [← step_back l x (fun p => decide (cl (l.drop p) s < 0)) (lo l s) hg (lo_le l s) (fun i hi => by simp only [decide_eq_true_eq]; exact ends_lo l s i hi)]
  unfold lo
  congr 1
  apply List.filter_congr
  intro q hq
  rw [drop_cons l q (List.mem_range.1 hq), Bool.eq_iff_iff]
  simp only [Bool.or_eq_true, Bool.and_eq_true, decide_eq_true_eq]
  exact cl_cons _ _ _ _
theorem hi_cons (l s : List Int) (x : Int) (hg : l.getD (l.length - 1) 0 ≠ x) : hi l (x :: s) = lessN l x + ((List.range (hi l s)).filter fun i => decide (ah l i = x)).length := by
  rw [← step_back l x (fun p => decide (cl (l.drop p) s < 0) || stands l s p) (hi l s) hg (hi_le l s) (fun i hi => by simp only [Bool.or_eq_true, decide_eq_true_eq]; exact ends_hi l s i hi)]
  unfold hi
  congr 1
  apply List.filter_congr
  intro q hq
  have hq' := List.mem_range.1 hq
  rw [stands_cons l s x q hq', drop_cons l q hq', Bool.eq_iff_iff]
  simp only [Bool.or_eq_true, Bool.and_eq_true, decide_eq_true_eq]
  rw [cl_cons]
  constructor
  · rintro ((h | ⟨h1, h2⟩) | ⟨h1, h2⟩)
    · exact .inl h
    · exact .inr ⟨h1, .inl h2⟩
    · exact .inr ⟨h1, .inr h2⟩
  · rintro (h | ⟨h1, h2 | h2⟩)
    · exact .inl (.inl h)
    · exact .inl (.inr ⟨h1, h2⟩)
    · exact .inr ⟨h1, h2⟩
/-- no signs: all ends -/
theorem lo_nil (l : List Int) : lo l [] = 0 := by
  unfold lo
  rw [List.length_eq_zero_iff, List.filter_eq_nil_iff]
  intro p _ h
  simp only [decide_eq_true_eq] at h
  cases hd : l.drop p <;> rw [hd] at h <;> simp [cl] at h
theorem hi_nil (l : List Int) : hi l [] = l.length := by
  unfold hi
  rw [List.filter_eq_self.2]
  · simp
  · intro p _
    simp [stands]

end En
end Go.Proofs.YtoejenejleocdabGreatDoor

/- Plain mathematics of an index: the span of the ends that begin with signs, sign by sign; how many places there are, and where. No program is named here. -/
namespace Go.Proofs.YtoejenejleocdabGreatDoor
namespace En

/-- a list of signs -/
structure Sg (l : List Int) : Prop where
  pos : 0 < l.length
  last : l.getD (l.length - 1) 0 = 0
  above : ∀ i, i + 1 < l.length → 0 < l.getD i 0
theorem Sg.of_good {l : List Int} (h : good l = true) : Sg l := by
  unfold good at h
  simp only [Bool.and_eq_true, decide_eq_true_eq, beq_iff_eq, List.all_eq_true] at h
  obtain ⟨⟨h1, h2⟩, h3⟩ := h
  refine ⟨h1, h2, fun i hi => h3 _ ?_⟩
  have h4 : i < (l.take (l.length - 1)).length := by rw [List.length_take]; omega
  have : (l.take (l.length - 1))[i] = l.getD i 0 := by
    rw [List.getElem_take]
    simp [show i < l.length by omega]
  rw [← this]
  exact List.getElem_mem h4
theorem Sg.nn {l : List Int} (h : Sg l) (i : Nat) : 0 ≤ l.getD i 0 := by
  rcases Nat.lt_trichotomy (i + 1) l.length with hi | hi | hi
  · have := h.above i hi; omega
  · have := h.last; rw [← hi] at this; simp only [Nat.add_sub_cancel] at this; omega
  · rw [List.getD_eq_getElem?_getD, List.getElem?_eq_none (by omega)]; simp
theorem Sg.zero {l : List Int} (h : Sg l) (i : Nat) (hi : i < l.length) : l.getD i 0 = 0 ↔ i + 1 = l.length := by
  constructor
  · intro h0
    rcases Nat.lt_trichotomy (i + 1) l.length with h1 | h1 | h1
    · have := h.above i h1; omega
    · exact h1
    · omega
  · intro h1
    have := h.last; rw [← h1] at this; simpa using this

/-- the greatest -/
def most (l : List Int) : Nat := l.foldr (fun x m => max x.toNat m) 0
theorem most_ge (l : List Int) : ∀ i, (l.getD i 0).toNat ≤ most l := by
  induction l with
  | nil => intro i; simp [most]
  | cons x l ih =>
    intro i
    cases i with
    | zero => simp [most]; omega
    | succ i =>
      have := ih i
      simp only [most, List.foldr_cons, List.getD_cons_succ] at this ⊢
      omega
theorem most_in (l : List Int) (h : 0 < l.length) : ∃ i, i < l.length ∧ (l.getD i 0).toNat = most l := by
  induction l with
  | nil => simp at h
  | cons x l ih =>
    by_cases hl : 0 < l.length
    · obtain ⟨i, hi, he⟩ := ih hl
      by_cases hx : x.toNat ≤ most l
      · refine ⟨i + 1, by simpa using hi, ?_⟩
        simp only [List.getD_cons_succ, he]
        simp only [most, List.foldr_cons] at hx ⊢; omega
      · refine ⟨0, by simp, ?_⟩
        simp only [most, List.foldr_cons, List.getD_cons_zero] at hx ⊢; omega
    · obtain rfl : l = [] := by cases l <;> simp_all
      exact ⟨0, by simp, by simp [most]⟩

theorem lo_le_hi (l s : List Int) : lo l s ≤ hi l s := by
  unfold lo hi
  have e : ((List.range l.length).filter fun p => decide (cl (l.drop p) s < 0)) = ((List.range l.length).filter fun p => decide (cl (l.drop p) s < 0) || stands l s p).filter fun p => decide (cl (l.drop p) s < 0) := by
    rw [List.filter_filter]
    apply List.filter_congr
    intro p _
    cases decide (cl (l.drop p) s < 0) <;> simp
  rw [e]
  exact List.length_filter_le _ _

/-- the span; 0 and 0: there are none -/
def spn (l s : List Int) : Nat × Nat := if lo l s < hi l s then (lo l s, hi l s) else (0, 0)
theorem spn_le (l s : List Int) : (spn l s).1 ≤ (spn l s).2 ∧ (spn l s).2 ≤ l.length := by
  unfold spn
  have := hi_le l s
  split <;> simp <;> omega
theorem spn_nil {l : List Int} (h : 0 < l.length) : spn l [] = (0, l.length) := by unfold spn; rw [lo_nil, hi_nil, if_pos h]
theorem spn_iff (l s : List Int) (i : Nat) (h : i < l.length) : stands l s (eat l i) = true ↔ (spn l s).1 ≤ i ∧ i < (spn l s).2 := by
  rw [ends_span l s i h]
  unfold spn
  split
  · rfl
  · simp; omega
theorem spn_none (l s : List Int) : spn l s = (0, 0) ↔ ∀ p, p < l.length → stands l s p = false := by
  constructor
  · intro h p hp
    obtain ⟨i, hi, rfl⟩ := eat_onto l p hp
    have := spn_iff l s i hi
    rw [h] at this
    cases hs : stands l s (eat l i)
    · rfl
    · have := this.1 hs; simp at this
  · intro h
    unfold spn
    rw [if_neg]
    intro hlt
    have h1 : lo l s < l.length := Nat.lt_of_lt_of_le hlt (hi_le l s)
    have h2 := (ends_span l s (lo l s) h1).2 ⟨Nat.le_refl _, hlt⟩
    rw [h _ (eat_lt l _ h1)] at h2
    cases h2
theorem stands_len (l s : List Int) (p : Nat) (h : stands l s p = true) (hp : p ≤ l.length) : p + s.length ≤ l.length := by
  rw [stands_lcp] at h
  have := (lcp_le s (l.drop p)).2
  rw [List.length_drop] at this
  omega
theorem stands_cons' (l s : List Int) (x : Int) (p : Nat) (hp : p < l.length) (h : stands l (x :: s) p = true) : l.getD p 0 = x ∧ stands l s (p + 1) = true := by
  rw [stands_cons l s x p hp] at h
  simpa using h
theorem spn_cons_none {l s : List Int} (h : spn l s = (0, 0)) (hl : 0 < l.length) (x : Int) : spn l (x :: s) = (0, 0) := by
  rw [spn_none]
  intro p hp
  cases hs : stands l (x :: s) p
  · rfl
  · exfalso
    obtain ⟨_, h2⟩ := stands_cons' l s x p hp hs
    by_cases hp1 : p + 1 < l.length
    · rw [(spn_none l s).1 h _ hp1] at h2; cases h2
    · have h3 := stands_len l (x :: s) p hs (by omega)
      have h4 : s = [] := by simp at h3; rw [List.eq_nil_iff_length_eq_zero]; omega
      subst h4
      rw [spn_nil hl] at h
      injection h with _ h
      omega
theorem spn_app_none {l s : List Int} (h : spn l s = (0, 0)) (hl : 0 < l.length) : ∀ t : List Int, spn l (t ++ s) = (0, 0)
  | [] => h
  | x :: t => spn_cons_none (spn_app_none h hl t) hl x
theorem spn_zero_cons {l : List Int} (h : Sg l) (x : Int) (s : List Int) : spn l (0 :: x :: s) = (0, 0) := by
  rw [spn_none]
  intro p hp
  cases hs : stands l (0 :: x :: s) p
  · rfl
  · exfalso
    obtain ⟨h1, _⟩ := stands_cons' l _ _ p hp hs
    have := (h.zero p hp).1 h1
    have := stands_len l _ p hs (by omega)
    simp at this; omega
/-- Last elsewhere than at the end -/
theorem spn_within {l : List Int} (h : Sg l) : ∀ (s : List Int), 0 ∈ s.dropLast → spn l s = (0, 0)
  | [], hm => by simp at hm
  | [x], hm => by simp at hm
  | x :: y :: s, hm => by
    rw [List.dropLast_cons_cons] at hm
    rcases List.mem_cons.1 hm with e | hm
    · subst e; exact spn_zero_cons h y s
    · exact spn_cons_none (spn_within h (y :: s) hm) h.pos x

theorem filterMap_same {α β : Type} (f g : α → Option β) : ∀ (l : List α), (∀ x ∈ l, f x = g x) → l.filterMap f = l.filterMap g
  | [], _ => rfl
  | x :: l, h => by
    rw [List.filterMap_cons, List.filterMap_cons, h x (by simp), filterMap_same f g l (fun y hy => h y (by simp [hy]))]
/-- two rising rows with the same numbers are one -/
theorem rising_eq : ∀ {x y : List Nat}, x.Pairwise (· < ·) → y.Pairwise (· < ·) → (∀ a, a ∈ x ↔ a ∈ y) → x = y
  | [], [], _, _, _ => rfl
  | [], b :: y, _, _, h => by have := (h b).2 (by simp); simp at this
  | a :: x, [], _, _, h => by have := (h a).1 (by simp); simp at this
  | a :: x, b :: y, h1, h2, h => by
    obtain ⟨h1a, h1b⟩ := List.pairwise_cons.1 h1
    obtain ⟨h2a, h2b⟩ := List.pairwise_cons.1 h2
    have e : a = b := by
      have p1 := (h a).1 (by simp)
      have p2 := (h b).2 (by simp)
      rcases List.mem_cons.1 p1 with p1 | p1
      · exact p1
      · rcases List.mem_cons.1 p2 with p2 | p2
        · exact p2.symm
        · have := h1a b p2
          have := h2a a p1
          omega
    subst e
    rw [rising_eq h1b h2b (fun c => ?_)]
    constructor
    · intro hc
      have := h1a c hc
      rcases List.mem_cons.1 ((h c).1 (by simp [hc])) with p | p
      · omega
      · exact p
    · intro hc
      have := h2a c hc
      rcases List.mem_cons.1 ((h c).2 (by simp [hc])) with p | p
      · omega
      · exact p

/-- what stands ahead of the ends, as numbers from 0 on -/
def an (l : List Int) : List Nat := (List.range l.length).map fun i => (ah l i).toNat
theorem an_length (l : List Int) : (an l).length = l.length := by simp [an]
theorem an_get (l : List Int) (i : Nat) (h : i < l.length) : (an l).getD i 0 = (ah l i).toNat := by simp [an, h]
theorem Sg.ah {l : List Int} (h : Sg l) (i : Nat) : 0 ≤ ah l i := h.nn _
theorem an_up {l : List Int} (h : Sg l) : aheadOf l ((endsOf l).map fun (i : Nat) => (i : Int)) = (an l).map fun (n : Nat) => (n : Int) := by
  unfold aheadOf an
  rw [List.filterMap_map, List.map_map]
  have e : endsOf l = (List.range l.length).map (eat l) := by
    apply List.ext_getElem
    · rw [List.length_map, List.length_range, endsOf_length]
    · intro i h1 h2
      simp [eat, h1]
  rw [e, List.filterMap_map]
  have : (List.range l.length).filterMap (some ∘ fun i => ah l i) = (List.range l.length).map fun i => ah l i := by rw [List.filterMap_eq_map]
  rw [show (List.range l.length).map ((fun (n : Nat) => (n : Int)) ∘ fun i => (ah l i).toNat) = (List.range l.length).map fun i => ah l i from List.map_congr_left fun i _ => by have := h.ah i; simp; omega, ← this]
  apply filterMap_same
  intro i hi
  have hi' := eat_lt l i (List.mem_range.1 hi)
  simp only [Function.comp]
  rw [if_pos ⟨by omega, by omega⟩]
  unfold En.ah
  congr 2
  simp only [Int.toNat_natCast]
  by_cases h0 : eat l i = 0
  · rw [if_pos h0, if_pos (by omega)]
  · rw [if_neg h0, if_neg (by omega)]

/-- how often a number stands ahead of the first m ends -/
def cnt (l : List Int) (x m : Nat) : Nat := ((an l).take m).count x
theorem cnt_le (l : List Int) (x m : Nat) : cnt l x m ≤ l.length := by
  unfold cnt
  exact Nat.le_trans List.count_le_length (by rw [List.length_take, an_length]; omega)
theorem cnt_eq {l : List Int} (h : Sg l) (x m : Nat) (hm : m ≤ l.length) : cnt l x m = ((List.range m).filter fun i => decide (ah l i = (x : Int))).length := by
  unfold cnt an
  rw [← List.map_take, List.take_range, Nat.min_eq_left hm, List.count_eq_countP, List.countP_map, List.countP_eq_length_filter]
  congr 1
  apply List.filter_congr
  intro i _
  have := h.ah i
  rw [Bool.eq_iff_iff]
  simp
  omega
theorem lessN_le (l : List Int) (x : Int) : lessN l x ≤ l.length := Nat.le_trans (List.length_filter_le _ _) (by simp)
theorem cnt_mono (l : List Int) (x a b : Nat) (h : a ≤ b) : cnt l x a ≤ cnt l x b := by
  unfold cnt
  have : (an l).take a = ((an l).take b).take a := by rw [List.take_take, Nat.min_eq_left h]
  rw [this]
  exact (List.take_sublist _ _).count_le _

/-- what Longer answers of a span -/
def lgr (l : List Int) (f t : Nat) (x : Int) : Nat × Nat :=
  if 0 ≤ x ∧ x ≤ (most l : Int) ∧ (x = 0 → f = 0 ∧ l.length ≤ t) ∧ lessN l x + cnt l x.toNat f < lessN l x + cnt l x.toNat t then (lessN l x + cnt l x.toNat f, lessN l x + cnt l x.toNat t) else (0, 0)

theorem lo_zero {l : List Int} (h : Sg l) : lo l [0] = 0 := by
  unfold lo
  rw [List.length_eq_zero_iff, List.filter_eq_nil_iff]
  intro p hp h1
  simp only [decide_eq_true_eq] at h1
  rw [drop_cons l p (List.mem_range.1 hp), cl_cons] at h1
  have := h.nn p
  rcases h1 with h1 | ⟨_, h1⟩
  · omega
  · cases hd : l.drop (p + 1) <;> rw [hd] at h1 <;> simp [cl] at h1
theorem lessN_zero {l : List Int} (h : Sg l) : lessN l 0 = 0 := by
  unfold lessN
  rw [List.length_eq_zero_iff, List.filter_eq_nil_iff]
  intro p _ h1
  simp only [decide_eq_true_eq] at h1
  have := h.nn p
  omega
theorem filter_one (n k : Nat) (hk : k < n) (P : Nat → Bool) (h : ∀ i, i < n → (P i = true ↔ i = k)) : ((List.range n).filter P).length = 1 := by
  have : (List.range n).filter P = [k] := by
    induction n with
    | zero => omega
    | succ n ih =>
      rw [List.range_succ, List.filter_append]
      by_cases hkn : k = n
      · subst hkn
        have e : (List.range k).filter P = [] := by
          rw [List.filter_eq_nil_iff]
          intro a ha h1
          have := List.mem_range.1 ha
          have := (h a (by omega)).1 h1
          omega
        rw [e]
        simp [(h k (by omega)).2 rfl]
      · rw [ih (by omega) (fun i hi => h i (by omega))]
        have : P n = false := by
          cases hP : P n
          · rfl
          · exact absurd ((h n (by omega)).1 hP).symm hkn
        simp [this]
  rw [this]; rfl
theorem hi_zero {l : List Int} (h : Sg l) : hi l [0] = 1 := by
  unfold hi
  have h0 := lo_zero h
  unfold lo at h0
  rw [List.length_eq_zero_iff, List.filter_eq_nil_iff] at h0
  refine filter_one l.length (l.length - 1) (by have := h.pos; omega) _ (fun i hi => ?_)
  have h1 := h0 i (List.mem_range.2 hi)
  rw [Bool.eq_false_iff.2 h1, Bool.false_or, stands_cons l [] 0 i hi]
  simp only [Bool.and_eq_true, decide_eq_true_eq, stands, List.isPrefixOf, and_true]
  rw [h.zero i hi]
  omega
theorem cnt_zero {l : List Int} (h : Sg l) : cnt l 0 l.length = 1 := by
  rw [cnt_eq h 0 _ (Nat.le_refl _)]
  obtain ⟨k, hk, he⟩ := eat_onto l 0 h.pos
  refine filter_one l.length k hk _ (fun i hi => ?_)
  simp only [decide_eq_true_eq]
  unfold ah
  have hlt := eat_lt l i hi
  constructor
  · intro h1
    apply eat_inj l i k hi hk
    rw [he]
    by_cases h2 : eat l i = 0
    · exact h2
    · rw [if_neg h2] at h1
      have := (h.zero (eat l i - 1) (by omega)).1 h1
      omega
  · rintro rfl
    rw [if_pos he]
    exact h.last

/-- SIGN BY SIGN: Longer of a span is the span of all of it -/
theorem lgr_spn {l : List Int} (h : Sg l) (s : List Int) (x : Int) (hx : x = 0 → s = [] ∨ spn l s ≠ (0, l.length)) : lgr l (spn l s).1 (spn l s).2 x = spn l (x :: s) := by
  have hp := h.pos
  by_cases h0 : x = 0
  · subst h0
    by_cases hs : s = []
    · subst hs
      rw [spn_nil hp]
      unfold lgr spn
      rw [lessN_zero h, lo_zero h, hi_zero h]
      have e1 := cnt_zero h
      have e2 : cnt l 0 0 = 0 := by simp [cnt]
      rw [if_pos ⟨by omega, by omega, fun _ => ⟨rfl, Nat.le_refl _⟩, by simp only [Int.toNat_zero, e1, e2]; omega⟩, if_pos (by omega)]
      simp only [Int.toNat_zero, e1, e2]
    · obtain ⟨y, s, rfl⟩ : ∃ y t, s = y :: t := by cases s with | nil => exact absurd rfl hs | cons y t => exact ⟨y, t, rfl⟩
      rw [spn_zero_cons h]
      unfold lgr
      rw [if_neg]
      rintro ⟨_, _, h3, _⟩
      obtain ⟨h4, h5⟩ := h3 rfl
      rcases hx rfl with h6 | h6
      · cases h6
      · have := spn_le l (y :: s)
        exact h6 (Prod.ext h4 (by show (spn l (y :: s)).2 = l.length; omega))
  · by_cases hr : 0 ≤ x ∧ x ≤ (most l : Int)
    · obtain ⟨hr1, hr2⟩ := hr
      obtain ⟨n, rfl⟩ := Int.eq_ofNat_of_zero_le hr1
      have hg : l.getD (l.length - 1) 0 ≠ ((n : Nat) : Int) := by rw [h.last]; exact fun e => h0 e.symm
      have e1 := lo_cons l s n hg
      have e2 := hi_cons l s n hg
      rw [← cnt_eq h n _ (lo_le l s)] at e1
      rw [← cnt_eq h n _ (hi_le l s)] at e2
      have hle := lo_le_hi l s
      unfold lgr
      simp only [Int.toNat_natCast]
      by_cases hlt : lo l s < hi l s
      · have es : spn l s = (lo l s, hi l s) := by unfold spn; rw [if_pos hlt]
        rw [es]
        simp only [← e1, ← e2]
        unfold spn
        by_cases hc : lo l (((n : Nat) : Int) :: s) < hi l (((n : Nat) : Int) :: s)
        · rw [if_pos hc, if_pos ⟨by omega, hr2, fun e => absurd e h0, hc⟩]
        · rw [if_neg hc, if_neg (fun hh => hc hh.2.2.2)]
      · have es : spn l s = (0, 0) := by unfold spn; rw [if_neg hlt]
        rw [es, spn_cons_none es hp, if_neg (fun hh => by have := hh.2.2.2; simp at this)]
    · unfold lgr
      rw [if_neg (fun hh => hr ⟨hh.1, hh.2.1⟩)]
      symm
      rw [spn_none]
      intro p hp
      cases hs : stands l (x :: s) p
      · rfl
      · exfalso
        obtain ⟨h1, _⟩ := stands_cons' l _ _ p hp hs
        have h2 := h.nn p
        have h3 := most_ge l p
        exact hr (by omega)

/-- where signs stand, rising -/
def plc (l s : List Int) : List Nat := (List.range l.length).filter (stands l s)
theorem filter_span (n f t : Nat) (ht : t ≤ n) : (List.range n).filter (fun i => decide (f ≤ i) && decide (i < t)) = (List.range' f (t - f)) := by
  refine rising_eq (List.pairwise_lt_range.filter _) List.pairwise_lt_range' (fun a => ?_)
  rw [List.mem_filter, List.mem_range, List.mem_range'_1]
  simp only [Bool.and_eq_true, decide_eq_true_eq]
  omega

/-- the ends of a span are the places, in another order -/
theorem plc_perm (l s : List Int) : ((List.range' (spn l s).1 ((spn l s).2 - (spn l s).1)).map (eat l)).Perm (plc l s) := by
  have e : endsOf l = (List.range l.length).map (eat l) := by
    apply List.ext_getElem
    · rw [List.length_map, List.length_range, endsOf_length]
    · intro i h1 h2
      simp [eat, h1]
  have hp := ((endsOf_is l).1).filter (stands l s)
  rw [e, List.filter_map] at hp
  have e2 : (List.range l.length).filter (stands l s ∘ eat l) = List.range' (spn l s).1 ((spn l s).2 - (spn l s).1) := by
    rw [← filter_span l.length _ _ (spn_le l s).2]
    apply List.filter_congr
    intro i hi
    have := spn_iff l s i (List.mem_range.1 hi)
    rw [Bool.eq_iff_iff]
    simpa using this
  rw [e2] at hp
  exact hp
theorem plc_len (l s : List Int) : (plc l s).length = (spn l s).2 - (spn l s).1 := by
  have := (plc_perm l s).length_eq
  simpa using this.symm
theorem plc_rising (l s : List Int) : (plc l s).Pairwise (· < ·) := List.pairwise_lt_range.filter _
theorem plc_mem (l s : List Int) (p : Nat) : p ∈ plc l s ↔ p < l.length ∧ stands l s p = true := by
  unfold plc; simp

end En
end Go.Proofs.YtoejenejleocdabGreatDoor

/- Plain mathematics of an index: how many numbers are less, the first numbers of the ends; what stands ahead of signs and behind them, and how often. No program is named here. -/
namespace Go.Proofs.YtoejenejleocdabGreatDoor
namespace En

/-- a number's count, so far -/
def cntL (l : List Int) (k x : Nat) : Nat := if x = 0 then 0 else (l.take k).count ((x : Int) - 1)
theorem cntL_zero (l : List Int) (x : Nat) : cntL l 0 x = 0 := by unfold cntL; split <;> simp
theorem cntL_succ (l : List Int) (k x : Nat) (hk : k < l.length) : cntL l (k + 1) x = if (x : Int) = l.getD k 0 + 1 ∧ x ≠ 0 then cntL l k x + 1 else cntL l k x := by
  unfold cntL
  by_cases hx : x = 0
  · simp [hx]
  · rw [if_neg hx, if_neg hx, List.take_succ_eq_append_getElem hk, List.count_append, show l.getD k 0 = l[k] from by simp [hk]]
    by_cases he : l[k] = (x : Int) - 1
    · rw [if_pos ⟨by omega, hx⟩, he]; simp
    · rw [if_neg (by omega)]; simp [he]
theorem cntL_le (l : List Int) (k x : Nat) : cntL l k x ≤ k := by
  unfold cntL
  split
  · omega
  · exact Nat.le_trans List.count_le_length (by rw [List.length_take]; omega)
theorem lessN_count (l : List Int) (x : Int) : lessN l x = l.countP (fun y => decide (y < x)) := by
  unfold lessN
  have : l = (List.range l.length).map fun q => l.getD q 0 := by
    apply List.ext_getElem
    · simp
    · intro i h1 h2; simp [h1]
  conv => rhs; rw [this]
  rw [List.countP_map, List.countP_eq_length_filter]
  rfl
theorem lessN_succ (l : List Int) (x : Nat) : lessN l ((x : Int) + 1) = lessN l x + cntL l l.length (x + 1) := by
  rw [lessN_count, lessN_count]
  unfold cntL
  rw [if_neg (by omega), List.take_length, show ((x + 1 : Nat) : Int) - 1 = (x : Int) from by omega]
  induction l with
  | nil => rfl
  | cons y l ih =>
    rw [List.countP_cons, List.countP_cons, List.count_cons, ih]
    by_cases h1 : y < (x : Int)
    · rw [if_pos (by simp; omega), if_pos (by simpa using h1), if_neg (by simp; omega)]; omega
    · by_cases h2 : y = (x : Int)
      · rw [if_pos (by simp; omega), if_neg (by simp; omega), if_pos (by simpa using h2)]; omega
      · rw [if_neg (by simp; omega), if_neg (by simp; omega), if_neg (by simpa using h2)]; omega
/-- how many are less, as a list -/
def lessL (l : List Int) : List Int := (List.range (most l + 2)).map fun x => (lessN l ((x : Nat) : Int) : Int)
theorem lessL_length (l : List Int) : (lessL l).length = most l + 2 := by simp [lessL]
theorem lessL_get (l : List Int) (x : Nat) (h : x < most l + 2) : (lessL l).getD x 0 = (lessN l x : Int) := by simp [lessL, h]

/-- the place ahead; the unlike numbers ahead of signs -/
def prv (l : List Int) (p : Nat) : Nat := if p = 0 then l.length - 1 else p - 1
def bfr (l s : List Int) : List Nat := (List.range (most l + 1)).filter fun v => (plc l s).any fun p => l.getD (prv l p) 0 == (v : Int)
theorem bfr_rising (l s : List Int) : (bfr l s).Pairwise (· < ·) := List.pairwise_lt_range.filter _
theorem bfr_mem (l s : List Int) (v : Nat) : v ∈ bfr l s ↔ ∃ p ∈ plc l s, l.getD (prv l p) 0 = (v : Int) := by
  unfold bfr
  rw [List.mem_filter, List.mem_range]
  simp only [List.any_eq_true, beq_iff_eq]
  constructor
  · exact fun hh => hh.2
  · rintro ⟨p, hp, he⟩
    have := most_ge l (prv l p)
    exact ⟨by omega, p, hp, he⟩
theorem count_take_lt (L : List Nat) (f t v : Nat) (h : f ≤ t) : (L.take f).count v < (L.take t).count v ↔ ∃ i, f ≤ i ∧ i < t ∧ i < L.length ∧ L.getD i 0 = v := by
  have e : L.take t = L.take f ++ (L.take t).drop f := by
    rw [show L.take f = (L.take t).take f from by rw [List.take_take, Nat.min_eq_left h], List.take_append_drop]
  rw [e, List.count_append]
  have : ((L.take f).count v < (L.take f).count v + ((L.take t).drop f).count v) ↔ 0 < ((L.take t).drop f).count v := by omega
  rw [this, List.count_pos_iff, List.mem_iff_getElem]
  constructor
  · rintro ⟨i, hi, he⟩
    simp only [List.length_drop, List.length_take] at hi
    refine ⟨f + i, by omega, by omega, by omega, ?_⟩
    rw [List.getElem_drop, List.getElem_take] at he
    simp [show f + i < L.length by omega, he]
  · rintro ⟨i, h1, h2, h3, h4⟩
    refine ⟨i - f, by simp only [List.length_drop, List.length_take]; omega, ?_⟩
    rw [List.getElem_drop, List.getElem_take]
    rw [← h4]
    simp [h3, show f + (i - f) = i from by omega]
theorem kinds_bfr {l : List Int} (h : Sg l) (s : List Int) (m : Nat) (hm : most l < m) : Wv.kinds (an l) (spn l s).1 (spn l s).2 m = bfr l s := by
  refine rising_eq (Wv.kinds_rising _ _ _ _) (bfr_rising l s) (fun v => ?_)
  rw [bfr_mem]
  unfold Wv.kinds
  rw [List.mem_filter, List.mem_range, decide_eq_true_eq, count_take_lt _ _ _ _ (spn_le l s).1]
  constructor
  · rintro ⟨_, i, h1, h2, h3, h4⟩
    rw [an_length] at h3
    rw [an_get l i h3] at h4
    have h5 := h.ah i
    refine ⟨eat l i, (plc_mem l s _).2 ⟨eat_lt l i h3, (spn_iff l s i h3).2 ⟨h1, h2⟩⟩, ?_⟩
    unfold ah at h4 h5
    unfold prv
    omega
  · rintro ⟨p, hp, he⟩
    obtain ⟨hp1, hp2⟩ := (plc_mem l s p).1 hp
    obtain ⟨i, hi, rfl⟩ := eat_onto l p hp1
    obtain ⟨h1, h2⟩ := (spn_iff l s i hi).1 hp2
    have := most_ge l (prv l (eat l i))
    refine ⟨by omega, i, h1, h2, by rw [an_length]; exact hi, ?_⟩
    rw [an_get l i hi]
    unfold ah
    unfold prv at he
    omega

/-- signs, and one more behind them -/
theorem stands_snoc (l : List Int) (x : Int) : ∀ (s : List Int) (p : Nat), p ≤ l.length → (stands l (s ++ [x]) p = true ↔ stands l s p = true ∧ p + s.length < l.length ∧ l.getD (p + s.length) 0 = x)
  | [], p, hp => by
    by_cases h : p < l.length
    · rw [List.nil_append, stands_cons l [] x p h]
      simp [stands, h]
    · obtain rfl : p = l.length := by omega
      simp [stands]
  | y :: s, p, hp => by
    by_cases h : p < l.length
    · rw [List.cons_append, stands_cons l _ y p h, stands_cons l s y p h]
      simp only [Bool.and_eq_true, decide_eq_true_eq, List.length_cons]
      rw [stands_snoc l x s (p + 1) (by omega), show p + (s.length + 1) = p + 1 + s.length from by omega, and_assoc]
    · obtain rfl : p = l.length := by omega
      simp [stands]
/-- the unlike numbers behind signs -/
def bhd (l s : List Int) : List Nat := (List.range (most l + 1)).filter fun x => decide (0 < (plc l (s ++ [((x : Nat) : Int)])).length)
theorem bhd_rising (l s : List Int) : (bhd l s).Pairwise (· < ·) := List.pairwise_lt_range.filter _
theorem bhd_mem (l s : List Int) (v : Nat) : v ∈ bhd l s ↔ ∃ p ∈ plc l s, p + s.length < l.length ∧ l.getD (p + s.length) 0 = (v : Int) := by
  unfold bhd
  rw [List.mem_filter, List.mem_range, decide_eq_true_eq, List.length_pos_iff_exists_mem]
  constructor
  · rintro ⟨_, p, hp⟩
    obtain ⟨h1, h2⟩ := (plc_mem _ _ _).1 hp
    obtain ⟨h3, h4, h5⟩ := (stands_snoc l v s p (by omega)).1 h2
    exact ⟨p, (plc_mem _ _ _).2 ⟨h1, h3⟩, h4, h5⟩
  · rintro ⟨p, hp, h4, h5⟩
    obtain ⟨h1, h2⟩ := (plc_mem _ _ _).1 hp
    have := most_ge l (p + s.length)
    exact ⟨by omega, p, (plc_mem _ _ _).2 ⟨h1, (stands_snoc l v s p (by omega)).2 ⟨h2, h4, h5⟩⟩⟩

/-- kind by kind all are counted -/
theorem sum_one (K : List Nat) (v : Nat) (hK : K.Nodup) (hv : v ∈ K) : (K.map fun x => if v == x then 1 else 0).sum = 1 := by
  induction K with
  | nil => simp at hv
  | cons x K ih =>
    obtain ⟨h1, h2⟩ := List.nodup_cons.1 hK
    rw [List.map_cons, List.sum_cons]
    by_cases e : v = x
    · subst e
      have : (K.map fun x => if v == x then 1 else 0).sum = 0 := by
        clear ih hK h2 hv
        induction K with
        | nil => rfl
        | cons y K ih =>
          rw [List.map_cons, List.sum_cons, ih (fun h => h1 (by simp [h]))]
          rw [if_neg (by simp; rintro rfl; exact h1 (by simp))]
      rw [this]; simp
    · rw [ih h2 (by rcases List.mem_cons.1 hv with h | h; exact absurd h e; exact h)]
      simp [e]
theorem sum_split (f : Nat → Nat) (K : List Nat) (hK : K.Nodup) : ∀ (P : List Nat), (∀ p ∈ P, f p ∈ K) → (K.map fun v => (P.filter fun p => f p == v).length).sum = P.length
  | [], _ => by
    have : (K.map fun v => (([] : List Nat).filter fun p => f p == v).length) = K.map fun _ => 0 := rfl
    rw [this, List.map_const', List.sum_replicate_nat]
    simp
  | p :: P, h => by
    have e : (K.map fun v => ((p :: P).filter fun p => f p == v).length) = K.map fun v => (if f p == v then 1 else 0) + (P.filter fun p => f p == v).length := by
      apply List.map_congr_left
      intro v _
      rw [List.filter_cons]
      by_cases hv : f p == v
      · rw [if_pos hv, if_pos hv, List.length_cons]; omega
      · rw [if_neg hv, if_neg hv]; omega
    rw [e]
    have e2 : ∀ (a b : Nat → Nat) (K : List Nat), (K.map fun v => a v + b v).sum = (K.map a).sum + (K.map b).sum := by
      intro a b K
      induction K with
      | nil => rfl
      | cons x K ih => simp only [List.map_cons, List.sum_cons, ih]; omega
    rw [e2, sum_one K (f p) hK (h p (by simp)), sum_split f K hK P (fun q hq => h q (by simp [hq])), List.length_cons]
    omega
theorem rising_nodup {K : List Nat} (h : K.Pairwise (· < ·)) : K.Nodup := h.imp fun h => by omega

theorem plc_snoc {l : List Int} (h : Sg l) (s : List Int) (v : Nat) : plc l (s ++ [(v : Int)]) = ((plc l s).filter fun p => decide (p + s.length < l.length)).filter fun p => (l.getD (p + s.length) 0).toNat == v := by
  unfold plc
  rw [List.filter_filter, List.filter_filter]
  apply List.filter_congr
  intro p hp
  rw [Bool.eq_iff_iff, stands_snoc l v s p (by have := List.mem_range.1 hp; omega)]
  have := h.nn (p + s.length)
  simp only [Bool.and_eq_true, decide_eq_true_eq, beq_iff_eq]
  constructor
  · rintro ⟨h1, h2, h3⟩; exact ⟨⟨by omega, h2⟩, h1⟩
  · rintro ⟨⟨h1, h2⟩, h3⟩; exact ⟨h3, h2, by omega⟩
theorem bhd_sum {l : List Int} (h : Sg l) (s : List Int) : ((bhd l s).map fun (v : Nat) => (plc l (s ++ [(v : Int)])).length).sum = ((plc l s).filter fun p => decide (p + s.length < l.length)).length := by
  rw [← sum_split (fun p => (l.getD (p + s.length) 0).toNat) (bhd l s) (rising_nodup (bhd_rising l s)) ((plc l s).filter fun p => decide (p + s.length < l.length))]
  · congr 1
    apply List.map_congr_left
    intro v _
    rw [plc_snoc h]
  · intro p hp
    rw [List.mem_filter, decide_eq_true_eq] at hp
    have := h.nn (p + s.length)
    exact (bhd_mem l s _).2 ⟨p, hp.1, hp.2, by omega⟩

theorem plc_nil (l : List Int) : plc l [] = List.range l.length := by
  unfold plc; rw [List.filter_eq_self]; intro p _; simp [stands]

end En
end Go.Proofs.YtoejenejleocdabGreatDoor

/- An index in memory; the leaves of package comb: numbers, whole, isWhole. -/
namespace Go.Proofs.YtoejenejleocdabGreatDoor
open Go.RowKit
attribute [local irreducible] Bt.pop Bt.popF

/-- the three lists of an index of l -/
structure Cmb (w : World) (E L S : Option Addr) (l : List Int) : Prop where
  sg : En.Sg l
  ends : IRow w w.heap.size E (endsI l)
  wave : Wave w L 10 (En.an l)
  less : IRow w w.heap.size S (En.lessL l)
  small : l.length ≤ 4096
  fit : En.most l < 1024
theorem Cmb.on {w w' : World} {E L S : Option Addr} {l : List Int} (h : Cmb w E L S l) (hb : Below w.heap.size w w') : Cmb w' E L S l :=
  ⟨h.sg, h.ends.on hb, h.wave.on hb, h.less.on hb, h.small, h.fit⟩

/-- block B holds the index of l; what was there in w0 is there still -/
structure CB (w0 : World) (B : Nat) (E L S : Option Addr) (cE cL cS N M : Nat) (l : List Int) (W : World) : Prop where
  c0 : W.cell? ⟨B, 0, none⟩ = some (.slice E N cE)
  c1 : W.cell? ⟨B, 1, none⟩ = some (.int .i64 N)
  c2 : W.cell? ⟨B, 2, none⟩ = some (.int .i64 10)
  c3 : W.cell? ⟨B, 3, none⟩ = some (.slice L 10 cL)
  c4 : W.cell? ⟨B, 4, none⟩ = some (.slice S M cS)
  cmb : Cmb W E L S l
  len : N = l.length
  num : M = En.most l + 2
  capE : N ≤ cE
  capL : 10 ≤ cL
  lt : B < W.heap.size
  old : Below w0.heap.size w0 W
section
variable {w0 : World} {B : Nat} {E L S : Option Addr} {cE cL cS N M : Nat} {l : List Int} {W W' : World}
theorem CB.on (h : CB w0 B E L S cE cL cS N M l W) (hb : Below W.heap.size W W') : CB w0 B E L S cE cL cS N M l W' :=
  ⟨(hb.cell (p := ⟨B, 0, none⟩) h.lt).trans h.c0, (hb.cell (p := ⟨B, 1, none⟩) h.lt).trans h.c1, (hb.cell (p := ⟨B, 2, none⟩) h.lt).trans h.c2, (hb.cell (p := ⟨B, 3, none⟩) h.lt).trans h.c3, (hb.cell (p := ⟨B, 4, none⟩) h.lt).trans h.c4,
    h.cmb.on hb, h.len, h.num, h.capE, h.capL, Nat.lt_of_lt_of_le h.lt hb.size, h.old.trans (hb.mono h.old.size)⟩
theorem CB.drew (h : CB w0 B E L S cE cL cS N M l W) : CB w0 B E L S cE cL cS N M l W.drew := h.on (Below.refl _ _).drew
theorem CB.start (h : Cmb W E L S l) (hN : N = l.length) (hM : M = En.most l + 2) (hE : N ≤ cE) (hL : 10 ≤ cL) (hb : Below w0.heap.size w0 W) (t : TypeId) :
    CB w0 W.heap.size E L S cE cL cS N M l (W.alloc (.cells #[.slice E N cE, .int .i64 N, .int .i64 10, .slice L 10 cL, .slice S M cS] t)) :=
  ⟨by simp, by simp, by simp, by simp, by simp, h.on ((Below.refl _ _).alloc (Nat.le_refl _) _), hN, hM, hE, hL, by simp, hb.alloc hb.size _⟩
/-- the same of a later world's blocks alone -/
theorem CB.since (h : CB w0 B E L S cE cL cS N M l W) (w1 : World) (hb : Below w1.heap.size w1 W) : CB w1 B E L S cE cL cS N M l W :=
  ⟨h.c0, h.c1, h.c2, h.c3, h.c4, h.cmb, h.len, h.num, h.capE, h.capL, h.lt, hb⟩
theorem CB.count (h : CB w0 B E L S cE cL cS N M l W) (x m : Nat) (hm : m ≤ 9223372036854775807) : Calls Tryz.prog 159 #[.agg #[.int .i64 N, .int .i64 10, .slice L 10 cL], .int .i64 x, .int .i64 m] W fun e w' => e = .returned (.int .i64 (En.cnt l x m : Nat)) ∧ Below W.heap.size W w' := by
  have e := h.len
  have hs := h.cmb.small
  have hc := count_wave h.cmb.wave cL x m (by omega) (by omega)
  rw [En.an_length, ← e] at hc
  refine hc.mono fun e' w' hh => ⟨?_, hh.2⟩
  rw [hh.1]
  unfold countI En.cnt
  rw [if_pos (by omega), Int.toNat_natCast, En.an_length]
  have e2 : (En.an l).take (Wv.cl l.length (m : Int)) = (En.an l).take m := by
    by_cases hml : m ≤ l.length
    · rw [show Wv.cl l.length (m : Int) = m from by unfold Wv.cl; omega]
    · rw [show Wv.cl l.length (m : Int) = l.length from by unfold Wv.cl; omega, List.take_of_length_le (by rw [En.an_length]; omega), List.take_of_length_le (by rw [En.an_length]; omega)]
  rw [e2]
theorem CB.kinds (h : CB w0 B E L S cE cL cS N M l W) (s : List Int) : Calls Tryz.prog 187 #[.agg #[.int .i64 N, .int .i64 10, .slice L 10 cL], .int .i64 ((En.spn l s).1 : Nat), .int .i64 ((En.spn l s).2 : Nat)] W (Ints W (up (En.bfr l s))) := by
  have e := h.len
  have hs := h.cmb.small
  have hp := En.spn_le l s
  have hc := kinds_wave h.cmb.wave cL h.capL (En.spn l s).1 (En.spn l s).2 (by omega) (by omega) (by omega) (by omega)
  rw [En.an_length, ← e] at hc
  refine hc.mono ?_
  rintro e' w' ⟨v, rfl, hO⟩
  have e1 : Wv.cl N ((En.spn l s).1 : Nat) = (En.spn l s).1 := by unfold Wv.cl; omega
  have e2 : Wv.cl N ((En.spn l s).2 : Nat) = (En.spn l s).2 := by unfold Wv.cl; omega
  rw [e1, e2, En.kinds_bfr h.cmb.sg s (2 ^ 10) (by have := h.cmb.fit; omega)] at hO
  exact hO.ints
end

theorem numbers_any (E L S : Option Addr) (nE cE N : Nat) (D : Int) (nL cL M cS : Nat) (w : World) (hM : M < 4611686018427387904) :
    Calls Tryz.prog 143 #[.agg #[.slice E nE cE, .int .i64 N, .int .i64 D, .slice L nL cL, .slice S M cS]] w fun e w' => e = .returned (.int .i64 ((M : Int) - 1)) ∧ Below w.heap.size w w' := by
  go_enter Tryz.func143, Tryz.ntmps143
  go_wp2
  go_ret
  exact ⟨rfl, (Below.refl _ _).alloc (Nat.le_refl _) _⟩

set_option maxHeartbeats 400000 in
theorem combWhole_any (E L S : Option Addr) (nE cE N : Nat) (D : Int) (nL cL M cS : Nat) (w : World) :
    Calls Tryz.prog 121 #[.agg #[.slice E nE cE, .int .i64 N, .int .i64 D, .slice L nL cL, .slice S M cS]] w fun e w' => e = .returned (.agg #[.int .i64 0, .int .i64 nE]) ∧ Below w.heap.size w w' := by
  go_enter Tryz.func121, Tryz.ntmps121
  go_wp2
  refine bodyPost_ret (v := .agg #[.int .i64 0, .int .i64 nE]) (by simp [results, Tryz.results121, go_sem]) rfl ⟨rfl, ?_⟩
  exact ((Below.refl _ _).alloc (Nat.le_refl _) _).alloc (by simp) _

/-- has a span all ends in it? -/
def whB (f t n : Nat) : Bool := decide (f = 0 ∧ n ≤ t)
theorem whB_f (f t n : Nat) (h : ¬ f = 0) : whB f t n = false := by unfold whB; simp [h]
theorem whB_t (t n : Nat) : whB 0 t n = decide (n ≤ t) := by unfold whB; simp

set_option maxHeartbeats 400000 in
theorem isWhole_any (E L S : Option Addr) (nE cE N : Nat) (D : Int) (nL cL M cS : Nat) (f t : Nat) (w : World) :
    Calls Tryz.prog 158 #[.agg #[.slice E nE cE, .int .i64 N, .int .i64 D, .slice L nL cL, .slice S M cS], .agg #[.int .i64 f, .int .i64 t]] w fun e w' => e = .returned (.bool (whB f t nE)) ∧ Below w.heap.size w w' := by
  have hb : Below w.heap.size w ((w.alloc (.cells #[.slice E nE cE, .int .i64 N, .int .i64 D, .slice L nL cL, .slice S M cS] 33)).alloc (.cells #[.int .i64 f, .int .i64 t] 115)) := ((Below.refl _ _).alloc (Nat.le_refl _) _).alloc (by simp) _
  by_cases h0 : f = 0
  · subst h0
    have HH := Lib.hid (whB_t t nE)
    go_enter Tryz.func158, Tryz.ntmps158
    go_wp2
    go_ret
    exact ⟨by rw [HH.out]; simp, hb⟩
  · have HH := Lib.hid (whB_f f t nE h0)
    have hz : ¬ ((f : Int) ≤ 0) := by omega
    go_enter Tryz.func158, Tryz.ntmps158
    go_wp2
    go_ret
    exact ⟨by rw [HH.out]; rfl, hb⟩

end Go.Proofs.YtoejenejleocdabGreatDoor

/- Longer: of the ends that begin with what those of a span begin with, and with one sign ahead of that. -/
namespace Go.Proofs.YtoejenejleocdabGreatDoor
open Go.RowKit
attribute [local irreducible] Bt.pop Bt.popF

/-- two numbers -/
def spF (f t : Nat) : Nat → Value := fun j => if j = 0 then .int .i64 f else .int .i64 t
theorem spF_alloc (w : World) (f t : Nat) (ty : TypeId) : (w.alloc (.cells #[.int .i64 f, .int .i64 t] ty)).rowIs w.heap.size ty 2 (spF f t) :=
  World.rowIs_alloc w #[.int .i64 f, .int .i64 t] ty (spF f t) (fun i hi => by
    match i, hi with
    | 0, _ => rfl
    | 1, _ => rfl)
/-- the index, a span, and a span that is to be handed back, in three blocks of the call's own -/
structure LI (w : World) (E L S : Option Addr) (cE cL cS N M f t : Nat) (l : List Int) (W : World) : Prop where
  cb : CB w w.heap.size E L S cE cL cS N M l W
  sp : W.rowIs (w.heap.size + 1) 115 2 (spF f t)
  res : W.rowIs (w.heap.size + 2) 115 2 (spF 0 0)
section
variable {w : World} {E L S : Option Addr} {cE cL cS N M f t : Nat} {l : List Int} {W W' : World}
theorem LI.on (h : LI w E L S cE cL cS N M f t l W) (hb : Below W.heap.size W W') : LI w E L S cE cL cS N M f t l W' :=
  ⟨h.cb.on hb, h.sp.of_block (hb.block _ h.sp.lt), h.res.of_block (hb.block _ h.res.lt)⟩
theorem LI.drew (h : LI w E L S cE cL cS N M f t l W) : LI w E L S cE cL cS N M f t l W.drew := h.on (Below.refl _ _).drew
theorem LI.start (h : Cmb w E L S l) (hN : N = l.length) (hM : M = En.most l + 2) (hE : N ≤ cE) (hL : 10 ≤ cL) :
    LI w E L S cE cL cS N M f t l (((w.alloc (.cells #[.slice E N cE, .int .i64 N, .int .i64 10, .slice L 10 cL, .slice S M cS] 33)).alloc (.cells #[.int .i64 f, .int .i64 t] 115)).alloc (.cells #[.int .i64 0, .int .i64 0] 115)) := by
  have h1 : CB w w.heap.size E L S cE cL cS N M l _ := CB.start h hN hM hE hL (Below.refl _ _) 33
  have h2 := spF_alloc (w.alloc (.cells #[.slice E N cE, .int .i64 N, .int .i64 10, .slice L 10 cL, .slice S M cS] 33)) f t 115
  have h3 := spF_alloc ((w.alloc (.cells #[.slice E N cE, .int .i64 N, .int .i64 10, .slice L 10 cL, .slice S M cS] 33)).alloc (.cells #[.int .i64 f, .int .i64 t] 115)) 0 0 115
  have hb := (Below.refl _ ((w.alloc (.cells #[.slice E N cE, .int .i64 N, .int .i64 10, .slice L 10 cL, .slice S M cS] 33)).alloc (.cells #[.int .i64 f, .int .i64 t] 115))).alloc (Nat.le_refl _) (.cells #[.int .i64 0, .int .i64 0] 115)
  refine ⟨(h1.on ((Below.refl _ _).alloc (Nat.le_refl _) _)).on hb, ?_, ?_⟩
  · have := h2.of_block (hb.block _ h2.lt)
    rwa [World.size_alloc] at this
  · rwa [World.size_alloc, World.size_alloc] at h3
theorem LI.s0 (h : LI w E L S cE cL cS N M f t l W) : W.cell? ⟨w.heap.size + 1, 0, none⟩ = some (.int .i64 f) := h.sp.cell (i := 0) (by omega)
theorem LI.s1 (h : LI w E L S cE cL cS N M f t l W) : W.cell? ⟨w.heap.size + 1, 1, none⟩ = some (.int .i64 t) := h.sp.cell (i := 1) (by omega)
theorem LI.r0 (h : LI w E L S cE cL cS N M f t l W) : W.cell? ⟨w.heap.size + 2, 0, none⟩ = some (.int .i64 0) := h.res.cell (i := 0) (by omega)
theorem LI.r1 (h : LI w E L S cE cL cS N M f t l W) : W.cell? ⟨w.heap.size + 2, 1, none⟩ = some (.int .i64 0) := h.res.cell (i := 1) (by omega)
/-- the result stored -/
theorem LI.end_ (h : LI w E L S cE cL cS N M f t l W) (v0 v1 : Value) : ((W.setCell ⟨w.heap.size + 2, 0, none⟩ v0).setCell ⟨w.heap.size + 2, 1, none⟩ v1).cell? ⟨w.heap.size + 2, 0, none⟩ = some v0 ∧ ((W.setCell ⟨w.heap.size + 2, 0, none⟩ v0).setCell ⟨w.heap.size + 2, 1, none⟩ v1).cell? ⟨w.heap.size + 2, 1, none⟩ = some v1 ∧ Below w.heap.size w ((W.setCell ⟨w.heap.size + 2, 0, none⟩ v0).setCell ⟨w.heap.size + 2, 1, none⟩ v1) :=
  ⟨(set2 h.res v0 v1).1, (set2 h.res v0 v1).2, (h.cb.old.setCell (by show w.heap.size ≤ w.heap.size + 2; omega) _).setCell (by show w.heap.size ≤ w.heap.size + 2; omega) _⟩
/-- how many are less than a number -/
theorem LI.lessAt (h : LI w E L S cE cL cS N M f t l W) (x : Nat) (hx : x ≤ En.most l) : ∃ b o, S = some ⟨b, o, none⟩ ∧ W.cell? ⟨b, o + x, none⟩ = some (.int .i64 (En.lessN l x : Nat)) := by
  have hr : Row W W.heap.size S (En.lessL l).length _ := h.cb.cmb.less
  rw [En.lessL_length] at hr
  obtain ⟨b, o, e, _, hc⟩ := hr (by omega)
  refine ⟨b, o, e, ?_⟩
  have h1 : W.cell? ⟨b, o + x, none⟩ = some (.int .i64 ((En.lessL l).getD x 0)) := hc x (by omega)
  rw [En.lessL_get l x (by omega)] at h1
  exact h1
end

/-- a span, as it is handed back -/
def SpanIs (w : World) (p : Nat × Nat) (e : Ending) (w' : World) : Prop := e = .returned (.agg #[.int .i64 (p.1 : Nat), .int .i64 (p.2 : Nat)]) ∧ Below w.heap.size w w'

set_option maxHeartbeats 1000000 in
theorem longer_no (E L S : Option Addr) (cE cL cS N M f t : Nat) (l : List Int) (x : Int) (w : World) (h : Cmb w E L S l) (hN : N = l.length) (hM : M = En.most l + 2) (hE : N ≤ cE) (hL : 10 ≤ cL) (hx : x < 0 ∨ (M : Int) - 1 ≤ x) :
    Calls Tryz.prog 123 #[.agg #[.slice E N cE, .int .i64 N, .int .i64 10, .slice L 10 cL, .slice S M cS], .agg #[.int .i64 f, .int .i64 t], .int .i64 x] w (SpanIs w (0, 0)) := by
  have J : LI w E L S cE cL cS N M f t l _ := LI.start h hN hM hE hL
  have hM2 : M < 4611686018427387904 := by have := h.fit; omega
  have hM4 : 2 ≤ M := by omega
  have HN := Lib.hid (fun W (hW : LI w E L S cE cL cS N M f t l W) => (numbers_any E L S N cE N 10 10 cL M cS W hM2).mono fun e w' hh => And.intro hh.1 (hW.on hh.2))
  clear h hN hM hE hL
  rcases hx with hx | hx
  · go_enter Tryz.func123, Tryz.ntmps123
    go_wp2
    exact bodyPost_ret (v := .agg #[.int .i64 0, .int .i64 0]) (by simp [results, Tryz.results123, go_sem]) rfl ⟨rfl, J.cb.old⟩
  · have hx0 : ¬ x < 0 := by omega
    go_enter Tryz.func123, Tryz.ntmps123
    go_wp2_with fail
    with_reducible refine (HN.out _ J).mono ?_
    rintro e w1 ⟨rfl, J1⟩
    clear J HN
    have r0 := J1.r0
    have r1 := J1.r1
    have f0 := J1.res.frozen 0
    have f1 := J1.res.frozen 1
    go_wp2
    obtain ⟨s0, s1, s2⟩ := J1.end_ (.int .i64 0) (.int .i64 0)
    exact bodyPost_ret (v := .agg #[.int .i64 0, .int .i64 0]) (by simp [results, Tryz.results123, go_sem, s0, s1]) rfl ⟨rfl, s2⟩

set_option maxHeartbeats 1000000 in
theorem longer_last (E L S : Option Addr) (cE cL cS N M f t : Nat) (l : List Int) (w : World) (h : Cmb w E L S l) (hN : N = l.length) (hM : M = En.most l + 2) (hE : N ≤ cE) (hL : 10 ≤ cL) (hx : whB f t N = false) :
    Calls Tryz.prog 123 #[.agg #[.slice E N cE, .int .i64 N, .int .i64 10, .slice L 10 cL, .slice S M cS], .agg #[.int .i64 f, .int .i64 t], .int .i64 0] w (SpanIs w (0, 0)) := by
  have J : LI w E L S cE cL cS N M f t l _ := LI.start h hN hM hE hL
  have hM2 : M < 4611686018427387904 := by have := h.fit; omega
  have hM3 : ¬ ((M : Int) - 1 ≤ 0) := by omega
  have HN := Lib.hid (fun W (hW : LI w E L S cE cL cS N M f t l W) => (numbers_any E L S N cE N 10 10 cL M cS W hM2).mono fun e w' hh => And.intro hh.1 (hW.on hh.2))
  have HW := Lib.hid (fun W (hW : LI w E L S cE cL cS N M f t l W) => (isWhole_any E L S N cE N 10 10 cL M cS f t W).mono fun e w' hh => And.intro hh.1 (hW.on hh.2))
  rw [hx] at HW
  clear h hN hM hE hL hx
  go_enter Tryz.func123, Tryz.ntmps123
  go_wp2_with fail
  with_reducible refine (HN.out _ J).mono ?_
  rintro e w1 ⟨rfl, J1⟩
  clear J HN
  have j0 := J1.cb.c0
  have j1 := J1.cb.c1
  have j2 := J1.cb.c2
  have j3 := J1.cb.c3
  have j4 := J1.cb.c4
  have j5 := J1.s0
  have j6 := J1.s1
  go_wp2_with fail
  with_reducible refine (HW.out _ J1).mono ?_
  rintro e w2 ⟨rfl, J2⟩
  clear J1 HW j0 j1 j2 j3 j4 j5 j6
  have r0 := J2.r0
  have r1 := J2.r1
  have f0 := J2.res.frozen 0
  have f1 := J2.res.frozen 1
  go_wp2
  obtain ⟨s0, s1, s2⟩ := J2.end_ (.int .i64 0) (.int .i64 0)
  exact bodyPost_ret (v := .agg #[.int .i64 0, .int .i64 0]) (by simp [results, Tryz.results123, go_sem, s0, s1]) rfl ⟨rfl, s2⟩

end Go.Proofs.YtoejenejleocdabGreatDoor

/- Longer, of a sign that stands in the list. -/
namespace Go.Proofs.YtoejenejleocdabGreatDoor
open Go.RowKit
attribute [local irreducible] Bt.pop Bt.popF

set_option maxHeartbeats 2000000 in
theorem longer_in (E L S : Option Addr) (cE cL cS N M f t n a b A B : Nat) (x : Int) (l : List Int) (w : World) (h : Cmb w E L S l) (hN : N = l.length) (hM : M = En.most l + 2) (hE : N ≤ cE) (hL : 10 ≤ cL) (hf : f ≤ 9223372036854775807) (ht : t ≤ 9223372036854775807) (hn : n ≤ En.most l) (hn0 : n ≠ 0) (hx : x = (n : Int))
    (ha : En.cnt l n f = a) (hb : En.cnt l n t = b) (hA : En.lessN l (n : Nat) + a = A) (hB : En.lessN l (n : Nat) + b = B) (R : Nat × Nat) (hR : R = if A < B then (A, B) else (0, 0)) :
    Calls Tryz.prog 123 #[.agg #[.slice E N cE, .int .i64 N, .int .i64 10, .slice L 10 cL, .slice S M cS], .agg #[.int .i64 f, .int .i64 t], .int .i64 x] w (SpanIs w R) := by
  have HR := Lib.hid hR
  clear hR
  have J : LI w E L S cE cL cS N M f t l _ := LI.start h hN hM hE hL
  have hM2 : M < 4611686018427387904 := by have := h.fit; omega
  have hM3 : ¬ ((M : Int) - 1 ≤ x) := by omega
  have HN := Lib.hid (fun W (hW : LI w E L S cE cL cS N M f t l W) => (numbers_any E L S N cE N 10 10 cL M cS W hM2).mono fun e w' hh => And.intro hh.1 (hW.on hh.2))
  have HF : Hid (∀ W, LI w E L S cE cL cS N M f t l W → Calls Tryz.prog 159 #[.agg #[.int .i64 N, .int .i64 10, .slice L 10 cL], .int .i64 x, .int .i64 f] W fun e w' => e = .returned (.int .i64 (a : Nat)) ∧ LI w E L S cE cL cS N M f t l w') := Lib.hid fun W hW => hx ▸ (hW.cb.count n f hf).mono fun e w' hh => ⟨by rw [hh.1, ha], hW.on hh.2⟩
  have HT : Hid (∀ W, LI w E L S cE cL cS N M f t l W → Calls Tryz.prog 159 #[.agg #[.int .i64 N, .int .i64 10, .slice L 10 cL], .int .i64 x, .int .i64 t] W fun e w' => e = .returned (.int .i64 (b : Nat)) ∧ LI w E L S cE cL cS N M f t l w') := Lib.hid fun W hW => hx ▸ (hW.cb.count n t ht).mono fun e w' hh => ⟨by rw [hh.1, hb], hW.on hh.2⟩
  have HLs : Hid (∀ W, LI w E L S cE cL cS N M f t l W → ∃ b' o, S = some ⟨b', o, none⟩ ∧ W.cell? ⟨b', o + n, none⟩ = some (.int .i64 (En.lessN l (n : Nat) : Nat))) := Lib.hid fun W hW => hW.lessAt n (show n ≤ En.most l from hn)
  have hbnd : En.lessN l (n : Nat) ≤ 4096 ∧ a ≤ 4096 ∧ b ≤ 4096 := by
    have h1 := En.lessN_le l (n : Nat)
    have h2 := En.cnt_le l n f
    have h3 := En.cnt_le l n t
    have h4 := h.small
    omega
  obtain ⟨hb1, hb2, hb3⟩ := hbnd
  have hMn : x < (M : Int) := by omega
  have hxt : x.toNat = n := by omega
  have hx1 : 0 ≤ x := by omega
  have hxM : x.toNat < M := by omega
  clear h hN hM hE hL hf ht ha hb hn
  generalize En.lessN l (n : Nat) = q at *
  rw [← hxt] at HLs
  have v1 : IntKind.i64.wrap ((q : Int) + (a : Int)) = ((q + a : Nat) : Int) := by rw [w64 _ (by omega) (by omega)]; omega
  have v2 : IntKind.i64.wrap ((q : Int) + (b : Int)) = ((q + b : Nat) : Int) := by rw [w64 _ (by omega) (by omega)]; omega
  rw [hA] at v1
  rw [hB] at v2
  clear hA hB
  have z1 : (x == 0) = false := by simp; omega
  have z2 : ¬ (x < 0) := by omega
  clear hxt hx hn0
  go_enter Tryz.func123, Tryz.ntmps123
  go_wp2_with fail
  with_reducible refine (HN.out _ J).mono ?_
  rintro e w1 ⟨rfl, J1⟩
  clear J HN
  have j0 := J1.cb.c0
  have j1 := J1.cb.c1
  have j2 := J1.cb.c2
  have j3 := J1.cb.c3
  have j4 := J1.cb.c4
  have j5 := J1.s0
  have j6 := J1.s1
  obtain ⟨b', o, rfl, hc⟩ := HLs.out w1 J1
  have HC2 := Lib.hid (fun W (hW : LI w E L (some ⟨b', o, none⟩) cE cL cS N M f t l W) => show W.cell? ⟨b', o + x.toNat, none⟩ = some (.int .i64 q) from by
    obtain ⟨b2, o2, e, hc2⟩ := HLs.out W hW
    injection e with e
    injection e with e1 e2
    subst e1 e2
    exact hc2)
  clear HLs
  have JD := J1.drew
  go_wp2_with fail
  go_region_held3 (fun w' => w'.cell? ⟨w.heap.size, 1, none⟩ = some (.int .i64 N) ∧ w'.cell? ⟨w.heap.size, 2, none⟩ = some (.int .i64 10) ∧ w'.cell? ⟨w.heap.size, 3, none⟩ = some (.slice L 10 cL) ∧ w'.cell? ⟨w.heap.size, 4, none⟩ = some (.slice (some ⟨b', o, none⟩) M cS) ∧ w'.cell? ⟨w.heap.size + 1, 0, none⟩ = some (.int .i64 f) ∧ w'.cell? ⟨b', o + x.toNat, none⟩ = some (.int .i64 q)) (first | exact ⟨j1, j2, j3, j4, j5, hc⟩ | exact ⟨J3.cb.c1, J3.cb.c2, J3.cb.c3, J3.cb.c4, J3.s0, HC2.out _ J3⟩ | go_keep)
    (first
      | (go_at_call 159; (with_reducible refine (HF.out _ ?_).mono ?_); (first | assumption | exact JD); rintro e w3 ⟨rfl, J3⟩))
  clear v1 HF j0 j1 j2 j3 j4 j5 j6 hc JD J1
  have j0 := J3.cb.c0
  have j1 := J3.cb.c1
  have j2 := J3.cb.c2
  have j3 := J3.cb.c3
  have j4 := J3.cb.c4
  have j5 := J3.s0
  have j6 := J3.s1
  have hc := HC2.out _ J3
  have JD := J3.drew
  go_wp2_with fail
  go_region_held3 (fun w' => w'.cell? ⟨w.heap.size, 1, none⟩ = some (.int .i64 N) ∧ w'.cell? ⟨w.heap.size, 2, none⟩ = some (.int .i64 10) ∧ w'.cell? ⟨w.heap.size, 3, none⟩ = some (.slice L 10 cL) ∧ w'.cell? ⟨w.heap.size, 4, none⟩ = some (.slice (some ⟨b', o, none⟩) M cS) ∧ w'.cell? ⟨w.heap.size + 1, 1, none⟩ = some (.int .i64 t) ∧ w'.cell? ⟨b', o + x.toNat, none⟩ = some (.int .i64 q)) (first | exact ⟨j1, j2, j3, j4, j6, hc⟩ | exact ⟨J4.cb.c1, J4.cb.c2, J4.cb.c3, J4.cb.c4, J4.s1, HC2.out _ J4⟩ | go_keep)
    (first
      | (go_at_call 159; (with_reducible refine (HT.out _ ?_).mono ?_); (first | assumption | exact JD); rintro e w4 ⟨rfl, J4⟩))
  clear v2 HT j0 j1 j2 j3 j4 j5 j6 hc JD J3 HC2
  have r0 := J4.r0
  have r1 := J4.r1
  have f0 := J4.res.frozen 0
  have f1 := J4.res.frozen 1
  by_cases hAB : A < B
  · have hz : ¬ ((B : Int) ≤ (A : Int)) := by omega
    go_wp2
    obtain ⟨s0, s1, s2⟩ := J4.end_ (.int .i64 A) (.int .i64 B)
    exact bodyPost_ret (v := .agg #[.int .i64 A, .int .i64 B]) (by simp [results, Tryz.results123, go_sem, s0, s1]) rfl ⟨by rw [HR.out, if_pos hAB], s2⟩
  · have hz : (B : Int) ≤ (A : Int) := by omega
    go_wp2
    obtain ⟨s0, s1, s2⟩ := J4.end_ (.int .i64 0) (.int .i64 0)
    exact bodyPost_ret (v := .agg #[.int .i64 0, .int .i64 0]) (by simp [results, Tryz.results123, go_sem, s0, s1]) rfl ⟨by rw [HR.out, if_neg hAB]; rfl, s2⟩

set_option maxHeartbeats 2000000 in
theorem longer_zero (E L S : Option Addr) (cE cL cS N M f t a b A B : Nat) (l : List Int) (w : World) (h : Cmb w E L S l) (hN : N = l.length) (hM : M = En.most l + 2) (hE : N ≤ cE) (hL : 10 ≤ cL) (hf : f ≤ 9223372036854775807) (ht : t ≤ 9223372036854775807) (hwh : whB f t N = true)
    (ha : En.cnt l 0 f = a) (hb : En.cnt l 0 t = b) (hA : En.lessN l 0 + a = A) (hB : En.lessN l 0 + b = B) (R : Nat × Nat) (hR : R = if A < B then (A, B) else (0, 0)) :
    Calls Tryz.prog 123 #[.agg #[.slice E N cE, .int .i64 N, .int .i64 10, .slice L 10 cL, .slice S M cS], .agg #[.int .i64 f, .int .i64 t], .int .i64 0] w (SpanIs w R) := by
  have HR := Lib.hid hR
  clear hR
  have J : LI w E L S cE cL cS N M f t l _ := LI.start h hN hM hE hL
  have hM2 : M < 4611686018427387904 := by have := h.fit; omega
  have hM3 : ¬ ((M : Int) - 1 ≤ 0) := by omega
  have HN := Lib.hid (fun W (hW : LI w E L S cE cL cS N M f t l W) => (numbers_any E L S N cE N 10 10 cL M cS W hM2).mono fun e w' hh => And.intro hh.1 (hW.on hh.2))
  have HW := Lib.hid (fun W (hW : LI w E L S cE cL cS N M f t l W) => (isWhole_any E L S N cE N 10 10 cL M cS f t W).mono fun e w' hh => And.intro hh.1 (hW.on hh.2))
  rw [hwh] at HW
  have HF : Hid (∀ W, LI w E L S cE cL cS N M f t l W → Calls Tryz.prog 159 #[.agg #[.int .i64 N, .int .i64 10, .slice L 10 cL], .int .i64 0, .int .i64 f] W fun e w' => e = .returned (.int .i64 (a : Nat)) ∧ LI w E L S cE cL cS N M f t l w') := Lib.hid fun W hW => (hW.cb.count 0 f hf).mono fun e w' hh => ⟨by rw [hh.1, ha], hW.on hh.2⟩
  have HT : Hid (∀ W, LI w E L S cE cL cS N M f t l W → Calls Tryz.prog 159 #[.agg #[.int .i64 N, .int .i64 10, .slice L 10 cL], .int .i64 0, .int .i64 t] W fun e w' => e = .returned (.int .i64 (b : Nat)) ∧ LI w E L S cE cL cS N M f t l w') := Lib.hid fun W hW => (hW.cb.count 0 t ht).mono fun e w' hh => ⟨by rw [hh.1, hb], hW.on hh.2⟩
  have HLs : Hid (∀ W, LI w E L S cE cL cS N M f t l W → ∃ b' o, S = some ⟨b', o, none⟩ ∧ W.cell? ⟨b', o + 0, none⟩ = some (.int .i64 (En.lessN l 0 : Nat))) := Lib.hid fun W hW => hW.lessAt 0 (Nat.zero_le _)
  have hbnd : En.lessN l 0 ≤ 4096 ∧ a ≤ 4096 ∧ b ≤ 4096 := by
    have h1 := En.lessN_le l 0
    have h2 := En.cnt_le l 0 f
    have h3 := En.cnt_le l 0 t
    have h4 := h.small
    omega
  obtain ⟨hb1, hb2, hb3⟩ := hbnd
  have hMn : 0 < M := by omega
  skip
  clear h hN hM hE hL hf ht ha hb hwh
  generalize En.lessN l 0 = q at *
  have v1 : IntKind.i64.wrap ((q : Int) + (a : Int)) = ((q + a : Nat) : Int) := by rw [w64 _ (by omega) (by omega)]; omega
  have v2 : IntKind.i64.wrap ((q : Int) + (b : Int)) = ((q + b : Nat) : Int) := by rw [w64 _ (by omega) (by omega)]; omega
  rw [hA] at v1
  rw [hB] at v2
  clear hA hB
  go_enter Tryz.func123, Tryz.ntmps123
  go_wp2_with fail
  with_reducible refine (HN.out _ J).mono ?_
  rintro e w1 ⟨rfl, J1⟩
  clear J HN
  have j0 := J1.cb.c0
  have j1 := J1.cb.c1
  have j2 := J1.cb.c2
  have j3 := J1.cb.c3
  have j4 := J1.cb.c4
  have j5 := J1.s0
  have j6 := J1.s1
  go_wp2_with fail
  with_reducible refine (HW.out _ J1).mono ?_
  rintro e w2 ⟨rfl, J2⟩
  clear J1 HW j0 j1 j2 j3 j4 j5 j6
  have j0 := J2.cb.c0
  have j1 := J2.cb.c1
  have j2 := J2.cb.c2
  have j3 := J2.cb.c3
  have j4 := J2.cb.c4
  have j5 := J2.s0
  have j6 := J2.s1
  obtain ⟨b', o, rfl, hc⟩ := HLs.out w2 J2
  rw [Nat.add_zero] at hc
  have HC2 := Lib.hid (fun W (hW : LI w E L (some ⟨b', o, none⟩) cE cL cS N M f t l W) => show W.cell? ⟨b', o, none⟩ = some (.int .i64 q) from by
    obtain ⟨b2, o2, e, hc2⟩ := HLs.out W hW
    injection e with e
    injection e with e1 e2
    subst e1 e2
    exact hc2)
  clear HLs
  have JD := J2.drew
  go_wp2_with fail
  go_region_held3 (fun w' => w'.cell? ⟨w.heap.size, 1, none⟩ = some (.int .i64 N) ∧ w'.cell? ⟨w.heap.size, 2, none⟩ = some (.int .i64 10) ∧ w'.cell? ⟨w.heap.size, 3, none⟩ = some (.slice L 10 cL) ∧ w'.cell? ⟨w.heap.size, 4, none⟩ = some (.slice (some ⟨b', o, none⟩) M cS) ∧ w'.cell? ⟨w.heap.size + 1, 0, none⟩ = some (.int .i64 f) ∧ w'.cell? ⟨b', o, none⟩ = some (.int .i64 q)) (first | exact ⟨j1, j2, j3, j4, j5, hc⟩ | exact ⟨J3.cb.c1, J3.cb.c2, J3.cb.c3, J3.cb.c4, J3.s0, HC2.out _ J3⟩ | go_keep)
    (first
      | (go_at_call 159; (with_reducible refine (HF.out _ ?_).mono ?_); (first | assumption | exact JD); rintro e w3 ⟨rfl, J3⟩))
  clear v1 HF j0 j1 j2 j3 j4 j5 j6 hc JD J2
  have j0 := J3.cb.c0
  have j1 := J3.cb.c1
  have j2 := J3.cb.c2
  have j3 := J3.cb.c3
  have j4 := J3.cb.c4
  have j5 := J3.s0
  have j6 := J3.s1
  have hc := HC2.out _ J3
  have JD := J3.drew
  go_wp2_with fail
  go_region_held3 (fun w' => w'.cell? ⟨w.heap.size, 1, none⟩ = some (.int .i64 N) ∧ w'.cell? ⟨w.heap.size, 2, none⟩ = some (.int .i64 10) ∧ w'.cell? ⟨w.heap.size, 3, none⟩ = some (.slice L 10 cL) ∧ w'.cell? ⟨w.heap.size, 4, none⟩ = some (.slice (some ⟨b', o, none⟩) M cS) ∧ w'.cell? ⟨w.heap.size + 1, 1, none⟩ = some (.int .i64 t) ∧ w'.cell? ⟨b', o, none⟩ = some (.int .i64 q)) (first | exact ⟨j1, j2, j3, j4, j6, hc⟩ | exact ⟨J4.cb.c1, J4.cb.c2, J4.cb.c3, J4.cb.c4, J4.s1, HC2.out _ J4⟩ | go_keep)
    (first
      | (go_at_call 159; (with_reducible refine (HT.out _ ?_).mono ?_); (first | assumption | exact JD); rintro e w4 ⟨rfl, J4⟩))
  clear v2 HT j0 j1 j2 j3 j4 j5 j6 hc JD J3 HC2
  have r0 := J4.r0
  have r1 := J4.r1
  have f0 := J4.res.frozen 0
  have f1 := J4.res.frozen 1
  by_cases hAB : A < B
  · have hz : ¬ ((B : Int) ≤ (A : Int)) := by omega
    go_wp2
    obtain ⟨s0, s1, s2⟩ := J4.end_ (.int .i64 A) (.int .i64 B)
    exact bodyPost_ret (v := .agg #[.int .i64 A, .int .i64 B]) (by simp [results, Tryz.results123, go_sem, s0, s1]) rfl ⟨by rw [HR.out, if_pos hAB], s2⟩
  · have hz : (B : Int) ≤ (A : Int) := by omega
    go_wp2
    obtain ⟨s0, s1, s2⟩ := J4.end_ (.int .i64 0) (.int .i64 0)
    exact bodyPost_ret (v := .agg #[.int .i64 0, .int .i64 0]) (by simp [results, Tryz.results123, go_sem, s0, s1]) rfl ⟨by rw [HR.out, if_neg hAB]; rfl, s2⟩

/-- LONGER: what it answers of whatever span within the ends, and whatever sign -/
theorem longer_span (E L S : Option Addr) (cE cL cS N M f t : Nat) (l : List Int) (x : Int) (w : World) (h : Cmb w E L S l) (hN : N = l.length) (hM : M = En.most l + 2) (hE : N ≤ cE) (hL : 10 ≤ cL) (hf : f ≤ 9223372036854775807) (ht : t ≤ 9223372036854775807) :
    Calls Tryz.prog 123 #[.agg #[.slice E N cE, .int .i64 N, .int .i64 10, .slice L 10 cL, .slice S M cS], .agg #[.int .i64 f, .int .i64 t], .int .i64 x] w (SpanIs w (En.lgr l f t x)) := by
  by_cases hx : x < 0 ∨ (M : Int) - 1 ≤ x
  · have e : En.lgr l f t x = (0, 0) := by unfold En.lgr; rw [if_neg (by omega)]
    rw [e]
    exact longer_no E L S cE cL cS N M f t l x w h hN hM hE hL hx
  · obtain ⟨n, rfl⟩ := Int.eq_ofNat_of_zero_le (show 0 ≤ x by omega)
    by_cases h0 : n = 0
    · subst h0
      cases hw : whB f t N
      · have e : En.lgr l f t ((0 : Nat) : Int) = (0, 0) := by
          unfold En.lgr
          rw [if_neg]
          rintro ⟨_, _, h3, _⟩
          have := h3 rfl
          unfold whB at hw
          rw [decide_eq_false_iff_not] at hw
          exact hw ⟨this.1, by omega⟩
        rw [e]
        exact longer_last E L S cE cL cS N M f t l w h hN hM hE hL hw
      · have hw2 : f = 0 ∧ N ≤ t := by unfold whB at hw; simpa using hw
        have e : En.lgr l f t ((0 : Nat) : Int) = if En.lessN l 0 + En.cnt l 0 f < En.lessN l 0 + En.cnt l 0 t then (En.lessN l 0 + En.cnt l 0 f, En.lessN l 0 + En.cnt l 0 t) else (0, 0) := by
          unfold En.lgr
          simp only [Int.toNat_natCast]
          by_cases hc : En.lessN l 0 + En.cnt l 0 f < En.lessN l 0 + En.cnt l 0 t
          · rw [if_pos hc, if_pos ⟨by omega, by omega, fun _ => ⟨hw2.1, by omega⟩, hc⟩]; rfl
          · rw [if_neg hc, if_neg (fun hh => hc hh.2.2.2)]
        rw [e]
        exact longer_zero E L S cE cL cS N M f t _ _ _ _ l w h hN hM hE hL hf ht hw rfl rfl rfl rfl _ rfl
    · have e : En.lgr l f t (n : Int) = if En.lessN l (n : Nat) + En.cnt l n f < En.lessN l (n : Nat) + En.cnt l n t then (En.lessN l (n : Nat) + En.cnt l n f, En.lessN l (n : Nat) + En.cnt l n t) else (0, 0) := by
        unfold En.lgr
        simp only [Int.toNat_natCast]
        by_cases hc : En.lessN l (n : Nat) + En.cnt l n f < En.lessN l (n : Nat) + En.cnt l n t
        · rw [if_pos hc, if_pos ⟨by omega, by omega, fun h => by omega, hc⟩]
        · rw [if_neg hc, if_neg (fun hh => hc hh.2.2.2)]
      rw [e]
      exact longer_in E L S cE cL cS N M f t n _ _ _ _ _ l w h hN hM hE hL hf ht (by omega) h0 rfl rfl rfl rfl rfl _ rfl

end Go.Proofs.YtoejenejleocdabGreatDoor
