/- The ends of a list, by order: there is one such row; what each has in common with the one ahead; what stands ahead. No program is named here. -/
import Derived.Test.YtnmhjhfdgfdooaaSa
namespace Go.Proofs.Ytnmhjhfdgfdooaa
namespace En

/-- one end is less than another -/
def elt (l : List Int) (a b : Nat) : Prop := cl (l.drop a) (l.drop b) < 0
/-- a row has all ends, by order -/
def IsEnds (l : List Int) (es : List Nat) : Prop := es.Perm (List.range l.length) ∧ es.Pairwise (elt l)

theorem elt_irrefl (l : List Int) (a : Nat) : ¬ elt l a a := by unfold elt; rw [cl_self]; omega
theorem elt_asymm {l : List Int} {a b : Nat} (h1 : elt l a b) (h2 : elt l b a) : False := elt_irrefl l a (cl_trans h1 h2)
theorem drop_inj {l : List Int} {a b : Nat} (ha : a < l.length) (hb : b < l.length) (h : l.drop a = l.drop b) : a = b := by
  have := congrArg List.length h
  simp at this; omega
theorem elt_total {l : List Int} {a b : Nat} (ha : a < l.length) (hb : b < l.length) (hne : a ≠ b) : elt l a b ∨ elt l b a := by
  unfold elt
  have h := cl_neg (l.drop a) (l.drop b)
  have h2 : cl (l.drop a) (l.drop b) ≠ 0 := fun e => hne (drop_inj ha hb (cl_eq e))
  omega

theorem pairwise_unique {R : Nat → Nat → Prop} (hA : ∀ a b, R a b → R b a → False) : ∀ {x y : List Nat}, x.Perm y → x.Pairwise R → y.Pairwise R → x = y
  | [], y, hp, _, _ => (List.nil_perm.1 hp).symm
  | a :: x, [], hp, _, _ => by have := hp.length_eq; simp at this
  | a :: x, b :: y, hp, h1, h2 => by
    have ha : a ∈ b :: y := hp.subset (by simp)
    have hb : b ∈ a :: x := hp.symm.subset (by simp)
    have e : a = b := by
      rcases List.mem_cons.1 ha with h | h
      · exact h
      · rcases List.mem_cons.1 hb with h' | h'
        · exact h'.symm
        · exact absurd ((List.pairwise_cons.1 h1).1 b h') (fun r => hA _ _ r ((List.pairwise_cons.1 h2).1 a h))
    subst e
    rw [pairwise_unique hA (List.Perm.cons_inv hp) (List.pairwise_cons.1 h1).2 (List.pairwise_cons.1 h2).2]
theorem IsEnds.unique {l : List Int} {x y : List Nat} (h1 : IsEnds l x) (h2 : IsEnds l y) : x = y :=
  pairwise_unique (fun _ _ => elt_asymm) (h1.1.trans h2.1.symm) h1.2 h2.2

theorem IsEnds.length {l : List Int} {es : List Nat} (h : IsEnds l es) : es.length = l.length := by have := h.1.length_eq; simpa using this
theorem IsEnds.lt {l : List Int} {es : List Nat} (h : IsEnds l es) {a : Nat} (ha : a ∈ es) : a < l.length := by simpa using h.1.subset ha
theorem IsEnds.mem {l : List Int} {es : List Nat} (h : IsEnds l es) {a : Nat} (ha : a < l.length) : a ∈ es := h.1.symm.subset (by simpa using ha)
theorem IsEnds.nodup {l : List Int} {es : List Nat} (h : IsEnds l es) : es.Nodup := h.1.symm.nodup List.nodup_range

/-- a row sorted by keys of the whole ends is the ends -/
theorem IsEnds.of_le {l : List Int} {es : List Nat} (hp : es.Perm (List.range l.length)) (hs : es.Pairwise (fun a b => cl (l.drop a) (l.drop b) ≤ 0)) : IsEnds l es := by
  refine ⟨hp, ?_⟩
  have hn : es.Nodup := hp.symm.nodup List.nodup_range
  refine (List.pairwise_iff_getElem.2 fun i j hi hj hij => ?_)
  have h1 := List.pairwise_iff_getElem.1 hs i j hi hj hij
  have h2 := List.pairwise_iff_getElem.1 hn i j hi hj hij
  have hi' : es[i] < l.length := by simpa using hp.subset (List.getElem_mem hi)
  have hj' : es[j] < l.length := by simpa using hp.subset (List.getElem_mem hj)
  unfold elt
  have : cl (l.drop es[i]) (l.drop es[j]) ≠ 0 := fun e => h2 (drop_inj hi' hj' (cl_eq e))
  omega

/-- the ends, by order -/
def endsOf (l : List Int) : List Nat := (List.range l.length).mergeSort fun a b => decide (cl (l.drop a) (l.drop b) ≤ 0)
theorem endsOf_is (l : List Int) : IsEnds l (endsOf l) := by
  refine IsEnds.of_le (List.mergeSort_perm _ _) ?_
  have h := List.pairwise_mergeSort (le := fun a b => decide (cl (l.drop a) (l.drop b) ≤ 0)) (fun a b c h1 h2 => by simp only [decide_eq_true_eq] at *; exact cl_trans_le h1 h2) (fun a b => by simp only [Bool.or_eq_true, decide_eq_true_eq]; have := cl_neg (l.drop a) (l.drop b); omega) (List.range l.length)
  exact h.imp fun h => by simpa using h
theorem endsOf_length (l : List Int) : (endsOf l).length = l.length := (endsOf_is l).length
theorem endsOf_eq {l : List Int} {es : List Nat} (h : IsEnds l es) : es = endsOf l := h.unique (endsOf_is l)

/-- the end at place i of the row -/
abbrev eat (l : List Int) (i : Nat) : Nat := (endsOf l).getD i 0
theorem eat_lt (l : List Int) (i : Nat) (h : i < l.length) : eat l i < l.length := by
  have h2 : i < (endsOf l).length := by rw [endsOf_length]; exact h
  unfold eat
  rw [List.getD_eq_getElem?_getD, List.getElem?_eq_getElem h2]
  exact (endsOf_is l).lt (List.getElem_mem h2)
theorem eat_elt (l : List Int) (i j : Nat) (hij : i < j) (h : j < l.length) : elt l (eat l i) (eat l j) := by
  have h1 : i < (endsOf l).length := by rw [endsOf_length]; omega
  have h2 : j < (endsOf l).length := by rw [endsOf_length]; exact h
  unfold eat
  simp only [List.getD_eq_getElem?_getD, List.getElem?_eq_getElem h1, List.getElem?_eq_getElem h2, Option.getD_some]
  exact List.pairwise_iff_getElem.1 (endsOf_is l).2 i j h1 h2 hij
theorem eat_inj (l : List Int) (i j : Nat) (hi : i < l.length) (hj : j < l.length) (h : eat l i = eat l j) : i = j := by
  rcases Nat.lt_trichotomy i j with h1 | h1 | h1
  · have := eat_elt l i j h1 hj; rw [h] at this; exact absurd this (elt_irrefl _ _)
  · exact h1
  · have := eat_elt l j i h1 hi; rw [h] at this; exact absurd this (elt_irrefl _ _)
theorem eat_onto (l : List Int) (a : Nat) (h : a < l.length) : ∃ i, i < l.length ∧ eat l i = a := by
  obtain ⟨i, hi, he⟩ := List.getElem_of_mem ((endsOf_is l).mem h)
  refine ⟨i, by rw [endsOf_length] at hi; exact hi, ?_⟩
  unfold eat
  rw [List.getD_eq_getElem?_getD, List.getElem?_eq_getElem hi]; exact he

/-- what the end at place i has in common with the one ahead -/
def alk (l : List Int) (i : Nat) : Nat := if i = 0 then 0 else lcp (l.drop (eat l (i - 1))) (l.drop (eat l i))
theorem alk_le (l : List Int) (i : Nat) : alk l i ≤ l.length := by
  unfold alk
  split
  · omega
  · have := (lcp_le (l.drop (eat l (i - 1))) (l.drop (eat l i))).1
    rw [List.length_drop] at this; omega

theorem drop_cons (l : List Int) (a : Nat) (h : a < l.length) : l.drop a = l.getD a 0 :: l.drop (a + 1) := by
  rw [List.drop_eq_getElem_cons h]; simp [h]

/-- the end one place later has all but one in common -/
theorem alk_next (l : List Int) (i j : Nat) (hi : i < l.length) (hj : j < l.length) (h : eat l j = eat l i + 1) : alk l i - 1 ≤ alk l j := by
  by_cases h1 : alk l i ≤ 1
  · omega
  · have hi0 : i ≠ 0 := fun e => h1 (by unfold alk; rw [if_pos e]; omega)
    have he := eat_lt l i hi
    have hp := eat_lt l (i - 1) (by omega)
    have hlt := eat_elt l (i - 1) i (by omega) hi
    have ha : alk l i = lcp (l.drop (eat l (i - 1))) (l.drop (eat l i)) := by unfold alk; rw [if_neg hi0]
    generalize hpp : eat l (i - 1) = p at *
    generalize eat l i = e at *
    unfold elt at hlt
    rw [drop_cons l p hp, drop_cons l e he] at ha hlt
    have hl := lcp_le (l.drop (p + 1)) (l.drop (e + 1))
    unfold lcp at ha
    unfold cl at hlt
    by_cases hx : l.getD p 0 = l.getD e 0
    · rw [if_pos hx] at ha
      rw [if_neg (by omega), if_neg (by omega)] at hlt
      have hp1 : p + 1 < l.length := by simp at hl; omega
      obtain ⟨m, hm, hme⟩ := eat_onto l (p + 1) hp1
      rw [← hme, ← h] at hlt
      have hmj : m < j := by
        rcases Nat.lt_trichotomy m j with a | a | a
        · exact a
        · subst a; rw [cl_self] at hlt; omega
        · exact absurd (eat_elt l j m a hm) (fun r => elt_asymm r hlt)
      have e2 : alk l j = lcp (l.drop (eat l (j - 1))) (l.drop (eat l j)) := by unfold alk; rw [if_neg (by omega)]
      have h3 := eat_elt l (j - 1) j (by omega) hj
      have h4 : cl (l.drop (eat l m)) (l.drop (eat l (j - 1))) ≤ 0 := by
        by_cases hm1 : m = j - 1
        · rw [hm1, cl_self]; omega
        · have := eat_elt l m (j - 1) (by omega) (by omega)
          unfold elt at this; omega
      have h5 := lcp_mono h4 (show cl (l.drop (eat l (j - 1))) (l.drop (eat l j)) ≤ 0 by unfold elt at h3; omega)
      rw [hme, h] at h5
      rw [h] at e2
      omega
    · rw [if_neg hx] at ha; omega

/-- how far two ends are alike: the test of a search from a place on that is known -/
theorem lcp_more (l : List Int) (a b k : Nat) (hk : k ≤ lcp (l.drop a) (l.drop b)) (ha : a ≤ l.length) (hb : b ≤ l.length) :
    (a + k < l.length ∧ b + k < l.length ∧ l.getD (a + k) 0 = l.getD (b + k) 0) ↔ k < lcp (l.drop a) (l.drop b) := by
  have hl := lcp_le (l.drop a) (l.drop b)
  simp only [List.length_drop] at hl
  have g : ∀ c j, (l.drop c).getD j 0 = l.getD (c + j) 0 := fun c j => by simp
  constructor
  · rintro ⟨h1, h2, h3⟩
    rcases Nat.lt_or_eq_of_le hk with h | h
    · exact h
    · exfalso
      have := lcp_end (l.drop a) (l.drop b) (by simp; omega) (by simp; omega)
      rw [← h, g, g] at this
      exact this h3
  · intro h
    have := lcp_get (l.drop a) (l.drop b) k h
    rw [g, g] at this
    exact ⟨by omega, by omega, this⟩

/-- alike, as a list -/
def alikeOf (l : List Int) : List Int := (List.range l.length).map fun i => (alk l i : Int)
/-- the numbers ahead -/
def aheadOf (l : List Int) (es : List Int) : List Int :=
  es.filterMap fun (e : Int) => if 0 ≤ e ∧ e < (l.length : Int) then some (l.getD (if e = 0 then l.length - 1 else e.toNat - 1) 0) else none
/-- a list of signs -/
def good (l : List Int) : Bool := decide (0 < l.length) && (l.getD (l.length - 1) 0 == 0) && (l.take (l.length - 1)).all fun x => decide (0 < x)

end En
end Go.Proofs.Ytnmhjhfdgfdooaa
