import Derived.WalkKit
import Derived.Test.YtoejenejleocdabGreatDoorJa
import Derived.BigRegion
import Derived.Test.YtoejenejleocdabGreatDoorJb
import Derived.Sort.Grow
import Derived.Test.YtoejenejleocdabGreatDoorSh
/- The ends of a list, by order: the order of lists, the ends sorted, what two have in common. No program is named here. -/
namespace Go.Proofs.YtoejenejleocdabGreatDoor
namespace En

/-- the order of two lists: by the first number that is other; else the shorter is less -/
def cl : List Int → List Int → Int
  | [], [] => 0
  | [], _ :: _ => -1
  | _ :: _, [] => 1
  | x :: xs, y :: ys => if x < y then -1 else if y < x then 1 else cl xs ys

theorem cl_self (a : List Int) : cl a a = 0 := by
  induction a with
  | nil => rfl
  | cons x xs ih => simp [cl, ih]
theorem cl_eq : ∀ {a b : List Int}, cl a b = 0 → a = b
  | [], [], _ => rfl
  | [], _ :: _, h => by simp [cl] at h
  | _ :: _, [], h => by simp [cl] at h
  | x :: xs, y :: ys, h => by
    unfold cl at h
    split at h
    · simp at h
    · split at h
      · simp at h
      · rw [cl_eq h, show x = y from by omega]
theorem cl_neg : ∀ (a b : List Int), cl b a = - cl a b
  | [], [] => rfl
  | [], _ :: _ => rfl
  | _ :: _, [] => rfl
  | x :: xs, y :: ys => by
    have ih := cl_neg xs ys
    unfold cl
    by_cases h1 : x < y
    · rw [if_neg (by omega), if_pos h1, if_pos h1]; rfl
    · by_cases h2 : y < x
      · rw [if_pos h2, if_neg h1, if_pos h2]
      · rw [if_neg h2, if_neg h1, if_neg h1, if_neg h2, ih]
theorem cl_three : ∀ (a b : List Int), cl a b = -1 ∨ cl a b = 0 ∨ cl a b = 1
  | [], [] => .inr (.inl rfl)
  | [], _ :: _ => .inl rfl
  | _ :: _, [] => .inr (.inr rfl)
  | x :: xs, y :: ys => by
    have ih := cl_three xs ys
    unfold cl
    by_cases h1 : x < y
    · rw [if_pos h1]; exact .inl rfl
    · by_cases h2 : y < x
      · rw [if_neg h1, if_pos h2]; exact .inr (.inr rfl)
      · rw [if_neg h1, if_neg h2]; exact ih
theorem cl_trans_le : ∀ {a b c : List Int}, cl a b ≤ 0 → cl b c ≤ 0 → cl a c ≤ 0
  | [], b, [], _, _ => by simp [cl]
  | [], b, _ :: _, _, _ => by simp [cl]
  | x :: xs, [], c, h, _ => by simp [cl] at h
  | x :: xs, y :: ys, [], _, h => by simp [cl] at h
  | x :: xs, y :: ys, z :: zs, h1, h2 => by
    unfold cl at h1 h2 ⊢
    have ih := @cl_trans_le xs ys zs
    by_cases a1 : x < z
    · rw [if_pos a1]; omega
    · rw [if_neg a1]
      by_cases a2 : z < x
      · exfalso
        by_cases b1 : x < y
        · rw [if_neg (by omega), if_pos (by omega)] at h2; omega
        · by_cases b2 : y < x
          · rw [if_neg b1, if_pos b2] at h1; omega
          · rw [if_neg (by omega), if_pos (by omega)] at h2; omega
      · rw [if_neg a2]
        by_cases b1 : x < y
        · rw [if_neg (by omega), if_pos (by omega)] at h2; omega
        · by_cases b2 : y < x
          · rw [if_neg b1, if_pos b2] at h1; omega
          · rw [if_neg b1, if_neg b2] at h1
            rw [if_neg (by omega), if_neg (by omega)] at h2
            exact ih h1 h2
theorem cl_trans {a b c : List Int} (h1 : cl a b < 0) (h2 : cl b c < 0) : cl a c < 0 := by
  have h := cl_trans_le (a := a) (b := b) (c := c) (by omega) (by omega)
  rcases Int.lt_or_eq_of_le h with h | h
  · exact h
  · have := cl_eq h; subst this
    have := cl_neg a b; omega
theorem cl_le_lt {a b c : List Int} (h1 : cl a b ≤ 0) (h2 : cl b c < 0) : cl a c < 0 := by
  rcases Int.lt_or_eq_of_le h1 with h | h
  · exact cl_trans h h2
  · rw [cl_eq h]; exact h2

/-- how many numbers two lists have in common, from the front -/
def lcp : List Int → List Int → Nat
  | x :: xs, y :: ys => if x = y then lcp xs ys + 1 else 0
  | _, _ => 0
theorem lcp_nil (b : List Int) : lcp [] b = 0 := by unfold lcp; rfl
theorem lcp_nil' (a : List Int) : lcp a [] = 0 := by cases a <;> rfl
theorem lcp_le : ∀ (a b : List Int), lcp a b ≤ a.length ∧ lcp a b ≤ b.length
  | [], b => by rw [lcp_nil]; simp
  | a :: _, [] => by rw [lcp_nil']; simp
  | x :: xs, y :: ys => by
    have ih := lcp_le xs ys
    unfold lcp
    split <;> simp <;> omega
/-- of three by order, the two that are next to each other have as much in common -/
theorem lcp_mono : ∀ {x y z : List Int}, cl x y ≤ 0 → cl y z ≤ 0 → lcp x z ≤ lcp y z
  | [], y, z, _, _ => by rw [lcp_nil]; omega
  | x :: xs, y, [], _, _ => by rw [lcp_nil']; omega
  | x :: xs, [], z :: zs, h, _ => by simp [cl] at h
  | x :: xs, y :: ys, z :: zs, h1, h2 => by
    have ih := @lcp_mono xs ys zs
    by_cases e : x = z
    · subst e
      have hxy : x = y := by
        unfold cl at h1 h2
        by_cases a : x < y
        · rw [if_neg (by omega), if_pos a] at h2; omega
        · by_cases b : y < x
          · rw [if_neg a, if_pos b] at h1; omega
          · omega
      subst hxy
      unfold cl at h1 h2
      rw [if_neg (by omega), if_neg (by omega)] at h1 h2
      unfold lcp
      rw [if_pos rfl, if_pos rfl]
      have := ih h1 h2
      omega
    · have : lcp (x :: xs) (z :: zs) = 0 := by unfold lcp; rw [if_neg e]
      omega

/-! ### keys: the first k numbers of an end -/
def key (l : List Int) (k a : Nat) : List Int := (l.drop a).take k

theorem cl_take_append {k' : Nat} : ∀ (k : Nat) (a b : List Int), cl (a.take (k + k')) (b.take (k + k')) = if cl (a.take k) (b.take k) = 0 then cl ((a.drop k).take k') ((b.drop k).take k') else cl (a.take k) (b.take k)
  | 0, a, b => by simp [cl]
  | k + 1, [], [] => by simp [cl]
  | k + 1, [], y :: ys => by rw [show k + 1 + k' = (k + k') + 1 from by omega]; simp [cl]
  | k + 1, x :: xs, [] => by rw [show k + 1 + k' = (k + k') + 1 from by omega]; simp [cl]
  | k + 1, x :: xs, y :: ys => by
    have ih := cl_take_append (k' := k') k xs ys
    rw [show k + 1 + k' = (k + k') + 1 from by omega]
    simp only [List.take_succ_cons, List.drop_succ_cons, cl]
    by_cases h1 : x < y
    · simp [h1]
    · by_cases h2 : y < x
      · simp [h1, h2]
      · simp only [h1, h2, if_false]; exact ih

/-- twice as many numbers: by the first half, else by the second -/
theorem key_double (l : List Int) (k a b : Nat) : cl (key l (k + k) a) (key l (k + k) b) = if cl (key l k a) (key l k b) = 0 then cl (key l k (a + k)) (key l k (b + k)) else cl (key l k a) (key l k b) := by
  have h := cl_take_append (k' := k) k (l.drop a) (l.drop b)
  unfold key
  rw [h, List.drop_drop, List.drop_drop]
theorem key_behind (l : List Int) (k a : Nat) (h : l.length ≤ a) : key l k a = [] := by
  unfold key; rw [List.drop_eq_nil_of_le h]; simp
theorem key_all (l : List Int) (k a : Nat) (h : l.length ≤ k) : key l k a = l.drop a := by
  unfold key; exact List.take_of_length_le (by rw [List.length_drop]; omega)
theorem key_cons (l : List Int) (k a : Nat) (h : a < l.length) (hk : 0 < k) : ∃ t, key l k a = l.getD a 0 :: t := by
  obtain ⟨k', rfl⟩ : ∃ k', k = k' + 1 := ⟨k - 1, by omega⟩
  refine ⟨(l.drop (a + 1)).take k', ?_⟩
  unfold key
  rw [List.drop_eq_getElem_cons h, List.take_succ_cons]
  simp [h]
theorem key_one (l : List Int) (a : Nat) (h : a < l.length) : key l 1 a = [l.getD a 0] := by
  unfold key
  rw [List.drop_eq_getElem_cons h, show (1 : Nat) = 0 + 1 from rfl, List.take_succ_cons, List.take_zero]
  simp [h]

/-- the order of two numbers -/
def ci (x y : Int) : Int := if x < y then -1 else if y < x then 1 else 0
theorem cl_one (l : List Int) (a b : Nat) (ha : a < l.length) (hb : b < l.length) : cl (key l 1 a) (key l 1 b) = ci (l.getD a 0) (l.getD b 0) := by
  rw [key_one l a ha, key_one l b hb]
  simp only [cl, ci]

/-- ranks that tell the order of the first k numbers -/
def Ranks (K : Nat → List Int) (n : Nat) (r : Nat → Nat) : Prop := ∀ a b, a < n → b < n → ci (r a) (r b) = cl (K a) (K b)
/-- the rank at a place; behind the list below all others -/
def rat (n : Nat) (r : Nat → Nat) (p : Nat) : Int := if n ≤ p then -1 else (r p : Int)
/-- ranks of k numbers tell the order of twice as many -/
theorem ranks_double (l : List Int) (k : Nat) (r : Nat → Nat) (hk : 0 < k) (h : Ranks (key l k) l.length r) (a b : Nat) (ha : a < l.length) (hb : b < l.length) :
    (if ci (r a) (r b) = 0 then ci (rat l.length r (a + k)) (rat l.length r (b + k)) else ci (r a) (r b)) = cl (key l (k + k) a) (key l (k + k) b) := by
  rw [key_double, h a b ha hb]
  split
  · unfold rat
    by_cases h1 : l.length ≤ a + k
    · rw [if_pos h1, key_behind l k _ h1]
      by_cases h2 : l.length ≤ b + k
      · rw [if_pos h2, key_behind l k _ h2]; rfl
      · rw [if_neg h2]
        obtain ⟨t, ht⟩ := key_cons l k (b + k) (by omega) hk
        rw [ht]
        simp only [cl, ci]
        rw [if_pos (by omega)]
    · rw [if_neg h1]
      by_cases h2 : l.length ≤ b + k
      · rw [if_pos h2, key_behind l k _ h2]
        obtain ⟨t, ht⟩ := key_cons l k (a + k) (by omega) hk
        rw [ht]
        simp only [cl, ci]
        rw [if_neg (by omega), if_pos (by omega)]
      · rw [if_neg h2]; exact h _ _ (by omega) (by omega)
  · rfl

/-! ### ranks of a sorted row -/
/-- how often the key is another, up to place i of a row -/
def rk (K : Nat → List Int) (es : Nat → Nat) : Nat → Nat
  | 0 => 0
  | i + 1 => rk K es i + if cl (K (es i)) (K (es (i + 1))) = 0 then 0 else 1
theorem rk_le (K : Nat → List Int) (es : Nat → Nat) (i : Nat) : rk K es i ≤ i := by
  induction i with
  | zero => simp [rk]
  | succ i ih => simp only [rk]; split <;> omega
theorem rk_step (K : Nat → List Int) (es : Nat → Nat) (n : Nat) (hs : ∀ i j, i < j → j < n → cl (K (es i)) (K (es j)) ≤ 0) : ∀ d i, i + d < n →
    rk K es i ≤ rk K es (i + d) ∧ (rk K es i = rk K es (i + d) ↔ cl (K (es i)) (K (es (i + d))) = 0)
  | 0, i, _ => by simp [cl_self]
  | d + 1, i, h => by
    obtain ⟨h1, h2⟩ := rk_step K es n hs d i (by omega)
    have h3 := hs (i + d) (i + d + 1) (by omega) (by omega)
    have h4 : cl (K (es i)) (K (es (i + d))) ≤ 0 := by
      by_cases hd : d = 0
      · subst hd; simp [cl_self]
      · exact hs _ _ (by omega) (by omega)
    rw [show i + (d + 1) = i + d + 1 from by omega]
    show _ ≤ rk K es (i + d) + _ ∧ (_ = rk K es (i + d) + _ ↔ _)
    by_cases hc : cl (K (es (i + d))) (K (es (i + d + 1))) = 0
    · rw [if_pos hc, ← cl_eq hc]
      exact ⟨by omega, h2⟩
    · rw [if_neg hc]
      refine ⟨by omega, ⟨fun h => by omega, fun h => ?_⟩⟩
      have := cl_le_lt h4 (show cl (K (es (i + d))) (K (es (i + d + 1))) < 0 by omega)
      omega
theorem rk_ci (K : Nat → List Int) (es : Nat → Nat) (n : Nat) (hs : ∀ i j, i < j → j < n → cl (K (es i)) (K (es j)) ≤ 0) (i j : Nat) (hi : i < n) (hj : j < n) :
    ci (rk K es i) (rk K es j) = cl (K (es i)) (K (es j)) := by
  have main : ∀ i j, i ≤ j → j < n → ci (rk K es i) (rk K es j) = cl (K (es i)) (K (es j)) := by
    intro i j hij hj
    obtain ⟨d, rfl⟩ : ∃ d, j = i + d := ⟨j - i, by omega⟩
    obtain ⟨h1, h2⟩ := rk_step K es n hs d i hj
    have h4 : cl (K (es i)) (K (es (i + d))) ≤ 0 := by
      by_cases hd : d = 0
      · subst hd; simp [cl_self]
      · exact hs _ _ (by omega) (by omega)
    have h5 := cl_three (K (es i)) (K (es (i + d)))
    unfold ci
    by_cases hc : cl (K (es i)) (K (es (i + d))) = 0
    · rw [hc, h2.2 hc]; simp
    · have : rk K es i ≠ rk K es (i + d) := fun e => hc (h2.1 e)
      rw [if_pos (by omega)]; omega
  rcases Nat.le_total i j with h | h
  · exact main i j h hj
  · have h1 := main j i h hi
    have h2 := cl_neg (K (es j)) (K (es i))
    rw [h2, ← h1]
    unfold ci
    split <;> split <;> first | omega | (split <;> omega) | skip

end En
end Go.Proofs.YtoejenejleocdabGreatDoor

/- The ends of a list, by order: there is one such row; what each has in common with the one ahead; what stands ahead. No program is named here. -/
namespace Go.Proofs.YtoejenejleocdabGreatDoor
namespace En

/-- one end is less than another -/
def elt (l : List Int) (a b : Nat) : Prop := cl (l.drop a) (l.drop b) < 0
/-- a row has all ends, by order -/
def IsEnds (l : List Int) (es : List Nat) : Prop := es.Perm (List.range l.length) ∧ es.Pairwise (elt l)

theorem elt_irrefl (l : List Int) (a : Nat) : ¬ elt l a a := by unfold elt; rw [cl_self]; omega
theorem elt_asymm {l : List Int} {a b : Nat} (h1 : elt l a b) (h2 : elt l b a) : False := elt_irrefl l a (cl_trans h1 h2)
theorem drop_inj {l : List Int} {a b : Nat} (ha : a < l.length) (hb : b < l.length) (h : l.drop a = l.drop b) : a = b := by
  have := congrArg List.length h
  simp at this; omega
theorem pairwise_unique {R : Nat → Nat → Prop} (hA : ∀ a b, R a b → R b a → False) : ∀ {x y : List Nat}, x.Perm y → x.Pairwise R → y.Pairwise R → x = y
  | [], y, hp, _, _ => (List.nil_perm.1 hp).symm
  | a :: x, [], hp, _, _ => by have := hp.length_eq; simp at this
  | a :: x, b :: y, hp, h1, h2 => by
    have ha : a ∈ b :: y := hp.subset (by simp)
    have hb : b ∈ a :: x := hp.symm.subset (by simp)
    have e : a = b := by
      rcases List.mem_cons.1 ha with h | h
      · exact h
      · rcases List.mem_cons.1 hb with h' | h'
        · exact h'.symm
        · exact absurd ((List.pairwise_cons.1 h1).1 b h') (fun r => hA _ _ r ((List.pairwise_cons.1 h2).1 a h))
    subst e
    rw [pairwise_unique hA (List.Perm.cons_inv hp) (List.pairwise_cons.1 h1).2 (List.pairwise_cons.1 h2).2]
theorem IsEnds.unique {l : List Int} {x y : List Nat} (h1 : IsEnds l x) (h2 : IsEnds l y) : x = y :=
  pairwise_unique (fun _ _ => elt_asymm) (h1.1.trans h2.1.symm) h1.2 h2.2

theorem IsEnds.length {l : List Int} {es : List Nat} (h : IsEnds l es) : es.length = l.length := by have := h.1.length_eq; simpa using this
theorem IsEnds.lt {l : List Int} {es : List Nat} (h : IsEnds l es) {a : Nat} (ha : a ∈ es) : a < l.length := by simpa using h.1.subset ha
theorem IsEnds.mem {l : List Int} {es : List Nat} (h : IsEnds l es) {a : Nat} (ha : a < l.length) : a ∈ es := h.1.symm.subset (by simpa using ha)
theorem IsEnds.nodup {l : List Int} {es : List Nat} (h : IsEnds l es) : es.Nodup := h.1.symm.nodup List.nodup_range

/-- a row sorted by keys of the whole ends is the ends -/
theorem IsEnds.of_le {l : List Int} {es : List Nat} (hp : es.Perm (List.range l.length)) (hs : es.Pairwise (fun a b => cl (l.drop a) (l.drop b) ≤ 0)) : IsEnds l es := by
  refine ⟨hp, ?_⟩
  have hn : es.Nodup := hp.symm.nodup List.nodup_range
  refine (List.pairwise_iff_getElem.2 fun i j hi hj hij => ?_)
  have h1 := List.pairwise_iff_getElem.1 hs i j hi hj hij
  have h2 := List.pairwise_iff_getElem.1 hn i j hi hj hij
  have hi' : es[i] < l.length := by simpa using hp.subset (List.getElem_mem hi)
  have hj' : es[j] < l.length := by simpa using hp.subset (List.getElem_mem hj)
  unfold elt
  have : cl (l.drop es[i]) (l.drop es[j]) ≠ 0 := fun e => h2 (drop_inj hi' hj' (cl_eq e))
  omega

/-- the ends, by order -/
def endsOf (l : List Int) : List Nat := (List.range l.length).mergeSort fun a b => decide (cl (l.drop a) (l.drop b) ≤ 0)
theorem endsOf_is (l : List Int) : IsEnds l (endsOf l) := by
  refine IsEnds.of_le (List.mergeSort_perm _ _) ?_
  have h := List.pairwise_mergeSort (le := fun a b => decide (cl (l.drop a) (l.drop b) ≤ 0)) (fun a b c h1 h2 => by simp only [decide_eq_true_eq] at *; exact cl_trans_le h1 h2) (fun a b => by simp only [Bool.or_eq_true, decide_eq_true_eq]; have := cl_neg (l.drop a) (l.drop b); omega) (List.range l.length)
  exact h.imp fun h => by simpa using h
theorem endsOf_length (l : List Int) : (endsOf l).length = l.length := (endsOf_is l).length
theorem endsOf_eq {l : List Int} {es : List Nat} (h : IsEnds l es) : es = endsOf l := h.unique (endsOf_is l)

/-- the end at place i of the row -/
abbrev eat (l : List Int) (i : Nat) : Nat := (endsOf l).getD i 0
theorem eat_lt (l : List Int) (i : Nat) (h : i < l.length) : eat l i < l.length := by
  have h2 : i < (endsOf l).length := by rw [endsOf_length]; exact h
  unfold eat
  rw [List.getD_eq_getElem?_getD, List.getElem?_eq_getElem h2]
  exact (endsOf_is l).lt (List.getElem_mem h2)
theorem eat_elt (l : List Int) (i j : Nat) (hij : i < j) (h : j < l.length) : elt l (eat l i) (eat l j) := by
  have h1 : i < (endsOf l).length := by rw [endsOf_length]; omega
  have h2 : j < (endsOf l).length := by rw [endsOf_length]; exact h
  unfold eat
  simp only [List.getD_eq_getElem?_getD, List.getElem?_eq_getElem h1, List.getElem?_eq_getElem h2, Option.getD_some]
  exact List.pairwise_iff_getElem.1 (endsOf_is l).2 i j h1 h2 hij
theorem eat_inj (l : List Int) (i j : Nat) (hi : i < l.length) (hj : j < l.length) (h : eat l i = eat l j) : i = j := by
  rcases Nat.lt_trichotomy i j with h1 | h1 | h1
  · have := eat_elt l i j h1 hj; rw [h] at this; exact absurd this (elt_irrefl _ _)
  · exact h1
  · have := eat_elt l j i h1 hi; rw [h] at this; exact absurd this (elt_irrefl _ _)
theorem eat_onto (l : List Int) (a : Nat) (h : a < l.length) : ∃ i, i < l.length ∧ eat l i = a := by
  obtain ⟨i, hi, he⟩ := List.getElem_of_mem ((endsOf_is l).mem h)
  refine ⟨i, by rw [endsOf_length] at hi; exact hi, ?_⟩
  unfold eat
  rw [List.getD_eq_getElem?_getD, List.getElem?_eq_getElem hi]; exact he

theorem drop_cons (l : List Int) (a : Nat) (h : a < l.length) : l.drop a = l.getD a 0 :: l.drop (a + 1) := by
  rw [List.drop_eq_getElem_cons h]; simp [h]

/-- the numbers ahead -/
def aheadOf (l : List Int) (es : List Int) : List Int :=
  es.filterMap fun (e : Int) => if 0 ≤ e ∧ e < (l.length : Int) then some (l.getD (if e = 0 then l.length - 1 else e.toNat - 1) 0) else none
/-- a list of signs -/
def good (l : List Int) : Bool := decide (0 < l.length) && (l.getD (l.length - 1) 0 == 0) && (l.take (l.length - 1)).all fun x => decide (0 < x)

end En
end Go.Proofs.YtoejenejleocdabGreatDoor

/- The leaves: the order of two numbers, the first of two that is not 0, the rank at a place, how many numbers two ends have in common, is there one that is no sign. -/
namespace Go.Proofs.YtoejenejleocdabGreatDoor
open Go.RowKit

theorem isNaN_any (x : Int) (w : World) : Calls Tryz.prog 107 #[.int .i64 x] w fun e w' => e = .returned (.bool false) ∧ w = w' := by
  have h : (x != x) = false := by simp
  go_enter Tryz.func107, Tryz.ntmps107
  go_wp2
  go_ret
  exact ⟨rfl, rfl⟩

set_option maxHeartbeats 400000 in
theorem compare_any (x y : Int) (w : World) : Calls Tryz.prog 70 #[.int .i64 x, .int .i64 y] w fun e w' => e = .returned (.int .i64 (En.ci x y)) ∧ w = w' := by
  unfold En.ci
  by_cases h1 : x < y
  · rw [if_pos h1]
    go_enter Tryz.func70, Tryz.ntmps70
    go_wp2_with (go_at_call 107; refine (isNaN_any _ _).mono ?_; rintro e w' ⟨rfl, rfl⟩)
    go_ret
    exact ⟨rfl, rfl⟩
  · rw [if_neg h1]
    by_cases h2 : y < x
    · rw [if_pos h2]
      go_enter Tryz.func70, Tryz.ntmps70
      go_wp2_with (go_at_call 107; refine (isNaN_any _ _).mono ?_; rintro e w' ⟨rfl, rfl⟩)
      go_ret
      exact ⟨rfl, rfl⟩
    · rw [if_neg h2]
      go_enter Tryz.func70, Tryz.ntmps70
      go_wp2_with (go_at_call 107; refine (isNaN_any _ _).mono ?_; rintro e w' ⟨rfl, rfl⟩)
      go_ret
      exact ⟨rfl, rfl⟩

/-- the first of two that is not 0 -/
def orv (x y : Int) : Int := if x = 0 then y else x

set_option maxHeartbeats 400000 in
theorem or_any (b : Nat) (x y : Int) (w : World) (h0 : w.cell? ⟨b, 0, none⟩ = some (.int .i64 x)) (h1 : w.cell? ⟨b, 1, none⟩ = some (.int .i64 y)) :
    Calls Tryz.prog 72 #[.slice (some ⟨b, 0, none⟩) 2 2] w fun e w' => e = .returned (.int .i64 (orv x y)) ∧ w = w' := by
  unfold orv
  by_cases hx : x = 0
  · rw [if_pos hx]
    subst hx
    by_cases hy : y = 0
    · subst hy
      go_enter Tryz.func72, Tryz.ntmps72
      go_wp2
      refine wp_loop_rounds 3 ?_
      rw [rounds_succ]
      go_wp2
      rw [rounds_succ]
      go_wp2
      rw [rounds_succ]
      go_wp2
      go_ret
      exact ⟨rfl, rfl⟩
    · have hn : (y != 0) = true := by simp [hy]
      go_enter Tryz.func72, Tryz.ntmps72
      go_wp2
      refine wp_loop_rounds 2 ?_
      rw [rounds_succ]
      go_wp2
      rw [rounds_succ]
      go_wp2
      go_ret
      exact ⟨rfl, rfl⟩
  · rw [if_neg hx]
    have hn : (x != 0) = true := by simp [hx]
    go_enter Tryz.func72, Tryz.ntmps72
    go_wp2
    refine wp_loop_rounds 1 ?_
    rw [rounds_succ]
    go_wp2
    go_ret
    exact ⟨rfl, rfl⟩

theorem rankAt_any (A : Option Addr) (n c p : Nat) (r : Nat → Nat) (w : World) (hr : Row w w.heap.size A n (fun k => .int .i64 (r k : Nat))) (hp : p < 4611686018427387904) (hn : n < 4611686018427387904) :
    Calls Tryz.prog 73 #[.slice A n c, .int .i64 p] w fun e w' => e = .returned (.int .i64 (En.rat n r p)) ∧ w = w' := by
  unfold En.rat
  by_cases h : n ≤ p
  · rw [if_pos h]
    have hz : (n : Int) ≤ (p : Int) := by omega
    go_enter Tryz.func73, Tryz.ntmps73
    go_wp2
    go_ret
    exact ⟨rfl, rfl⟩
  · rw [if_neg h]
    obtain ⟨b, o, rfl, hb, hc⟩ := hr (by omega)
    have hc1 := hc p (by omega)
    have hz : (p : Int) < (n : Int) := by omega
    clear hc
    go_enter Tryz.func73, Tryz.ntmps73
    go_wp2
    go_ret
    exact ⟨rfl, rfl⟩

theorem isNoSign_any (x : Int) (w : World) : Calls Tryz.prog 67 #[.int .i64 x] w fun e w' => e = .returned (.bool (decide (x ≤ 0))) ∧ w = w' := by
  go_enter Tryz.func67, Tryz.ntmps67
  go_wp2
  go_ret
  exact ⟨rfl, rfl⟩

set_option maxHeartbeats 1000000 in
/-- the first place that holds no sign, or -1 -/
theorem indexFunc_any (A : Option Addr) (n c : Nat) (f : Nat → Int) (w : World) (hr : Row w w.heap.size A n (fun k => .int .i64 (f k))) (hn : n < 4611686018427387904) :
    Calls Tryz.prog 105 #[.slice A n c, .func (.func 67) #[] #[]] w fun e w' =>
      ∃ v : Int, e = .returned (.int .i64 v) ∧ (0 ≤ v ↔ ∃ i, i < n ∧ f i ≤ 0) ∧ w = w' := by
  go_enter Tryz.func105, Tryz.ntmps105
  go_wp2
  go_loopw [8] (fun s wr => ∃ k : Nat, k ≤ n ∧ s = .int .i64 k ∧ wr = w ∧ Hid (∀ i, i < k → 0 < f i)) (fun s _ => n - (intOf s).toNat)
  case atStart => exact ⟨0, Nat.zero_le _, rfl, rfl, (fun i hi => absurd hi (by omega) : ∀ i, i < 0 → 0 < f i)⟩
  case round =>
    obtain ⟨k, hk, rfl, rfl, I⟩ := hrel
    by_cases hlt : k < n
    · obtain ⟨x, o, rfl, hx, hc⟩ := hr (by omega)
      have hc1 := hc k hlt
      have hlz : (k : Int) < (n : Int) := by omega
      clear hc hr
      by_cases he : f k ≤ 0
      · have HE := Lib.hid he
        have hd : decide (f k ≤ 0) = true := by simp [he]
        have HC := Lib.hid (fun W => isNoSign_any (f k) W)
        rw [hd] at HC
        clear he hd
        go_wp2_with fail
        with_reducible refine (HC.out _).mono ?_
        rintro e w' ⟨rfl, rfl⟩
        go_wp2
        go_ret
        exact ⟨k, rfl, ⟨fun _ => ⟨k, hlt, HE.out⟩, fun _ => by omega⟩, rfl⟩
      · have hd : decide (f k ≤ 0) = false := by simp [he]
        have HC := Lib.hid (fun W => isNoSign_any (f k) W)
        rw [hd] at HC
        have I2 : Hid (∀ i, i < k + 1 → 0 < f i) := fun i hi => by
          rcases Nat.lt_succ_iff_lt_or_eq.1 hi with h | h
          · exact I.out i h
          · rw [h]; omega
        clear he hd I
        go_wp2_with fail
        with_reducible refine (HC.out _).mono ?_
        rintro e w' ⟨rfl, rfl⟩
        go_wp2
        go_roundw
        case rel => exact ⟨k + 1, by omega, by go_num, by first | rfl | trivial, I2⟩
        case measure => simp [intOf]; omega
    · have hkn : k = n := by omega
      go_wp2
      go_ret
      exact ⟨-1, rfl, ⟨fun h => absurd h (by omega), fun ⟨i, hi, h⟩ => absurd (I.out i (by omega)) (by omega)⟩, rfl⟩

theorem containsFunc_any (A : Option Addr) (n c : Nat) (f : Nat → Int) (w : World) (hr : Row w w.heap.size A n (fun k => .int .i64 (f k))) (hn : n < 4611686018427387904) :
    Calls Tryz.prog 66 #[.slice A n c, .func (.func 67) #[] #[]] w fun e w' =>
      ∃ v : Bool, e = .returned (.bool v) ∧ (v = true ↔ ∃ i, i < n ∧ f i ≤ 0) ∧ w = w' := by
  have HI := Lib.hid (indexFunc_any A n c f w hr hn)
  go_enter Tryz.func66, Tryz.ntmps66
  go_wp2_with fail
  refine HI.out.mono ?_
  rintro e w' ⟨v, rfl, hv, rfl⟩
  have HV := Lib.hid hv
  clear hv
  go_wp2
  go_ret
  exact ⟨decide (0 ≤ v), rfl, by rw [decide_eq_true_eq]; exact HV.out, rfl⟩

end Go.Proofs.YtoejenejleocdabGreatDoor

/- How many numbers two ends have in common, from a number on that is known. -/
namespace Go.Proofs.YtoejenejleocdabGreatDoor
open Go.RowKit

end Go.Proofs.YtoejenejleocdabGreatDoor

/- The two orders that sort.Ends hands over: by one number; by the ranks of k numbers here and of k more. -/
namespace Go.Proofs.YtoejenejleocdabGreatDoor
open Go.RowKit

set_option maxHeartbeats 400000 in
/-- the order by one number -/
theorem order1_any (B : Nat) (A : Option Addr) (n c x y : Nat) (f : Nat → Int) (w : World) (hB : w.cell? ⟨B, 0, none⟩ = some (.slice A n c)) (hr : Row w w.heap.size A n (fun k => .int .i64 (f k))) (hx : x < n) (hy : y < n) (hn : n < 1152921504606846976) :
    Calls Tryz.prog 69 #[.int .i64 x, .int .i64 y, .pointer (some ⟨B, 0, none⟩)] w fun e w' => e = .returned (.int .i64 (En.ci (f x) (f y))) ∧ ∃ q, w' = w.drewN q := by
  obtain ⟨b, o, rfl, hb, hc⟩ := hr (by omega)
  have hc1 := hc x hx
  have hc2 := hc y hy
  have hxz : (x : Int) < (n : Int) := by omega
  have hyz : (y : Int) < (n : Int) := by omega
  clear hc hr
  go_enter Tryz.func69, Tryz.ntmps69
  go_wp2
  go_quiet ((go_at_call 70; refine Calls.quiet_of_same ((compare_any _ _ _).mono fun _ _ h => ⟨h.1, h.2.symm⟩)))
  go_wp2
  go_ret
  exact ⟨rfl, _, rfl⟩

theorem new2_0 (w : World) (u v : Value) (t : TypeId) : (w.alloc (.cells #[u, v] t)).cell? ⟨w.heap.size, 0, none⟩ = some u := by
  rw [World.cell?_alloc_at _ _ _ _ (by simp)]; rfl
theorem new2_1 (w : World) (u v : Value) (t : TypeId) : (w.alloc (.cells #[u, v] t)).cell? ⟨w.heap.size, 1, none⟩ = some v := by
  rw [World.cell?_alloc_at _ _ _ _ (by simp)]; rfl

theorem new2d_0 (w : World) (u v : Value) (t : TypeId) : (w.alloc (.cells #[u, v] t)).drew.cell? ⟨w.heap.size, 0, none⟩ = some u := (show (w.alloc (.cells #[u, v] t)).drew.cell? ⟨w.heap.size, 0, none⟩ = (w.alloc (.cells #[u, v] t)).cell? ⟨w.heap.size, 0, none⟩ from rfl).trans (new2_0 w u v t)
theorem new2d_1 (w : World) (u v : Value) (t : TypeId) : (w.alloc (.cells #[u, v] t)).drew.cell? ⟨w.heap.size, 1, none⟩ = some v := (show (w.alloc (.cells #[u, v] t)).drew.cell? ⟨w.heap.size, 1, none⟩ = (w.alloc (.cells #[u, v] t)).cell? ⟨w.heap.size, 1, none⟩ from rfl).trans (new2_1 w u v t)

set_option maxHeartbeats 1000000 in
/-- the order by ranks -/
theorem order2_any (B B2 g n x y k : Nat) (r : Nat → Nat) (w : World) (hB : w.cell? ⟨B, 0, none⟩ = some (.slice (some ⟨g, 0, none⟩) n n)) (hB2 : w.cell? ⟨B2, 0, none⟩ = some (.int .i64 k))
    (hg : g < w.heap.size) (hr : ∀ i, i < n → w.cell? ⟨g, i, none⟩ = some (.int .i64 (r i : Nat))) (hx : x < n) (hy : y < n) (hn : n < 1152921504606846976) (hk : k < 1152921504606846976) :
    Calls Tryz.prog 71 #[.int .i64 x, .int .i64 y, .pointer (some ⟨B, 0, none⟩), .pointer (some ⟨B2, 0, none⟩)] w fun e w' =>
      e = .returned (.int .i64 (orv (En.ci (r x) (r y)) (En.ci (En.rat n r (x + k)) (En.rat n r (y + k))))) ∧ ∃ q os, w' = Sort.grow (w.drewN q) os := by
  have hc1 := hr x hx
  have hc2 := hr y hy
  have hxz : (x : Int) < (n : Int) := by omega
  have hyz : (y : Int) < (n : Int) := by omega
  have hrow : ∀ W : World, (∀ p, W.cell? p = w.cell? p) → W.heap.size = w.heap.size → Row W W.heap.size (some ⟨g, 0, none⟩) n (fun k => .int .i64 (r k : Nat)) := fun W h1 h2 _ => ⟨g, 0, rfl, by rw [h2]; exact hg, fun i hi => by rw [Nat.zero_add, h1]; exact hr i hi⟩
  have hwx : IntKind.i64.wrap ((x : Int) + (k : Int)) = (x : Int) + (k : Int) := by simp [IntKind.wrap, IntKind.bits, IntKind.signed]; omega
  have hwy : IntKind.i64.wrap ((y : Int) + (k : Int)) = (y : Int) + (k : Int) := by simp [IntKind.wrap, IntKind.bits, IntKind.signed]; omega
  have hx1 : ∀ W : World, (∀ p, W.cell? p = w.cell? p) → W.heap.size = w.heap.size → Calls Tryz.prog 73 #[.slice (some ⟨g, 0, none⟩) n n, .int .i64 ((x : Int) + (k : Int))] W fun e w' => e = .returned (.int .i64 (En.rat n r (x + k))) ∧ W = w' := fun W h1 h2 => by
    have := rankAt_any (some ⟨g, 0, none⟩) n n (x + k) r W (hrow W h1 h2) (by omega) (by omega)
    rwa [show ((x + k : Nat) : Int) = (x : Int) + (k : Int) from by omega] at this
  have hy1 : ∀ W : World, (∀ p, W.cell? p = w.cell? p) → W.heap.size = w.heap.size → Calls Tryz.prog 73 #[.slice (some ⟨g, 0, none⟩) n n, .int .i64 ((y : Int) + (k : Int))] W fun e w' => e = .returned (.int .i64 (En.rat n r (y + k))) ∧ W = w' := fun W h1 h2 => by
    have := rankAt_any (some ⟨g, 0, none⟩) n n (y + k) r W (hrow W h1 h2) (by omega) (by omega)
    rwa [show ((y + k : Nat) : Int) = (y : Int) + (k : Int) from by omega] at this
  have HX := Lib.hid hx1
  have HY := Lib.hid hy1
  have HO := Lib.hid or_any
  have HC := Lib.hid (fun a b W => compare_any a b W)
  clear hx1 hy1 hrow hr
  generalize En.rat n r (x + k) = rx at *
  generalize En.rat n r (y + k) = ry at *
  generalize r x = px at *
  generalize r y = py at *
  go_enter Tryz.func71, Tryz.ntmps71
  go_wp2
  go_region_held3 (fun w' => w'.cell? ⟨B, 0, none⟩ = some (.slice (some ⟨g, 0, none⟩) n n) ∧ w'.cell? ⟨B2, 0, none⟩ = some (.int .i64 k) ∧ w'.cell? ⟨g, x, none⟩ = some (.int .i64 px) ∧ w'.cell? ⟨g, y, none⟩ = some (.int .i64 py)) (first | exact ⟨hB, hB2, hc1, hc2⟩ | go_keep)
    (first
      | (go_at_call 70; with_reducible refine (HC.out _ _ _).mono ?_; rintro e w1 ⟨rfl, rfl⟩)
      | (go_at_call 73; (first | (with_reducible refine (HX.out _ ?_ ?_).mono ?_) | (with_reducible refine (HY.out _ ?_ ?_).mono ?_)); (exact fun _ => rfl); (exact rfl); rintro e w2 ⟨rfl, rfl⟩)
      | (go_at_call 72; with_reducible refine (HO.out w.heap.size (En.ci px py) (En.ci rx ry) _ ?_ ?_).mono ?_; (exact new2d_0 w _ _ _); (exact new2d_1 w _ _ _); rintro e w3 ⟨rfl, rfl⟩))
  all_goals
    go_wp2
    go_ret
    exact ⟨rfl, 1, #[_], Sort.alloc_eq_grow w.drew _⟩

end Go.Proofs.YtoejenejleocdabGreatDoor

/- slices.SortFunc on a row of places, by an order that is told by keys. -/
namespace Go.Proofs.YtoejenejleocdabGreatDoor
open Go.RowKit

theorem growBy_trans {a b c : World} {r : Option Nat} (h : a.grownBy b r) (k : b.grownBy c r) : a.grownBy c r :=
  ⟨k.os.trans h.os, k.tape.trans h.tape, k.output.trans h.output, Nat.le_trans h.size k.size, fun i hi hne => (k.block i (Nat.lt_of_lt_of_le hi h.size) hne).trans (h.block i hi hne)⟩
/-- what is put into the row, and new blocks: all others are as they were -/
theorem growBy_sort {α : Type} [Inhabited α] (enc : α → Value) (w : World) (g off m : Nat) (d : Array α) (os : Array Obj) : w.grownBy (sortWorld enc w g off m d os) (some g) := by
  refine ⟨rfl, rfl, rfl, by simp [sortWorld], fun k hk hne => ?_⟩
  have hkg : ¬ g = k := fun e => hne (by rw [e])
  unfold sortWorld
  rw [Sort.heap_grow_old _ _ (by simpa using hk)]
  simp [Sort.putRow, Sort.mapBlock, Array.getElem?_modify, hkg]
theorem growBy_grow (w : World) (q : Nat) (os : Array Obj) (r : Option Nat) : w.grownBy (Sort.grow (w.drewN q) os) r := by
  refine ⟨rfl, rfl, rfl, by simp [Sort.grow, World.drewN], fun k hk _ => ?_⟩
  exact Sort.heap_grow_old (w.drewN q) os hk
theorem rowIs_growBy {w w' : World} {b g : Nat} {t : TypeId} {n : Nat} {f : Nat → Value} (h : w.rowIs b t n f) (hg : w.grownBy w' (some g)) (hne : b ≠ g) : w'.rowIs b t n f :=
  h.of_block (hg.block b h.lt (fun e => hne (by injection e)))
theorem rowIs_grow {w : World} {b : Nat} {t : TypeId} {n : Nat} {f : Nat → Value} (h : w.rowIs b t n f) (q : Nat) (os : Array Obj) : (Sort.grow (w.drewN q) os).rowIs b t n f :=
  h.of_block (Sort.heap_grow_old (w.drewN q) os h.lt)

/-- an order that is handed over: in every world in which all blocks but one (g) are as they were, it tells the order of the keys of two places -/
def Cmps (F : Nat) (cb : Array Value) (K : Nat → List Int) (n g : Nat) (w : World) : Prop :=
  ∀ W, w.grownBy W (some g) → ∀ x y : Nat, x < n → y < n → Calls Tryz.prog F (#[.int .i64 x, .int .i64 y] ++ cb) W fun e w' => e = .returned (.int .i64 (En.cl (K x) (K y))) ∧ ∃ q os, w' = Sort.grow (W.drewN q) os

/-- places in a row -/
abbrev places (es : List Nat) : Nat → Value := fun i => .int .i64 ((es.getD i 0 : Nat) : Int)

theorem sortFunc_any (F : Nat) (cb : Array Value) (K : Nat → List Int) (n g c : Nat) (es : List Nat) (w : World) (eg : ∀ args w, (callFunc F args).run Tryz.prog w = .ok (.enter F args) w)
    (hC : Cmps F cb K n g w) (hr : w.rowIs g 3 n (places es)) (hl : es.length = n) (hlt : ∀ e ∈ es, e < n) (hn : n < 1152921504606846976) :
    Calls Tryz.prog 106 #[.slice (some ⟨g, 0, none⟩) n c, .func (.func F) #[] cb] w fun e w' =>
      e = .returned (.tuple #[]) ∧ ∃ es' : List Nat, es'.Perm es ∧ es'.Pairwise (fun a b => En.cl (K a) (K b) ≤ 0) ∧ w'.rowIs g 3 n (places es') ∧ w.grownBy w' (some g) := by
  cases n with
  | zero =>
    have h0 := AnyF.slices_SortFunc_none (P := Tryz.prog) (ρ := Tryz.sortL_ren) { Tryz.sortL with } (some ⟨g, 0, none⟩) c (.func (.func F) #[] cb) w
    change Calls Tryz.prog 106 _ _ _ at h0
    refine h0.mono ?_
    rintro e w' ⟨rfl, rfl⟩
    have : es = [] := List.eq_nil_of_length_eq_zero hl
    subst this
    exact ⟨rfl, [], List.Perm.refl _, List.Pairwise.nil, hr, World.grownBy.refl _ _⟩
  | succ m =>
    let enc : Fin (m + 1) → Value := fun i => .int .i64 ((i.val : Nat) : Int)
    let cf : Fin (m + 1) → Fin (m + 1) → Int := fun a b => En.cl (K a.val) (K b.val)
    let d : Array (Fin (m + 1)) := (es.map (Fin.ofNat (m + 1))).toArray
    have hds : d.size = m + 1 := by simp [d, hl]
    have hdv : d.toList.map Fin.val = es := by
      simp only [d, List.map_map]
      conv => rhs; rw [← List.map_id es]
      apply List.map_congr_left
      intro a ha
      simp [Fin.ofNat, Nat.mod_eq_of_lt (hlt a ha)]
    have hO : Sort.SWO (ltOf cf) := {
      irrefl := fun x => by simp [ltOf, cf, En.cl_self]
      trans := fun x y z h1 h2 => by
        simp only [ltOf, cf, decide_eq_true_eq] at *
        exact En.cl_trans h1 h2
      ntrans := fun x y z h1 h2 => by
        simp only [ltOf, cf, decide_eq_false_iff_not, Int.not_lt] at *
        have e1 := En.cl_neg (K x.val) (K y.val)
        have e2 := En.cl_neg (K y.val) (K z.val)
        have e3 := En.cl_neg (K x.val) (K z.val)
        have := En.cl_trans_le (a := K z.val) (b := K y.val) (c := K x.val) (by omega) (by omega)
        omega }
    have hH : Sort.Holds enc w g 0 d := fun j hj => by
      rw [Nat.zero_add]
      refine ⟨?_, hr.frozen j⟩
      rw [hr.cell (show j < m + 1 by omega)]
      have hj' : j < es.length := by omega
      have hm := hlt es[j] (List.getElem_mem hj')
      simp [d, enc, places, hj', Fin.ofNat, Nat.mod_eq_of_lt hm]
    have hcmp : CmpLays1 Tryz.prog F cb enc cf g 0 d.size w := fun mm os dk hs x y => hC _ (growBy_sort enc w g 0 mm dk os) x.val y.val x.isLt y.isLt
    have hS := Any.slices_SortFunc Tryz.sortL enc (fun _ => rfl) cf hO F cb g 0 c d w eg hcmp hH hr.lt (by omega)
    change Calls Tryz.prog 106 _ _ _ at hS
    rw [hds] at hS
    refine hS.mono ?_
    rintro e w' ⟨rfl, d', q, os, hp, hs, rfl⟩
    have hd's : d'.size = m + 1 := hp.1.trans hds
    have hx : ∀ (a : Array (Fin (m + 1))) (k : Nat), a.size = k → (a.extract 0 k).toList = a.toList := fun a k ha => by
      rw [← ha, Array.extract_size]
    have hperm : d'.toList.Perm d.toList := by
      have := hp.2.2
      rw [hx d' _ hd's, hx d _ hds] at this
      exact this
    refine ⟨rfl, d'.toList.map Fin.val, ?_, ?_, ?_, growBy_sort enc w g 0 q d' os⟩
    · rw [← hdv]; exact hperm.map _
    · refine List.pairwise_map.2 (List.pairwise_iff_getElem.2 fun i j hi hj hij => ?_)
      have h1 := hs i j (Nat.zero_le _) hij (by simpa [hd's] using hj)
      simp only [Array.length_toList] at hi hj
      simp only [ltOf, cf, decide_eq_false_iff_not, Int.not_lt] at h1
      have e1 := En.cl_neg (K d'[i].val) (K d'[j].val)
      simp only [hi, hj, getElem!_pos] at h1
      simp only [Array.getElem_toList]
      omega
    · obtain ⟨cs, hb, hsz, hc⟩ := hr
      refine ⟨Sort.putCells enc 0 d' cs, ?_, ?_, ?_⟩
      · unfold sortWorld
        rw [Sort.heap_grow_old _ _ (by rw [Sort.size_putRow]; exact (Array.getElem?_eq_some_iff.1 hb).1)]
        simp only [Sort.putRow, Sort.mapBlock, Sort.heap_ahead, Array.getElem?_modify, if_true, hb, Option.map_some]
        rfl
      · simp [Sort.putCells, hsz]
      · intro i hi
        have hi' : i < d'.size := by omega
        simp [Sort.putCells, hi', enc, hsz, hi]

end Go.Proofs.YtoejenejleocdabGreatDoor

/- sort.sortBy: the row put in order, and the rank of each place. -/
namespace Go.Proofs.YtoejenejleocdabGreatDoor
open Go.RowKit

theorem infoInt' : (Tryz.prog.info? 3).map (fun i => (i.zero, i.size, i.bytes)) = some (some (.int .i64 0), 1, 8) := by kernel_rfl

/-- a row that has all places below n -/
theorem perm_lt {es : List Nat} {n : Nat} (h : es.Perm (List.range n)) {i : Nat} (hi : i < n) : es.getD i 0 < n := by
  have hl : es.length = n := by have := h.length_eq; simpa using this
  rw [List.getD_eq_getElem?_getD, List.getElem?_eq_getElem (by omega)]
  simpa using h.subset (List.getElem_mem (by omega))
theorem perm_inj {es : List Nat} {n : Nat} (h : es.Perm (List.range n)) {i j : Nat} (hi : i < n) (hj : j < n) (e : es.getD i 0 = es.getD j 0) : i = j := by
  have hl : es.length = n := by have := h.length_eq; simpa using this
  have hn : es.Nodup := h.symm.nodup List.nodup_range
  simp only [List.getD_eq_getElem?_getD, List.getElem?_eq_getElem (show i < es.length by omega), List.getElem?_eq_getElem (show j < es.length by omega), Option.getD_some] at e
  rcases Nat.lt_trichotomy i j with h1 | h1 | h1
  · exact absurd e (List.pairwise_iff_getElem.1 hn i j (by omega) (by omega) h1)
  · exact h1
  · exact absurd e.symm (List.pairwise_iff_getElem.1 hn j i (by omega) (by omega) h1)
theorem perm_onto {es : List Nat} {n : Nat} (h : es.Perm (List.range n)) {a : Nat} (ha : a < n) : ∃ i, i < n ∧ es.getD i 0 = a := by
  have hl : es.length = n := by have := h.length_eq; simpa using this
  obtain ⟨i, hi, he⟩ := List.getElem_of_mem (h.symm.subset (by simpa using ha) : a ∈ es)
  refine ⟨i, by omega, ?_⟩
  rw [List.getD_eq_getElem?_getD, List.getElem?_eq_getElem hi]; exact he

/-- ranks so far: the first k places of the row have theirs -/
def RankUp (K : Nat → List Int) (E : Nat → Nat) (n k : Nat) (r : Nat → Nat) : Prop := ∀ i, i < k → i < n → r (E i) = En.rk K E i

set_option maxHeartbeats 2000000 in
theorem sortBy_any (F : Nat) (cb : Array Value) (K : Nat → List Int) (n g c : Nat) (es : List Nat) (w : World) (eg : ∀ args w, (callFunc F args).run Tryz.prog w = .ok (.enter F args) w)
    (hC : Cmps F cb K n g w) (hr : w.rowIs g 3 n (places es)) (hp : es.Perm (List.range n)) (hn : n ≤ 17592186044416) :
    Calls Tryz.prog 68 #[.slice (some ⟨g, 0, none⟩) n c, .func (.func F) #[] cb] w fun e w' =>
      ∃ (g' : Nat) (es' : List Nat) (r : Nat → Nat), e = .returned (.slice (some ⟨g', 0, none⟩) n n) ∧ w.heap.size ≤ g' ∧ es'.Perm (List.range n) ∧ es'.Pairwise (fun a b => En.cl (K a) (K b) ≤ 0) ∧ En.Ranks K n r ∧
        w'.rowIs g 3 n (places es') ∧ w'.rowIs g' 3 n (fun i => .int .i64 (r i : Nat)) ∧ w.grownBy w' (some g) := by
  have hmk := run_make_row' (P := Tryz.prog) 22 3 (.int .i64 0) 8 Tryz.underlying22 infoInt' rfl .i64 .i64 n (by omega) (by omega)
  have HS := Lib.hid (sortFunc_any F cb K n g c es w eg hC hr (by have := hp.length_eq; simpa using this) (fun e he => by simpa using hp.subset he) (by omega))
  go_enter Tryz.func68, Tryz.ntmps68
  go_wp2_with fail
  refine HS.out.mono ?_
  rintro e w1 ⟨rfl, es', hp1, hs1, hr1, hg1⟩
  have hp' := hp1.trans hp
  clear HS hr hp1
  have hlt : ∀ i, i < n → es'.getD i 0 < n := fun i hi => perm_lt hp' hi
  have hinj : ∀ i j, i < n → j < n → es'.getD i 0 = es'.getD j 0 → i = j := fun i j hi hj e => perm_inj hp' hi hj e
  have hsrt : ∀ i j, i < j → j < n → En.cl (K (es'.getD i 0)) (K (es'.getD j 0)) ≤ 0 := fun i j hij hj => by
    have hl : es'.length = n := by have := hp'.length_eq; simpa using this
    simp only [List.getD_eq_getElem?_getD, List.getElem?_eq_getElem (show i < es'.length by omega), List.getElem?_eq_getElem (show j < es'.length by omega), Option.getD_some]
    exact List.pairwise_iff_getElem.1 hs1 i j (by omega) (by omega) hij
  have hr1' : w1.rowIs g 3 n (fun i => .int .i64 ((es'.getD i 0 : Nat) : Int)) := hr1
  obtain ⟨E, hE⟩ : ∃ E : Nat → Nat, E = fun i => es'.getD i 0 := ⟨_, rfl⟩
  have HF := Lib.hid (show ∀ (w' : World) (r : Nat → Nat), RankUp K E n n r → w'.rowIs g 3 n (fun i => .int .i64 ((E i : Nat) : Int)) → w'.rowIs w1.heap.size 3 n (fun i => .int .i64 (r i : Nat)) → w1.grownBy w' none →
      ∃ (g' : Nat) (es' : List Nat) (r : Nat → Nat), Ending.returned (.slice (some ⟨w1.heap.size, 0, none⟩) n n) = .returned (.slice (some ⟨g', 0, none⟩) n n) ∧ w.heap.size ≤ g' ∧ es'.Perm (List.range n) ∧ es'.Pairwise (fun a b => En.cl (K a) (K b) ≤ 0) ∧ En.Ranks K n r ∧
        w'.rowIs g 3 n (places es') ∧ w'.rowIs g' 3 n (fun i => .int .i64 (r i : Nat)) ∧ w.grownBy w' (some g) from fun w' r hR h1 h2 h3 => by
    refine ⟨w1.heap.size, es', r, rfl, hg1.size, hp', hs1, ?_, by rw [hE] at h1; exact h1, h2, growBy_trans hg1 ⟨h3.os, h3.tape, h3.output, h3.size, fun k hk _ => h3.block k hk (by simp)⟩⟩
    intro a b ha hb
    obtain ⟨i, hi, rfl⟩ := perm_onto hp' ha
    obtain ⟨j, hj, rfl⟩ := perm_onto hp' hb
    have e1 : r (es'.getD i 0) = En.rk K E i := by have := hR i hi hi; rw [hE] at this ⊢; exact this
    have e2 : r (es'.getD j 0) = En.rk K E j := by have := hR j hj hj; rw [hE] at this ⊢; exact this
    rw [e1, e2]
    have := En.rk_ci K E n (by rw [hE]; exact hsrt) i j hi hj
    rw [hE] at this ⊢
    exact this)
  have hEt : ∀ i, es'.getD i 0 = E i := fun i => by rw [hE]
  simp only [hEt] at hlt hinj hr1' hsrt
  have Hlt := Lib.hid hlt
  have Hinj := Lib.hid hinj
  have HC : Hid (∀ W, w1.grownBy W none → ∀ x y : Nat, x < n → y < n → Calls Tryz.prog F (#[.int .i64 x, .int .i64 y] ++ cb) W fun e w' => e = .returned (.int .i64 (En.cl (K x) (K y))) ∧ ∃ q os, w' = Sort.grow (W.drewN q) os) :=
    Lib.hid fun W hW => hC W (growBy_trans hg1 ⟨hW.os, hW.tape, hW.output, hW.size, fun k hk _ => hW.block k hk (by simp)⟩)
  have hglt := hr1'.lt
  clear hlt hinj hsrt hr1 hp hp' hs1 hC hE hEt hg1
  have hrow := World.rowIs_made w1 (.int .i64 0) n 3
  have hb0 : w1.grownBy (w1.alloc (.cells (madeCells #[.int .i64 0] n) 3)) none := World.grownBy_alloc _ _ _
  have hrg := hr1'.alloc (.cells (madeCells #[.int .i64 0] n) 3)
  go_wp2
  go_loopw [6] (fun s wr => ∃ (k : Nat) (r : Nat → Nat), 1 ≤ k ∧ k ≤ n + 1 ∧ s = .int .i64 k ∧ Hid (RankUp K E n k r) ∧ wr.rowIs g 3 n (fun i => .int .i64 ((E i : Nat) : Int)) ∧ wr.rowIs w1.heap.size 3 n (fun i => .int .i64 (r i : Nat)) ∧ w1.grownBy wr none)
    (fun s _ => n + 1 - (intOf s).toNat)
  case atStart =>
    refine ⟨1, fun _ => 0, Nat.le_refl _, by omega, rfl, (?_ : RankUp K E n 1 fun _ => 0), hrg, hrow, hb0⟩
    intro i h1 _
    have : i = 0 := by omega
    subst this; rfl
  case round =>
    obtain ⟨k, r, hk1, hk2, rfl, I, hrE, hrR, hgb⟩ := hrel
    clear hmk hrow hb0 hrg hr1'
    by_cases hlt : k < n
    · obtain ⟨t, rfl⟩ : ∃ t, k = t + 1 := ⟨k - 1, by omega⟩
      have hl0 := Hlt.out t (by omega)
      have hl1 := Hlt.out (t + 1) hlt
      have c0 := hrE.cell (show t < n by omega)
      have c1 := hrE.cell hlt
      have d0 := hrR.cell hl0
      have d1 := hrR.cell hl1
      have fz := hrR.frozen (E (t + 1))
      have hrt := I.out t (by omega) (by omega)
      have hrk := En.rk_le K E t
      have hne : g ≠ w1.heap.size := by omega
      have HW6 := Lib.hid (show ∀ v : Int, (wr.setCell ⟨w1.heap.size, E (t + 1), none⟩ (.int .i64 v)).rowIs g 3 n (fun i => .int .i64 ((E i : Nat) : Int)) ∧ w1.grownBy (wr.setCell ⟨w1.heap.size, E (t + 1), none⟩ (.int .i64 v)) none from
        fun v => ⟨hrE.setOther hne _, ⟨hgb.os, hgb.tape, hgb.output, by simpa using hgb.size, fun i hi hn => by
          rw [Deep.blk_setCell_other _ _ _ _ (by simp; omega)]; exact hgb.block i hi hn⟩⟩)
      have HR6 := Lib.hid (hrR.set (E (t + 1)) (.int .i64 (r (E t) : Nat)))
      have HCx := Lib.hid (fun W hW => HC.out W hW (E t) (E (t + 1)) hl0 hl1)
      have Hst : Hid (En.rk K E (t + 1) = En.rk K E t + if En.cl (K (E t)) (K (E (t + 1))) = 0 then 0 else 1) := Lib.hid rfl
      generalize En.cl (K (E t)) (K (E (t + 1))) = v at HCx Hst
      have HI := Lib.hid hrt
      have Hinj' := Lib.hid (fun i hi => Hinj.out i (t + 1) hi hlt)
      have hrt2 : r (E t) ≤ t := by omega
      clear hrt hrk HC Hinj Hlt
      generalize hp0 : E t = p0 at *
      generalize hp1 : E (t + 1) = p1 at *
      generalize hv0 : r p0 = v0 at *
      go_wp2
      go_region
      all_goals
        obtain ⟨W6, hW6⟩ : ∃ W6, W6 = (wr.setCell ⟨w1.heap.size, p1, none⟩ (.int .i64 v0)).drew := ⟨_, rfl⟩
        have r6 : W6.rowIs g 3 n (fun i => .int .i64 ((E i : Nat) : Int)) := by rw [hW6]; exact (HW6.out v0).1.drew
        have q6 : W6.rowIs w1.heap.size 3 n (fun j => if j = p1 then Value.int .i64 v0 else Value.int .i64 (r j : Nat)) := by rw [hW6]; exact HR6.out.drew
        have g6 : w1.grownBy W6 none := by rw [hW6]; exact ⟨(HW6.out v0).2.os, (HW6.out v0).2.tape, (HW6.out v0).2.output, (HW6.out v0).2.size, (HW6.out v0).2.block⟩
        have q6' := q6.congr (g := fun j => Value.int .i64 ((if j = p1 then v0 else r j : Nat) : Int)) (fun i _ => by by_cases h : i = p1 <;> simp [h])
        rw [← hW6]
        clear hW6 HW6 HR6 hrE hrR hgb c0 c1 d0 d1 fz q6
        have c0 := r6.cell (show t < n by omega)
        have c1 := r6.cell hlt
        rw [hp0] at c0
        rw [hp1] at c1
        have hz0 : (t : Int) < (n : Int) := by omega
        have hz1 : (t : Int) + 1 < (n : Int) := by omega
        have hz2 : (0 : Int) ≤ (t : Int) := by omega
        have hz3 : IntKind.i64.wrap (((t + 1 : Nat) : Int) - 1) = (t : Int) := by simp [IntKind.wrap, IntKind.bits, IntKind.signed]; omega
        have hz4 : (((t + 1 : Nat) : Int)) < (n : Int) := by omega
        have hz5 : (0 : Int) ≤ (t : Int) + 1 := by omega
        have hz6 : IntKind.i64.wrap (t : Int) = (t : Int) := by simp [IntKind.wrap, IntKind.bits, IntKind.signed]; omega
        have hz7 : t < n := by omega
        by_cases hv : v = 0
        · subst hv
          have I2 : Hid (RankUp K E n (t + 2) (fun j => if j = p1 then v0 else r j)) := Lib.hid (fun i hi hin => by
            show (if E i = p1 then v0 else r (E i)) = _
            by_cases e : E i = p1
            · rw [if_pos e]
              have := Hinj'.out i hin e
              subst this
              rw [Hst.out, if_pos rfl, HI.out]; rfl
            · rw [if_neg e]
              have : i ≠ t + 1 := fun h => e (by rw [h]; exact hp1)
              exact I.out i (by omega) hin)
          have HK := Lib.hid (show ∀ q os, (Sort.grow (W6.drewN q) os).cell? ⟨g, t, none⟩ = some (.int .i64 p0) ∧ (Sort.grow (W6.drewN q) os).cell? ⟨g, t + 1, none⟩ = some (.int .i64 p1) from fun q os =>
            ⟨(Sort.cell?_grow (W6.drewN q) os _ r6.lt).trans c0, (Sort.cell?_grow (W6.drewN q) os _ r6.lt).trans c1⟩)
          go_wp2
          go_region_held3 (fun w' => w'.cell? ⟨g, t, none⟩ = some (.int .i64 p0) ∧ w'.cell? ⟨g, t + 1, none⟩ = some (.int .i64 p1)) (first | exact ⟨c0, c1⟩ | exact HK.out _ _ | go_keep)
            (first
              | ((with_reducible refine (HCx.out _ ?_).mono ?_); (exact ⟨g6.os, g6.tape, g6.output, g6.size, g6.block⟩); rintro e w7 ⟨rfl, q, os, rfl⟩))
          all_goals
            obtain ⟨W7, hW7⟩ : ∃ W7, W7 = Sort.grow (W6.drewN (1 + q)) os := ⟨_, rfl⟩
            have r7 : W7.rowIs g 3 n (fun i => .int .i64 ((E i : Nat) : Int)) := by rw [hW7]; exact rowIs_grow r6 _ _
            have q7 : W7.rowIs w1.heap.size 3 n (fun j => Value.int .i64 ((if j = p1 then v0 else r j : Nat) : Int)) := by rw [hW7]; exact rowIs_grow q6' _ _
            have g7 : w1.grownBy W7 none := by rw [hW7]; exact growBy_trans g6 (growBy_grow _ _ _ _)
            rw [← hW7]
            clear hW7 r6 q6' g6 c0 c1 HK HCx
            go_wp2
            go_roundw
            case rel => exact ⟨t + 2, _, by omega, by omega, by go_num, I2, r7, q7, g7⟩
            case measure => simp [intOf]; omega
        · have hvv : (v != 0) = true := by simp [hv]
          have I2 : Hid (RankUp K E n (t + 2) (fun j => if j = p1 then v0 + 1 else (if j = p1 then v0 else r j))) := Lib.hid (fun i hi hin => by
            show (if E i = p1 then v0 + 1 else (if E i = p1 then v0 else r (E i))) = _
            by_cases e : E i = p1
            · rw [if_pos e]
              have := Hinj'.out i hin e
              subst this
              rw [Hst.out, if_neg hv, HI.out]
            · rw [if_neg e, if_neg e]
              have : i ≠ t + 1 := fun h => e (by rw [h]; exact hp1)
              exact I.out i (by omega) hin)
          clear hv
          have HK := Lib.hid (show ∀ q os, (Sort.grow (W6.drewN q) os).cell? ⟨g, t, none⟩ = some (.int .i64 p0) ∧ (Sort.grow (W6.drewN q) os).cell? ⟨g, t + 1, none⟩ = some (.int .i64 p1) from fun q os =>
            ⟨(Sort.cell?_grow (W6.drewN q) os _ r6.lt).trans c0, (Sort.cell?_grow (W6.drewN q) os _ r6.lt).trans c1⟩)
          go_wp2
          go_region_held3 (fun w' => w'.cell? ⟨g, t, none⟩ = some (.int .i64 p0) ∧ w'.cell? ⟨g, t + 1, none⟩ = some (.int .i64 p1)) (first | exact ⟨c0, c1⟩ | exact HK.out _ _ | go_keep)
            (first
              | ((with_reducible refine (HCx.out _ ?_).mono ?_); (exact ⟨g6.os, g6.tape, g6.output, g6.size, g6.block⟩); rintro e w7 ⟨rfl, q, os, rfl⟩))
          all_goals
            obtain ⟨W7, hW7⟩ : ∃ W7, W7 = Sort.grow (W6.drewN (1 + q)) os := ⟨_, rfl⟩
            have r7 : W7.rowIs g 3 n (fun i => .int .i64 ((E i : Nat) : Int)) := by rw [hW7]; exact rowIs_grow r6 _ _
            have q7 : W7.rowIs w1.heap.size 3 n (fun j => Value.int .i64 ((if j = p1 then v0 else r j : Nat) : Int)) := by rw [hW7]; exact rowIs_grow q6' _ _
            have g7 : w1.grownBy W7 none := by rw [hW7]; exact growBy_trans g6 (growBy_grow _ _ _ _)
            rw [← hW7]
            clear hW7 r6 q6' g6 c0 c1 HK HCx
            have c1 := r7.cell hlt
            rw [hp1] at c1
            have d1 : W7.cell? ⟨w1.heap.size, p1, none⟩ = some (.int .i64 v0) := by have := q7.cell hl1; simpa using this
            have fz := q7.frozen p1
            have hz8 : (p1 : Int) < (n : Int) := by omega
            have q8 := (q7.set p1 (.int .i64 ((v0 + 1 : Nat) : Int))).congr (g := fun j => Value.int .i64 ((if j = p1 then v0 + 1 else (if j = p1 then v0 else r j) : Nat) : Int)) (fun i _ => by by_cases h : i = p1 <;> simp [h])
            have r8 := r7.setOther (a := ⟨w1.heap.size, p1, none⟩) hne (.int .i64 ((v0 + 1 : Nat) : Int))
            have g8 : w1.grownBy (W7.setCell ⟨w1.heap.size, p1, none⟩ (.int .i64 ((v0 + 1 : Nat) : Int))) none := ⟨g7.os, g7.tape, g7.output, by simpa using g7.size, fun i hi hn => by
              rw [Deep.blk_setCell_other _ _ _ _ (by simp; omega)]; exact g7.block i hi hn⟩
            rw [show ((v0 + 1 : Nat) : Int) = (v0 : Int) + 1 from by omega] at q8 r8 g8
            clear q7 g7
            go_wp2
            go_roundw
            case rel => exact ⟨t + 2, _, by omega, by omega, by go_num, I2, r8, q8, g8⟩
            case measure => simp [intOf]; omega
    · go_wp2
      go_ret
      exact HF.out _ r (fun i hi hin => I.out i (by omega) hin) hrE hrR hgb

end Go.Proofs.YtoejenejleocdabGreatDoor

/- sort.Ends: the ends of a list, by order. -/
namespace Go.Proofs.YtoejenejleocdabGreatDoor
open Go.RowKit

/-- what a pointer to a number leads to -/
def atPtr (w : World) : Value → Nat
  | .pointer (some a) => match w.cell? a with
    | some (.int _ i) => i.toNat
    | _ => 0
  | _ => 0
theorem atPtr_row {w : World} {b : Nat} {t : TypeId} {k : Nat} (h : w.rowIs b t 1 (fun _ => .int .i64 k)) : atPtr w (.pointer (some ⟨b, 0, none⟩)) = k := by
  have h0 := h.cell (i := 0) (by omega)
  simp [atPtr, h0]

/-- the memory of sort.Ends, where the order of k numbers is known: the list's box, the row of places, the box of the ranks, the ranks, the box of k -/
structure EInv (w : World) (l : List Int) (A : Option Addr) (n c B5 : Nat) (k B6 g' : Nat) (es : List Nat) (r : Nat → Nat) (W : World) : Prop where
  old : Below w.heap.size w W
  b0 : W.rowIs w.heap.size 22 1 (fun _ => .slice A n c)
  e : W.rowIs (w.heap.size + 1) 3 n (places es)
  b5 : W.rowIs B5 22 1 (fun _ => .slice (some ⟨g', 0, none⟩) n n)
  b6 : W.rowIs B6 3 1 (fun _ => .int .i64 k)
  rr : W.rowIs g' 3 n (fun i => .int .i64 (r i : Nat))
  h5 : w.heap.size + 1 < B5
  h6 : w.heap.size + 1 < B6
  hg : w.heap.size + 1 < g'
  n56 : B5 ≠ B6
  n5g : B5 ≠ g'
  n6g : B6 ≠ g'
  perm : es.Perm (List.range n)
  srt : es.Pairwise (fun a b => En.cl (En.key l k a) (En.key l k b) ≤ 0)
  rnk : En.Ranks (En.key l k) n r

theorem below_growBy {w W W' : World} {g : Nat} (h : Below w.heap.size w W) (hg : W.grownBy W' (some g)) (hlt : w.heap.size ≤ g) : Below w.heap.size w W' :=
  h.grown hg h.size (fun k hk => by injection hk with hk; omega)

theorem row_below {w W : World} {A : Option Addr} {n : Nat} {f : Nat → Value} (h : Row w w.heap.size A n f) (hb : Below w.heap.size w W) : Row W W.heap.size A n f := (h.below hb).more hb.size

/-- the first order, as sortBy wants it -/
theorem cmps1 (l : List Int) (A : Option Addr) (n c : Nat) (w W : World) (hr : Row w w.heap.size A n (fun k => .int .i64 (l.getD k 0))) (hl : n = l.length) (hn : n ≤ 17592186044416) (old : Below w.heap.size w W)
    (b0 : W.rowIs w.heap.size 22 1 (fun _ => .slice A n c)) : Cmps 69 #[.pointer (some ⟨w.heap.size, 0, none⟩)] (En.key l 1) n (w.heap.size + 1) W := by
  intro W' hW' x y hx hy
  have hb := below_growBy old hW' (by omega)
  have hc := (rowIs_growBy b0 hW' (by omega)).cell (i := 0) (by omega)
  rw [En.cl_one l x y (by omega) (by omega)]
  exact (order1_any w.heap.size A n c x y (fun k => l.getD k 0) W' hc (row_below hr hb) hx hy (by omega)).mono fun _ _ ⟨h1, q, h2⟩ => ⟨h1, q, #[], by rw [h2, Sort.grow_empty]⟩

/-- the second -/
theorem cmps2 {w : World} {l : List Int} {A : Option Addr} {n c B5 k B6 g' : Nat} {es : List Nat} {r : Nat → Nat} {W : World} (h : EInv w l A n c B5 k B6 g' es r W) (hl : n = l.length) (hn : n ≤ 17592186044416) (hk : 0 < k) (hk2 : k ≤ 17592186044416) :
    Cmps 71 #[.pointer (some ⟨B5, 0, none⟩), .pointer (some ⟨B6, 0, none⟩)] (En.key l (k + k)) n (w.heap.size + 1) W := by
  intro W' hW' x y hx hy
  have h5 := (rowIs_growBy h.b5 hW' (by have := h.h5; omega)).cell (i := 0) (by omega)
  have h6 := (rowIs_growBy h.b6 hW' (by have := h.h6; omega)).cell (i := 0) (by omega)
  have hg := rowIs_growBy h.rr hW' (by have := h.hg; omega)
  have e := En.ranks_double l k r hk (by rw [← hl]; exact h.rnk) x y (by omega) (by omega)
  rw [← hl] at e
  rw [← e]
  exact order2_any B5 B6 g' n x y k r W' h5 h6 hg.lt (fun i hi => hg.cell hi) hx hy (by omega) (by omega)

/-- a row whose cells hold their own places -/
theorem places_range (n i : Nat) (h : i < n) : places (List.range n) i = .int .i64 (i : Int) := by
  simp [places, h]

theorem rowIs_alloc1 (w : World) (v : Value) (t : TypeId) : (w.alloc (.cells #[v] t)).rowIs w.heap.size t 1 (fun _ => v) :=
  World.rowIs_alloc w #[v] t (fun _ => v) (fun i hi => by
    match i, hi with
    | 0, _ => rfl)
theorem rowIs_set1 {w : World} {b : Nat} {t : TypeId} {v : Value} (h : w.rowIs b t 1 (fun _ => v)) (u : Value) : (w.setCell ⟨b, 0, none⟩ u).rowIs b t 1 (fun _ => u) :=
  (h.set 0 u).congr (fun i hi => by rw [if_pos (by omega)])
theorem size_setCell' (w : World) (a : Addr) (v : Value) : (w.setCell a v).heap.size = w.heap.size := by simp

/-- the two boxes made -/
def boxE2 (w1 : World) (v : Value) : World := (w1.alloc (.cells #[v] 22)).alloc (.cells #[.int .i64 1] 3)
theorem EInv.start {w : World} {l : List Int} {A : Option Addr} {n c g' : Nat} {es : List Nat} {r : Nat → Nat} {w1 : World} (old : Below w.heap.size w w1) (b0 : w1.rowIs w.heap.size 22 1 (fun _ => .slice A n c))
    (e : w1.rowIs (w.heap.size + 1) 3 n (places es)) (rr : w1.rowIs g' 3 n (fun i => .int .i64 (r i : Nat))) (hg : w.heap.size + 1 < g') (perm : es.Perm (List.range n))
    (srt : es.Pairwise (fun a b => En.cl (En.key l 1 a) (En.key l 1 b) ≤ 0)) (rnk : En.Ranks (En.key l 1) n r) : EInv w l A n c w1.heap.size 1 (w1.heap.size + 1) g' es r (boxE2 w1 (.slice (some ⟨g', 0, none⟩) n n)) := by
  have h0 := e.lt
  have h1 := rr.lt
  have keep : ∀ {b : Nat} {t : TypeId} {m : Nat} {f : Nat → Value}, w1.rowIs b t m f → (boxE2 w1 (.slice (some ⟨g', 0, none⟩) n n)).rowIs b t m f := fun {b t m f} h => by
    exact (h.alloc _).alloc _
  refine ⟨?_, keep b0, keep e, ?_, ?_, keep rr, by omega, by omega, hg, by omega, by omega, by omega, perm, srt, rnk⟩
  · unfold boxE2
    exact (old.alloc old.size _).alloc (by simp; have := old.size; omega) _
  · unfold boxE2
    exact (rowIs_alloc1 w1 _ _).alloc _
  · unfold boxE2
    have := rowIs_alloc1 (w1.alloc (.cells #[.slice (some ⟨g', 0, none⟩) n n] 22)) (.int .i64 1) 3
    rw [World.size_alloc] at this
    exact this

/-- the boxes behind a round -/
def boxE3 (w2 : World) (B5 : Nat) (v : Value) (k : Int) : World := (w2.setCell ⟨B5, 0, none⟩ v).alloc (.cells #[.int .i64 (k * 2)] 3)
theorem EInv.step {w : World} {l : List Int} {A : Option Addr} {n c B5 k B6 g' : Nat} {es : List Nat} {r : Nat → Nat} {W : World} (h : EInv w l A n c B5 k B6 g' es r W) {w2 : World} (hgb : W.grownBy w2 (some (w.heap.size + 1)))
    {g2 : Nat} {es2 : List Nat} {r2 : Nat → Nat} (hg2 : W.heap.size ≤ g2) (perm : es2.Perm (List.range n)) (srt : es2.Pairwise (fun a b => En.cl (En.key l (k + k) a) (En.key l (k + k) b) ≤ 0)) (rnk : En.Ranks (En.key l (k + k)) n r2)
    (e : w2.rowIs (w.heap.size + 1) 3 n (places es2)) (rr : w2.rowIs g2 3 n (fun i => .int .i64 (r2 i : Nat))) : EInv w l A n c B5 (k + k) w2.heap.size g2 es2 r2 (boxE3 w2 B5 (.slice (some ⟨g2, 0, none⟩) n n) (k : Int)) := by
  have h5 := h.b5.lt
  have h05 := h.h5
  have hsz := hgb.size
  have hg2' := rr.lt
  have he := h.e.lt
  have keep : ∀ {b : Nat} {t : TypeId} {m : Nat} {f : Nat → Value}, b ≠ B5 → w2.rowIs b t m f → (boxE3 w2 B5 (.slice (some ⟨g2, 0, none⟩) n n) (k : Int)).rowIs b t m f := fun {b t m f} hne h => by
    exact (h.setOther (a := ⟨B5, 0, none⟩) hne _).alloc _
  have b5 := rowIs_growBy h.b5 hgb (by omega)
  have old := below_growBy h.old hgb (by omega)
  refine ⟨?_, keep (by omega) (rowIs_growBy h.b0 hgb (by omega)), keep (by omega) e, ?_, ?_, keep (by omega) rr, h05, by omega, by omega, by omega, by omega, by omega, perm, srt, rnk⟩
  · unfold boxE3
    have := old.size
    exact (old.setCell (by simp; omega) _).alloc (by simp; omega) _
  · unfold boxE3
    exact (rowIs_set1 b5 _).alloc _
  · unfold boxE3
    have := rowIs_alloc1 (w2.setCell ⟨B5, 0, none⟩ (.slice (some ⟨g2, 0, none⟩) n n)) (.int .i64 ((k : Int) * 2)) 3
    rw [size_setCell'] at this
    rw [show ((k + k : Nat) : Int) = (k : Int) * 2 from by omega]
    exact this

end Go.Proofs.YtoejenejleocdabGreatDoor

/- sort.Ends: the walk. -/
namespace Go.Proofs.YtoejenejleocdabGreatDoor
open Go.RowKit

set_option maxHeartbeats 2000000 in
theorem ends_any (A : Option Addr) (n c : Nat) (l : List Int) (w : World) (hr : Row w w.heap.size A n (fun k => .int .i64 (l.getD k 0))) (hl : n = l.length) (hn : n ≤ 17592186044416) :
    Calls Tryz.prog 44 #[.slice A n c] w fun e w' =>
      ∃ g, e = .returned (.slice (some ⟨g, 0, none⟩) n n) ∧ w.heap.size ≤ g ∧ w'.rowIs g 3 n (places (En.endsOf l)) ∧ Below w.heap.size w w' := by
  have hmk := run_make_row' (P := Tryz.prog) 22 3 (.int .i64 0) 8 Tryz.underlying22 infoInt' rfl .i64 .i64 n (by omega) (by omega)
  have Hr := Lib.hid hr
  have Hl := Lib.hid hl
  clear hr hl
  go_enter Tryz.func44, Tryz.ntmps44
  go_wp2
  go_loopw [12] (fun s wr => ∃ k : Nat, k ≤ n ∧ s = .int .i64 k ∧ wr.rowIs w.heap.size 22 1 (fun _ => .slice A n c) ∧ wr.rowIs (w.heap.size + 1) 3 n (fun j => .int .i64 (if j < k then j else 0 : Nat)) ∧ Below w.heap.size w wr)
    (fun s _ => n - (intOf s).toNat)
  case atStart =>
    refine ⟨0, Nat.zero_le _, rfl, ?_, ?_, ?_⟩
    · exact (World.rowIs_alloc w #[.slice A n c] 22 (fun _ => .slice A n c) (fun i hi => by
        match i, hi with
        | 0, _ => rfl)).alloc _
    · have h0 := World.rowIs_made (w.alloc (.cells #[.slice A n c] 22)) (.int .i64 0) n 3
      rw [World.size_alloc] at h0
      exact h0.congr (g := fun j => .int .i64 (if j < 0 then j else 0 : Nat)) (fun i _ => by simp)
    · exact ((Below.refl _ _).alloc (Nat.le_refl _) _).alloc (by simp) _
  case round =>
    obtain ⟨k, hk, rfl, hb0, hre, hb⟩ := hrel
    clear hmk
    by_cases hlt : k < n
    · have hc2 := hre.cell hlt
      have hf := hre.frozen k
      have hr1 := (hre.set k (.int .i64 k)).congr (g := fun j => .int .i64 (if j < k + 1 then j else 0 : Nat)) (fun i _ => by
        by_cases h1 : i = k
        · subst h1; simp
        · rw [if_neg h1]; by_cases h2 : i < k
          · rw [if_pos h2, if_pos (by omega)]
          · rw [if_neg h2, if_neg (by omega)])
      have hb1 := hb.setCell (p := ⟨w.heap.size + 1, k, none⟩) (by simp) (.int .i64 k)
      have hb2 := hb0.setOther (a := ⟨w.heap.size + 1, k, none⟩) (by simp) (.int .i64 k)
      go_wp2
      go_roundw
      case rel => exact ⟨k + 1, by omega, by go_num, hb2, hr1, hb1⟩
      case measure => simp [intOf]; omega
    · have hkn : k = n := by omega
      subst hkn
      have hre' := hre.congr (g := places (List.range k)) (fun i hi => by rw [places_range _ _ hi, if_pos hi])
      have eg : ∀ args w, (callFunc 69 args).run Tryz.prog w = .ok (.enter 69 args) w := enters_of Tryz.func69 (by kernel_rfl) rfl
      have HS := Lib.hid (sortBy_any 69 _ _ k (w.heap.size + 1) k (List.range k) wr eg (cmps1 l A k c w wr Hr.out Hl.out hn hb hb0) hre' (List.Perm.refl _) hn)
      have HB := Lib.hid hb
      have HB0 := Lib.hid hb0
      have hsz : w.heap.size + 1 < wr.heap.size := hre.lt
      clear hre hre' eg hb hb0
      go_wp2_with fail
      with_reducible refine HS.out.mono ?_
      rintro e w1 ⟨g', es, r, rfl, hg', hp, hs, hR, h1, h2, h3⟩
      clear HS
      have hb5 := rowIs_growBy HB0.out h3 (by omega)
      have hold := below_growBy HB.out h3 (by omega)
      have hg1 := h2.lt
      have hsz1 := h3.size
      have HE := Lib.hid (EInv.start hold hb5 h1 h2 (by omega) hp hs hR)
      clear hb5 hold h1 h2 h3 hp hs hR HB HB0
      have HD : Hid (∀ (W : World) (k' B6 g' : Nat) (es : List Nat) (r : Nat → Nat), EInv w l A k c w1.heap.size k' B6 g' es r W → k ≤ k' → ∃ g, Ending.returned (.slice (some ⟨w.heap.size + 1, 0, none⟩) k k) = .returned (.slice (some ⟨g, 0, none⟩) k k) ∧ w.heap.size ≤ g ∧ W.rowIs g 3 k (places (En.endsOf l)) ∧ Below w.heap.size w W) := Lib.hid fun W k' B6 g' es r h hk' => by
        have hen : es = En.endsOf l := En.endsOf_eq (En.IsEnds.of_le (by rw [← Hl.out]; exact h.perm) (h.srt.imp fun h => by
          rw [En.key_all l k' _ (by rw [← Hl.out]; exact hk'), En.key_all l k' _ (by rw [← Hl.out]; exact hk')] at h; exact h))
        refine ⟨w.heap.size + 1, rfl, by omega, ?_, h.old⟩
        rw [← hen]; exact h.e
      clear hg' hg1 hsz1 hsz hk
      go_wp2
      go_loopw [6] (fun s W => ∃ (k' B6 g' : Nat) (es : List Nat) (r : Nat → Nat), s = .pointer (some ⟨B6, 0, none⟩) ∧ 1 ≤ k' ∧ k' ≤ k + k + 1 ∧ Hid (EInv w l A k c w1.heap.size k' B6 g' es r W))
        (fun s W => k + k - atPtr W s)
      case atStart => exact ⟨1, w1.heap.size + 1, g', es, r, rfl, Nat.le_refl _, by omega, HE⟩
      case round =>
        obtain ⟨k', B6, g2, es2, r2, rfl, hk1, hk2, I⟩ := hrel
        clear HE
        have c0 := I.out.b0.cell (i := 0) (by omega)
        have c5 := I.out.b5.cell (i := 0) (by omega)
        have c6 := I.out.b6.cell (i := 0) (by omega)
        have hat := atPtr_row I.out.b6
        by_cases hlt2 : k' < k
        · have hz : (k' : Int) < (k : Int) := by omega
          have eg : ∀ args w, (callFunc 71 args).run Tryz.prog w = .ok (.enter 71 args) w := enters_of Tryz.func71 (by kernel_rfl) rfl
          have HS := Lib.hid (sortBy_any 71 _ _ k (w.heap.size + 1) k es2 _ eg (cmps2 I.out Hl.out hn (by omega) (by omega)) I.out.e I.out.perm hn)
          clear eg
          go_wp2_with fail
          with_reducible refine HS.out.mono ?_
          rintro e w2 ⟨g3, es3, r3, rfl, hg3, hp3, hs3, hR3, h31, h32, h33⟩
          clear HS
          have J := EInv.step I.out h33 hg3 hp3 hs3 hR3 h31 h32
          have n5 := I.out.h5
          have n6 := I.out.h6
          have x5 := rowIs_growBy I.out.b5 h33 (by omega)
          have x6 := rowIs_growBy I.out.b6 h33 (by omega)
          have c5' := x5.cell (i := 0) (by omega)
          have f5 := x5.frozen 0
          have c6' := x6.cell (i := 0) (by omega)
          have n56 := I.out.n56
          have c6'' : (w2.setCell ⟨w1.heap.size, 0, none⟩ (.slice (some ⟨g3, 0, none⟩) k k)).cell? ⟨B6, 0, none⟩ = some (.int .i64 k') := (x6.setOther (a := ⟨w1.heap.size, 0, none⟩) (fun e => n56 e.symm) _).cell (i := 0) (by omega)
          have HJ := Lib.hid J
          have hat2 := atPtr_row J.b6
          clear J x5 x6 h31 h32 h33 hp3 hs3 hR3 I
          go_wp2
          refine ⟨⟨k' + k', w2.heap.size, g3, es3, r3, rfl, by omega, by omega, HJ⟩, ?_⟩
          have hat3 : atPtr ((w2.setCell ⟨w1.heap.size, 0, none⟩ (.slice (some ⟨g3, 0, none⟩) k k)).alloc (.cells #[.int .i64 ((k' : Int) * 2)] 3)) (.pointer (some ⟨w2.heap.size, 0, none⟩)) = k' + k' := hat2
          rw [hat3, hat]
          omega
        · have HX := HD.out _ _ _ _ _ _ I.out (by omega)
          clear HD I hat
          have hz : (k : Int) ≤ (k' : Int) := by omega
          go_wp2
          go_ret
          exact HX

end Go.Proofs.YtoejenejleocdabGreatDoor

/- sort.Alike: what it answers, of whatever ends. -/
namespace Go.Proofs.YtoejenejleocdabGreatDoor
open Go.RowKit

/-- the ends as numbers -/
def endsI (l : List Int) : List Int := (En.endsOf l).map fun (i : Nat) => (i : Int)
theorem endsI_length (l : List Int) : (endsI l).length = l.length := by simp [endsI, En.endsOf_length]
theorem endsI_get (l : List Int) (i : Nat) : (endsI l).getD i 0 = ((En.eat l i : Nat) : Int) := by
  unfold endsI En.eat
  by_cases h : i < (En.endsOf l).length
  · simp [h]
  · simp [h]
theorem endsI_places (l : List Int) (i : Nat) : places (En.endsOf l) i = .int .i64 ((endsI l).getD i 0) := by rw [endsI_get]
end Go.Proofs.YtoejenejleocdabGreatDoor
