/- The ends of a list, by order: the order of lists, the ends sorted, what two have in common. No program is named here. -/
import Derived.WalkKit
namespace Go.Proofs.Ytnmhjhfdgfdooaa
namespace En

/-- the order of two lists: by the first number that is other; else the shorter is less -/
def cl : List Int → List Int → Int
  | [], [] => 0
  | [], _ :: _ => -1
  | _ :: _, [] => 1
  | x :: xs, y :: ys => if x < y then -1 else if y < x then 1 else cl xs ys

theorem cl_self (a : List Int) : cl a a = 0 := by
  induction a with
  | nil => rfl
  | cons x xs ih => simp [cl, ih]
theorem cl_eq : ∀ {a b : List Int}, cl a b = 0 → a = b
  | [], [], _ => rfl
  | [], _ :: _, h => by simp [cl] at h
  | _ :: _, [], h => by simp [cl] at h
  | x :: xs, y :: ys, h => by
    unfold cl at h
    split at h
    · simp at h
    · split at h
      · simp at h
      · rw [cl_eq h, show x = y from by omega]
theorem cl_neg : ∀ (a b : List Int), cl b a = - cl a b
  | [], [] => rfl
  | [], _ :: _ => rfl
  | _ :: _, [] => rfl
  | x :: xs, y :: ys => by
    have ih := cl_neg xs ys
    unfold cl
    by_cases h1 : x < y
    · rw [if_neg (by omega), if_pos h1, if_pos h1]; rfl
    · by_cases h2 : y < x
      · rw [if_pos h2, if_neg h1, if_pos h2]
      · rw [if_neg h2, if_neg h1, if_neg h1, if_neg h2, ih]
theorem cl_three : ∀ (a b : List Int), cl a b = -1 ∨ cl a b = 0 ∨ cl a b = 1
  | [], [] => .inr (.inl rfl)
  | [], _ :: _ => .inl rfl
  | _ :: _, [] => .inr (.inr rfl)
  | x :: xs, y :: ys => by
    have ih := cl_three xs ys
    unfold cl
    by_cases h1 : x < y
    · rw [if_pos h1]; exact .inl rfl
    · by_cases h2 : y < x
      · rw [if_neg h1, if_pos h2]; exact .inr (.inr rfl)
      · rw [if_neg h1, if_neg h2]; exact ih
theorem cl_trans_le : ∀ {a b c : List Int}, cl a b ≤ 0 → cl b c ≤ 0 → cl a c ≤ 0
  | [], b, [], _, _ => by simp [cl]
  | [], b, _ :: _, _, _ => by simp [cl]
  | x :: xs, [], c, h, _ => by simp [cl] at h
  | x :: xs, y :: ys, [], _, h => by simp [cl] at h
  | x :: xs, y :: ys, z :: zs, h1, h2 => by
    unfold cl at h1 h2 ⊢
    have ih := @cl_trans_le xs ys zs
    by_cases a1 : x < z
    · rw [if_pos a1]; omega
    · rw [if_neg a1]
      by_cases a2 : z < x
      · exfalso
        by_cases b1 : x < y
        · rw [if_neg (by omega), if_pos (by omega)] at h2; omega
        · by_cases b2 : y < x
          · rw [if_neg b1, if_pos b2] at h1; omega
          · rw [if_neg (by omega), if_pos (by omega)] at h2; omega
      · rw [if_neg a2]
        by_cases b1 : x < y
        · rw [if_neg (by omega), if_pos (by omega)] at h2; omega
        · by_cases b2 : y < x
          · rw [if_neg b1, if_pos b2] at h1; omega
          · rw [if_neg b1, if_neg b2] at h1
            rw [if_neg (by omega), if_neg (by omega)] at h2
            exact ih h1 h2
theorem cl_trans {a b c : List Int} (h1 : cl a b < 0) (h2 : cl b c < 0) : cl a c < 0 := by
  have h := cl_trans_le (a := a) (b := b) (c := c) (by omega) (by omega)
  rcases Int.lt_or_eq_of_le h with h | h
  · exact h
  · have := cl_eq h; subst this
    have := cl_neg a b; omega
theorem cl_lt_le {a b c : List Int} (h1 : cl a b < 0) (h2 : cl b c ≤ 0) : cl a c < 0 := by
  rcases Int.lt_or_eq_of_le h2 with h | h
  · exact cl_trans h1 h
  · rw [← cl_eq h]; exact h1
theorem cl_le_lt {a b c : List Int} (h1 : cl a b ≤ 0) (h2 : cl b c < 0) : cl a c < 0 := by
  rcases Int.lt_or_eq_of_le h1 with h | h
  · exact cl_trans h h2
  · rw [cl_eq h]; exact h2

/-- how many numbers two lists have in common, from the front -/
def lcp : List Int → List Int → Nat
  | x :: xs, y :: ys => if x = y then lcp xs ys + 1 else 0
  | _, _ => 0
theorem lcp_nil (b : List Int) : lcp [] b = 0 := by unfold lcp; rfl
theorem lcp_nil' (a : List Int) : lcp a [] = 0 := by cases a <;> rfl
theorem lcp_comm : ∀ (a b : List Int), lcp a b = lcp b a
  | [], b => by rw [lcp_nil, lcp_nil']
  | a :: as, [] => by rw [lcp_nil, lcp_nil']
  | x :: xs, y :: ys => by
    have ih := lcp_comm xs ys
    unfold lcp
    by_cases h : x = y
    · rw [if_pos h, if_pos h.symm, ih]
    · rw [if_neg h, if_neg (fun e => h e.symm)]
theorem lcp_le : ∀ (a b : List Int), lcp a b ≤ a.length ∧ lcp a b ≤ b.length
  | [], b => by rw [lcp_nil]; simp
  | a :: as, [] => by rw [lcp_nil']; simp
  | x :: xs, y :: ys => by
    have ih := lcp_le xs ys
    unfold lcp
    split <;> simp <;> omega
/-- what they have in common is alike -/
theorem lcp_get : ∀ (a b : List Int) (j : Nat), j < lcp a b → a.getD j 0 = b.getD j 0
  | [], b, j, h => by rw [lcp_nil] at h; omega
  | a :: as, [], j, h => by rw [lcp_nil'] at h; omega
  | x :: xs, y :: ys, j, h => by
    unfold lcp at h
    by_cases e : x = y
    · rw [if_pos e] at h
      cases j with
      | zero => simpa using e
      | succ j => have := lcp_get xs ys j (by omega); simpa using this
    · rw [if_neg e] at h; omega
/-- .. and behind it there is none, or another -/
theorem lcp_end : ∀ (a b : List Int), lcp a b < a.length → lcp a b < b.length → a.getD (lcp a b) 0 ≠ b.getD (lcp a b) 0
  | [], b, h, _ => by simp at h
  | a :: as, [], _, h => by simp at h
  | x :: xs, y :: ys, h1, h2 => by
    unfold lcp at h1 h2 ⊢
    by_cases e : x = y
    · rw [if_pos e] at h1 h2 ⊢
      have := lcp_end xs ys (by simpa using h1) (by simpa using h2)
      simpa using this
    · rw [if_neg e]; simpa using e
/-- the order is told by what stands behind it -/
theorem cl_of_lcp : ∀ (a b : List Int), cl a b =
    if lcp a b < a.length then (if lcp a b < b.length then (if a.getD (lcp a b) 0 < b.getD (lcp a b) 0 then -1 else 1) else 1) else (if lcp a b < b.length then -1 else 0)
  | [], [] => rfl
  | [], _ :: _ => rfl
  | _ :: _, [] => rfl
  | x :: xs, y :: ys => by
    have ih := cl_of_lcp xs ys
    unfold cl lcp
    by_cases e : x = y
    · subst e
      rw [if_neg (by omega), if_neg (by omega), if_pos rfl, ih]
      simp
    · rw [if_neg e]
      by_cases h : x < y
      · simp [h]
      · simp [h]; omega
/-- of three by order, the two that are next to each other have as much in common -/
theorem lcp_mono : ∀ {x y z : List Int}, cl x y ≤ 0 → cl y z ≤ 0 → lcp x z ≤ lcp y z
  | [], y, z, _, _ => by rw [lcp_nil]; omega
  | x :: xs, y, [], _, _ => by rw [lcp_nil']; omega
  | x :: xs, [], z :: zs, h, _ => by simp [cl] at h
  | x :: xs, y :: ys, z :: zs, h1, h2 => by
    have ih := @lcp_mono xs ys zs
    by_cases e : x = z
    · subst e
      have hxy : x = y := by
        unfold cl at h1 h2
        by_cases a : x < y
        · rw [if_neg (by omega), if_pos a] at h2; omega
        · by_cases b : y < x
          · rw [if_neg a, if_pos b] at h1; omega
          · omega
      subst hxy
      unfold cl at h1 h2
      rw [if_neg (by omega), if_neg (by omega)] at h1 h2
      unfold lcp
      rw [if_pos rfl, if_pos rfl]
      have := ih h1 h2
      omega
    · have : lcp (x :: xs) (z :: zs) = 0 := by unfold lcp; rw [if_neg e]
      omega

/-! ### keys: the first k numbers of an end -/
def key (l : List Int) (k a : Nat) : List Int := (l.drop a).take k

theorem cl_take_append {k' : Nat} : ∀ (k : Nat) (a b : List Int), cl (a.take (k + k')) (b.take (k + k')) = if cl (a.take k) (b.take k) = 0 then cl ((a.drop k).take k') ((b.drop k).take k') else cl (a.take k) (b.take k)
  | 0, a, b => by simp [cl]
  | k + 1, [], [] => by simp [cl]
  | k + 1, [], y :: ys => by rw [show k + 1 + k' = (k + k') + 1 from by omega]; simp [cl]
  | k + 1, x :: xs, [] => by rw [show k + 1 + k' = (k + k') + 1 from by omega]; simp [cl]
  | k + 1, x :: xs, y :: ys => by
    have ih := cl_take_append (k' := k') k xs ys
    rw [show k + 1 + k' = (k + k') + 1 from by omega]
    simp only [List.take_succ_cons, List.drop_succ_cons, cl]
    by_cases h1 : x < y
    · simp [h1]
    · by_cases h2 : y < x
      · simp [h1, h2]
      · simp only [h1, h2, if_false]; exact ih

/-- twice as many numbers: by the first half, else by the second -/
theorem key_double (l : List Int) (k a b : Nat) : cl (key l (k + k) a) (key l (k + k) b) = if cl (key l k a) (key l k b) = 0 then cl (key l k (a + k)) (key l k (b + k)) else cl (key l k a) (key l k b) := by
  have h := cl_take_append (k' := k) k (l.drop a) (l.drop b)
  unfold key
  rw [h, List.drop_drop, List.drop_drop]
theorem key_behind (l : List Int) (k a : Nat) (h : l.length ≤ a) : key l k a = [] := by
  unfold key; rw [List.drop_eq_nil_of_le h]; simp
theorem key_all (l : List Int) (k a : Nat) (h : l.length ≤ k) : key l k a = l.drop a := by
  unfold key; exact List.take_of_length_le (by rw [List.length_drop]; omega)
theorem key_cons (l : List Int) (k a : Nat) (h : a < l.length) (hk : 0 < k) : ∃ t, key l k a = l.getD a 0 :: t := by
  obtain ⟨k', rfl⟩ : ∃ k', k = k' + 1 := ⟨k - 1, by omega⟩
  refine ⟨(l.drop (a + 1)).take k', ?_⟩
  unfold key
  rw [List.drop_eq_getElem_cons h, List.take_succ_cons]
  simp [h]
theorem key_one (l : List Int) (a : Nat) (h : a < l.length) : key l 1 a = [l.getD a 0] := by
  unfold key
  rw [List.drop_eq_getElem_cons h, show (1 : Nat) = 0 + 1 from rfl, List.take_succ_cons, List.take_zero]
  simp [h]

/-- the order of two numbers -/
def ci (x y : Int) : Int := if x < y then -1 else if y < x then 1 else 0
theorem cl_one (l : List Int) (a b : Nat) (ha : a < l.length) (hb : b < l.length) : cl (key l 1 a) (key l 1 b) = ci (l.getD a 0) (l.getD b 0) := by
  rw [key_one l a ha, key_one l b hb]
  simp only [cl, ci]

/-- ranks that tell the order of the first k numbers -/
def Ranks (K : Nat → List Int) (n : Nat) (r : Nat → Nat) : Prop := ∀ a b, a < n → b < n → ci (r a) (r b) = cl (K a) (K b)
/-- the rank at a place; behind the list below all others -/
def rat (n : Nat) (r : Nat → Nat) (p : Nat) : Int := if n ≤ p then -1 else (r p : Int)
/-- ranks of k numbers tell the order of twice as many -/
theorem ranks_double (l : List Int) (k : Nat) (r : Nat → Nat) (hk : 0 < k) (h : Ranks (key l k) l.length r) (a b : Nat) (ha : a < l.length) (hb : b < l.length) :
    (if ci (r a) (r b) = 0 then ci (rat l.length r (a + k)) (rat l.length r (b + k)) else ci (r a) (r b)) = cl (key l (k + k) a) (key l (k + k) b) := by
  rw [key_double, h a b ha hb]
  split
  · unfold rat
    by_cases h1 : l.length ≤ a + k
    · rw [if_pos h1, key_behind l k _ h1]
      by_cases h2 : l.length ≤ b + k
      · rw [if_pos h2, key_behind l k _ h2]; rfl
      · rw [if_neg h2]
        obtain ⟨t, ht⟩ := key_cons l k (b + k) (by omega) hk
        rw [ht]
        simp only [cl, ci]
        rw [if_pos (by omega)]
    · rw [if_neg h1]
      by_cases h2 : l.length ≤ b + k
      · rw [if_pos h2, key_behind l k _ h2]
        obtain ⟨t, ht⟩ := key_cons l k (a + k) (by omega) hk
        rw [ht]
        simp only [cl, ci]
        rw [if_neg (by omega), if_pos (by omega)]
      · rw [if_neg h2]; exact h _ _ (by omega) (by omega)
  · rfl

/-! ### ranks of a sorted row -/
/-- how often the key is another, up to place i of a row -/
def rk (K : Nat → List Int) (es : Nat → Nat) : Nat → Nat
  | 0 => 0
  | i + 1 => rk K es i + if cl (K (es i)) (K (es (i + 1))) = 0 then 0 else 1
theorem rk_le (K : Nat → List Int) (es : Nat → Nat) (i : Nat) : rk K es i ≤ i := by
  induction i with
  | zero => simp [rk]
  | succ i ih => simp only [rk]; split <;> omega
theorem rk_step (K : Nat → List Int) (es : Nat → Nat) (n : Nat) (hs : ∀ i j, i < j → j < n → cl (K (es i)) (K (es j)) ≤ 0) : ∀ d i, i + d < n →
    rk K es i ≤ rk K es (i + d) ∧ (rk K es i = rk K es (i + d) ↔ cl (K (es i)) (K (es (i + d))) = 0)
  | 0, i, _ => by simp [cl_self]
  | d + 1, i, h => by
    obtain ⟨h1, h2⟩ := rk_step K es n hs d i (by omega)
    have h3 := hs (i + d) (i + d + 1) (by omega) (by omega)
    have h4 : cl (K (es i)) (K (es (i + d))) ≤ 0 := by
      by_cases hd : d = 0
      · subst hd; simp [cl_self]
      · exact hs _ _ (by omega) (by omega)
    rw [show i + (d + 1) = i + d + 1 from by omega]
    show _ ≤ rk K es (i + d) + _ ∧ (_ = rk K es (i + d) + _ ↔ _)
    by_cases hc : cl (K (es (i + d))) (K (es (i + d + 1))) = 0
    · rw [if_pos hc, ← cl_eq hc]
      exact ⟨by omega, h2⟩
    · rw [if_neg hc]
      refine ⟨by omega, ⟨fun h => by omega, fun h => ?_⟩⟩
      have := cl_le_lt h4 (show cl (K (es (i + d))) (K (es (i + d + 1))) < 0 by omega)
      omega
theorem rk_ci (K : Nat → List Int) (es : Nat → Nat) (n : Nat) (hs : ∀ i j, i < j → j < n → cl (K (es i)) (K (es j)) ≤ 0) (i j : Nat) (hi : i < n) (hj : j < n) :
    ci (rk K es i) (rk K es j) = cl (K (es i)) (K (es j)) := by
  have main : ∀ i j, i ≤ j → j < n → ci (rk K es i) (rk K es j) = cl (K (es i)) (K (es j)) := by
    intro i j hij hj
    obtain ⟨d, rfl⟩ : ∃ d, j = i + d := ⟨j - i, by omega⟩
    obtain ⟨h1, h2⟩ := rk_step K es n hs d i hj
    have h4 : cl (K (es i)) (K (es (i + d))) ≤ 0 := by
      by_cases hd : d = 0
      · subst hd; simp [cl_self]
      · exact hs _ _ (by omega) (by omega)
    have h5 := cl_three (K (es i)) (K (es (i + d)))
    unfold ci
    by_cases hc : cl (K (es i)) (K (es (i + d))) = 0
    · rw [hc, h2.2 hc]; simp
    · have : rk K es i ≠ rk K es (i + d) := fun e => hc (h2.1 e)
      rw [if_pos (by omega)]; omega
  rcases Nat.le_total i j with h | h
  · exact main i j h hj
  · have h1 := main j i h hi
    have h2 := cl_neg (K (es j)) (K (es i))
    rw [h2, ← h1]
    unfold ci
    split <;> split <;> first | omega | (split <;> omega) | skip

end En
end Go.Proofs.Ytnmhjhfdgfdooaa
