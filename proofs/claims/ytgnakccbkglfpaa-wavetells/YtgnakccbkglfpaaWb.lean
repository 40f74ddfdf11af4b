/- Plain mathematics of counts and kinds: what the statements say of them. No program is named here. -/
import Derived.Test.YtgnakccbkglfpaaWa
namespace Go.Proofs.Ytgnakccbkglfpaa
namespace Wv

/-- a place moved to the nearest one from 0 to n -/
def cl (n : Nat) (i : Int) : Nat := (max (min i n) 0).toNat
theorem cl_le (n : Nat) (i : Int) : cl n i ≤ n := by unfold cl; omega

theorem count_take_succ (l : List Nat) (i v : Nat) (h : i < l.length) : (l.take (i + 1)).count v = (l.take i).count v + if l.getD i 0 = v then 1 else 0 := by
  rw [List.take_succ_eq_append_getElem h, List.count_append, show l.getD i 0 = l[i] from by simp [h], List.count_singleton]
  simp only [beq_iff_eq]
theorem count_take_le (l : List Nat) (i v : Nat) : (l.take i).count v ≤ l.length := Nat.le_trans List.count_le_length (by rw [List.length_take]; omega)
theorem count_mono (l : List Nat) (v i j : Nat) (h : i ≤ j) : (l.take i).count v ≤ (l.take j).count v := by
  have := cnt_mono 0 v i j l h; rwa [cnt_leaf, cnt_leaf] at this

/-- more of a number ahead of j than ahead of i: it stands between -/
theorem count_lt_iff (l : List Nat) (v i : Nat) : ∀ j, j ≤ l.length → ((l.take i).count v < (l.take j).count v ↔ ∃ a, a < l.length ∧ l.getD a 0 = v ∧ i ≤ a ∧ a < j) := by
  intro j
  induction j with
  | zero => intro _; simp
  | succ j ih =>
    intro hj
    have hs := count_take_succ l j v (by omega)
    by_cases hij : i ≤ j
    · have h0 := count_mono l v i j hij
      have ih' := ih (by omega)
      by_cases he : l.getD j 0 = v
      · rw [if_pos he] at hs
        exact ⟨fun _ => ⟨j, by omega, he, hij, by omega⟩, fun _ => by omega⟩
      · rw [if_neg he] at hs
        rw [hs, Nat.add_zero, ih']
        constructor
        · rintro ⟨a, h1, h2, h3, h4⟩; exact ⟨a, h1, h2, h3, by omega⟩
        · rintro ⟨a, h1, h2, h3, h4⟩
          exact ⟨a, h1, h2, h3, by have : a ≠ j := fun h => he (by rw [← h]; exact h2); omega⟩
    · have h0 := count_mono l v (j + 1) i (by omega)
      exact ⟨fun h => absurd h (by omega), fun ⟨a, _, _, h3, h4⟩ => absurd h4 (by omega)⟩
theorem found_iff (l : List Nat) (v : Nat) (i j : Int) : ((l.take (cl l.length i)).count v < (l.take (cl l.length j)).count v ↔ ∃ a : Nat, a < l.length ∧ l.getD a 0 = v ∧ i ≤ a ∧ (a : Int) < j) := by
  rw [count_lt_iff l v _ _ (cl_le _ _)]
  unfold cl
  constructor
  · rintro ⟨a, h1, h2, h3, h4⟩; exact ⟨a, h1, h2, by omega, by omega⟩
  · rintro ⟨a, h1, h2, h3, h4⟩; exact ⟨a, h1, h2, by omega, by omega⟩

/-- does a number stand from i to ahead of j, among the first k places -/
def fnd (l : List Nat) (i j : Int) (v k : Nat) : Bool := (List.range k).any fun a => l.getD a 0 == v && (decide (i ≤ (a : Int)) && decide ((a : Int) < j))
theorem fnd_zero (l : List Nat) (i j : Int) (v : Nat) : fnd l i j v 0 = false := rfl
theorem fnd_succ (l : List Nat) (i j : Int) (v k : Nat) : fnd l i j v (k + 1) = (fnd l i j v k || (l.getD k 0 == v && (decide (i ≤ (k : Int)) && decide ((k : Int) < j)))) := by
  unfold fnd; rw [List.range_succ, List.any_append]; simp
theorem fnd_all (l : List Nat) (i j : Int) (v : Nat) : fnd l i j v l.length = decide ((l.take (cl l.length i)).count v < (l.take (cl l.length j)).count v) := by
  rw [Bool.eq_iff_iff, decide_eq_true_eq, found_iff]
  unfold fnd
  simp only [List.any_eq_true, List.mem_range, Bool.and_eq_true, beq_iff_eq, decide_eq_true_eq]
/-- the kinds below m; no more below a greater bound -/
theorem kinds_succ (l : List Nat) (i j m : Nat) : kinds l i j (m + 1) = kinds l i j m ++ if (l.take i).count m < (l.take j).count m then [m] else [] := by
  unfold kinds
  rw [List.range_succ, List.filter_append]
  by_cases h : (l.take i).count m < (l.take j).count m <;> simp [h]
theorem kinds_more (l : List Nat) (i j m : Nat) (h : ∀ n ∈ l, n < m) : ∀ d, kinds l i j (m + d) = kinds l i j m := by
  intro d
  induction d with
  | zero => rfl
  | succ d ih =>
    rw [show m + (d + 1) = m + d + 1 from by omega, kinds_succ, ih, if_neg, List.append_nil]
    have : (l.take j).count (m + d) = 0 := by
      rw [List.count_eq_zero]
      intro hm
      have := h _ (List.mem_of_mem_take hm); omega
    omega
theorem kinds_len (l : List Nat) (i j m : Nat) : (kinds l i j m).length ≤ m := by
  unfold kinds; exact Nat.le_trans (List.length_filter_le _ _) (by simp)
theorem kinds_lt (l : List Nat) (i j m v : Nat) (h : v ∈ kinds l i j m) : v < m ∧ (l.take i).count v < (l.take j).count v := by
  unfold kinds at h; simpa using h
theorem kinds_rising (l : List Nat) (i j m : Nat) : (kinds l i j m).Pairwise (· < ·) := List.pairwise_lt_range.filter _
theorem kinds_none (l : List Nat) (i j m : Nat) (h : j ≤ i) : kinds l i j m = [] := by
  unfold kinds
  rw [List.filter_eq_nil_iff]
  intro v _ hv
  have := count_mono l v j i h
  simp at hv; omega

/-- ALL ARE COUNTED -/
def more (l : List Nat) (i j v : Nat) : Nat := (l.take j).count v - (l.take i).count v
theorem sum_map_add {α : Type} (xs : List α) (f g : α → Nat) : (xs.map fun v => f v + g v).sum = (xs.map f).sum + (xs.map g).sum := by
  induction xs with
  | nil => rfl
  | cons x xs ih => simp only [List.map_cons, List.sum_cons, ih]; omega
theorem sum_one (x : Nat) : ∀ m, ((List.range m).map fun v => if x = v then 1 else 0).sum = if x < m then 1 else 0 := by
  intro m
  induction m with
  | zero => rfl
  | succ m ih =>
    rw [List.range_succ, List.map_append, List.sum_append_nat, ih]
    simp only [List.map_cons, List.map_nil, List.sum_cons, List.sum_nil, Nat.add_zero]
    by_cases h1 : x < m
    · rw [if_pos h1, if_neg (by omega), if_pos (by omega), Nat.add_zero]
    · by_cases h2 : x = m
      · rw [if_neg h1, if_pos h2, if_pos (by omega), Nat.zero_add]
      · rw [if_neg h1, if_neg h2, if_neg (by omega), Nat.zero_add]
theorem sum_counts (m : Nat) (D : List Nat) (h : ∀ n ∈ D, n < m) : ((List.range m).map fun v => D.count v).sum = D.length := by
  induction D with
  | nil => simp only [List.count_nil, List.length_nil]; induction List.range m with
    | nil => rfl
    | cons x xs ih => simpa using ih
  | cons x D ih =>
    have e : (fun v => (x :: D).count v) = fun v => D.count v + if x = v then 1 else 0 := by
      funext v; rw [List.count_cons]; simp only [beq_iff_eq]
    rw [e, sum_map_add, ih (fun n hn => h n (List.mem_cons_of_mem _ hn)), sum_one, if_pos (h x (List.mem_cons_self ..)), List.length_cons]
theorem more_eq (l : List Nat) (i j v : Nat) (h : i ≤ j) : more l i j v = ((l.take j).drop i).count v := by
  have e : l.take j = (l.take j).take i ++ (l.take j).drop i := (List.take_append_drop i _).symm
  have e2 : (l.take j).take i = l.take i := by rw [List.take_take, Nat.min_eq_left h]
  have e3 : (l.take j).count v = (l.take i).count v + ((l.take j).drop i).count v := by
    conv => lhs; rw [e]
    rw [List.count_append, e2]
  unfold more
  rw [e3]; omega
theorem sum_filter (xs : List Nat) (f : Nat → Nat) (q : Nat → Bool) (h : ∀ v, q v = false → f v = 0) : ((xs.filter q).map f).sum = (xs.map f).sum := by
  induction xs with
  | nil => rfl
  | cons x xs ih =>
    rw [List.filter_cons]
    cases hq : q x with
    | true => rw [if_pos rfl, List.map_cons, List.map_cons, List.sum_cons, List.sum_cons, ih]
    | false => rw [if_neg (by simp), List.map_cons, List.sum_cons, ih, h x hq, Nat.zero_add]
theorem kinds_sum (l : List Nat) (i j m : Nat) (h : ∀ n ∈ l, n < m) (hj : j ≤ l.length) : ((kinds l i j m).map (more l i j)).sum = j - i := by
  rcases Nat.le_total i j with hij | hij
  · unfold kinds
    rw [sum_filter _ _ _ (fun v hv => by simp at hv; unfold more; omega)]
    have e : more l i j = fun v => ((l.take j).drop i).count v := funext fun v => more_eq l i j v hij
    rw [e, sum_counts m _ (fun n hn => h n (List.mem_of_mem_take (List.mem_of_mem_drop hn)))]
    rw [List.length_drop, List.length_take]; omega
  · rw [kinds_none l i j m hij]; simp; omega
theorem sum_take_le (xs : List Nat) (k : Nat) : (xs.take k).sum ≤ xs.sum := by
  have : xs.sum = (xs.take k).sum + (xs.drop k).sum := by rw [← List.sum_append_nat, List.take_append_drop]
  omega

end Wv
end Go.Proofs.Ytgnakccbkglfpaa
