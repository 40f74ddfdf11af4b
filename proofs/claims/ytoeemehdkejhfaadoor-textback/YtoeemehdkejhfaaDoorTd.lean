/- Words sorted, each once. No program is named here. -/
import Derived.Lib.SlicesCompact
import Derived.Test.YtoeemehdkejhfaaDoorTa
namespace Go.Proofs.YtoeemehdkejhfaaDoor
namespace Tx

theorem wd_le_trans {a b c : Wd} (h1 : a ≤ b) (h2 : b ≤ c) : a ≤ c := List.le_trans h1 h2
theorem wd_lt_of {a b : Wd} (h1 : a ≤ b) (h2 : a ≠ b) : a < b := by
  by_cases h : a < b
  · exact h
  · exact absurd (List.le_antisymm h1 (List.not_lt.1 h)) h2
theorem wd_lt_of_le_of_lt {a b c : Wd} (h1 : a ≤ b) (h2 : b < c) : a < c := List.lt_of_le_of_lt h1 h2
theorem wd_le_of_lt {a b : Wd} (h : a < b) : a ≤ b := List.le_of_lt h

/-- the words, by order, each once -/
def wordsOf (all : List Wd) : List Wd := Lib.compact (all.mergeSort fun x y => decide (x ≤ y))

theorem sorted_ms (all : List Wd) : (all.mergeSort fun x y => decide (x ≤ y)).Pairwise (· ≤ ·) := by
  have h := List.pairwise_mergeSort (le := fun (x y : Wd) => decide (x ≤ y)) (fun a b c h1 h2 => by simp only [decide_eq_true_eq] at *; exact List.le_trans h1 h2) (fun a b => by simp only [Bool.or_eq_true, decide_eq_true_eq]; exact List.le_total a b) all
  exact h.imp fun h => by simpa using h

theorem compact_sorted (zs : List Wd) (hs : zs.Pairwise (· ≤ ·)) : ∀ m, m ≤ zs.length →
    (Lib.compactUpTo zs.toArray m).Pairwise (· < ·) ∧ (∀ x, x ∈ Lib.compactUpTo zs.toArray m ↔ ∃ j, j < m ∧ zs[j]? = some x) ∧ (∀ x ∈ Lib.compactUpTo zs.toArray m, ∀ y, zs[m - 1]? = some y → x ≤ y)
  | 0, _ => by simp [Lib.compactUpTo]
  | m + 1, hm => by
    obtain ⟨h1, h2, h3⟩ := compact_sorted zs hs m (by omega)
    have hm' : m < zs.length := by omega
    have hget : zs.toArray[m]! = zs[m] := by simp [hm']
    have hle : ∀ i (hi : i < m), zs[i] ≤ zs[m] := fun i hi => (List.pairwise_iff_getElem.1 hs) i m (by omega) hm' hi
    rw [Lib.compactUpTo_succ, hget, Nat.add_sub_cancel]
    have hlast : ∀ y, zs[m]? = some y → y = zs[m] := fun y hy => by rw [List.getElem?_eq_getElem hm'] at hy; injection hy with hy; exact hy.symm
    by_cases hk : Lib.keeps zs.toArray m = true
    · rw [if_pos hk]
      have hnew : ∀ x ∈ Lib.compactUpTo zs.toArray m, x < zs[m] := by
        intro x hx
        obtain ⟨j, hj, hjx⟩ := (h2 x).1 hx
        have hm0 : 0 < m := by omega
        have hx' := h3 x hx zs[m - 1] (List.getElem?_eq_getElem (by omega))
        have hne : zs[m] ≠ zs[m - 1] := by
          simp only [Lib.keeps, decide_eq_true_eq] at hk
          rcases hk with hk | hk
          · omega
          · intro e
            apply hk
            simp [hm', show m - 1 < zs.length by omega, e]
        exact wd_lt_of_le_of_lt hx' (wd_lt_of (hle (m - 1) (by omega)) (fun e => hne e.symm))
      refine ⟨?_, ?_, ?_⟩
      · rw [List.pairwise_append]
        exact ⟨h1, by simp, fun a ha b hb => by simp at hb; subst hb; exact hnew a ha⟩
      · intro x
        simp only [List.mem_append, List.mem_singleton, h2]
        constructor
        · rintro (⟨j, hj, e⟩ | rfl)
          · exact ⟨j, by omega, e⟩
          · exact ⟨m, by omega, List.getElem?_eq_getElem hm'⟩
        · rintro ⟨j, hj, e⟩
          by_cases hjm : j = m
          · subst hjm; exact .inr (hlast x e)
          · exact .inl ⟨j, by omega, e⟩
      · intro x hx y hy
        rw [hlast y hy]
        simp only [List.mem_append, List.mem_singleton] at hx
        rcases hx with hx | rfl
        · exact wd_le_of_lt (hnew x hx)
        · exact List.le_refl _
    · rw [if_neg hk, List.append_nil]
      have hm0 : m ≠ 0 := fun e => hk (by simp [Lib.keeps, e])
      have heq : zs[m] = zs[m - 1] := by
        simp only [Lib.keeps, decide_eq_true_eq, not_or, Decidable.not_not] at hk
        have := hk.2
        simpa [hm', show m - 1 < zs.length by omega] using this
      refine ⟨h1, ?_, ?_⟩
      · intro x
        rw [h2]
        constructor
        · rintro ⟨j, hj, e⟩
          exact ⟨j, by omega, e⟩
        · rintro ⟨j, hj, e⟩
          by_cases hjm : j = m
          · subst hjm
            refine ⟨j - 1, by omega, ?_⟩
            rw [hlast x e, heq]
            exact List.getElem?_eq_getElem (by omega)
          · exact ⟨j, by omega, e⟩
      · intro x hx y hy
        rw [hlast y hy, heq]
        exact h3 x hx _ (List.getElem?_eq_getElem (by omega))

theorem wordsOf_rising (all : List Wd) : (wordsOf all).Pairwise (· < ·) := (compact_sorted _ (sorted_ms all) _ (Nat.le_refl _)).1
theorem mem_wordsOf (all : List Wd) (x : Wd) : x ∈ wordsOf all ↔ x ∈ all := by
  have h := (compact_sorted _ (sorted_ms all) _ (Nat.le_refl _)).2.1 x
  unfold wordsOf Lib.compact
  rw [h, ← List.mem_mergeSort (le := fun (x y : Wd) => decide (x ≤ y)) (a := x) (l := all), List.mem_iff_getElem?]
  constructor
  · rintro ⟨j, _, e⟩; exact ⟨j, e⟩
  · rintro ⟨j, e⟩; exact ⟨j, (List.getElem?_eq_some_iff.1 e).1, e⟩
theorem wordsOf_length (all : List Wd) : (wordsOf all).length ≤ all.length := by
  unfold wordsOf Lib.compact Lib.compactUpTo
  rw [List.length_map]
  exact Nat.le_trans (List.length_filter_le _ _) (by rw [List.length_range]; exact Nat.le_of_eq (List.length_mergeSort all))

/-- two such lists with the same words are one -/
theorem rising_eq {a b : List Wd} (ha : a.Pairwise (· < ·)) (hb : b.Pairwise (· < ·)) (h : ∀ x, x ∈ a ↔ x ∈ b) : a = b := by
  induction a generalizing b with
  | nil =>
    cases b with
    | nil => rfl
    | cons y t => exact absurd ((h y).2 (by simp)) (by simp)
  | cons x a ih =>
    cases b with
    | nil => exact absurd ((h x).1 (by simp)) (by simp)
    | cons y b =>
      rw [List.pairwise_cons] at ha hb
      have hxy : x = y := by
        have h1 := (h x).1 (by simp)
        have h2 := (h y).2 (by simp)
        rw [List.mem_cons] at h1 h2
        rcases h1 with h1 | h1
        · exact h1
        · rcases h2 with h2 | h2
          · exact h2.symm
          · exact absurd (List.lt_trans (ha.1 y h2) (hb.1 x h1)) (List.lt_irrefl x)
      subst hxy
      congr 1
      refine ih ha.2 hb.2 fun z => ?_
      have hz := h z
      simp only [List.mem_cons] at hz
      constructor
      · intro hza
        rcases hz.1 (.inr hza) with e | e
        · subst e; exact absurd (ha.1 z hza) (List.lt_irrefl z)
        · exact e
      · intro hzb
        rcases hz.2 (.inr hzb) with e | e
        · subst e; exact absurd (hb.1 z hzb) (List.lt_irrefl z)
        · exact e

end Tx
end Go.Proofs.YtoeemehdkejhfaaDoor
