/- The search by halves among words. No program is named here. -/
import Derived.Test.YtoeemehdkejhfaaDoorTd
import Derived.Shelf.Spec.SearchS
import Derived.Sort.Walk0
namespace Go.Proofs.YtoeemehdkejhfaaDoor
namespace Tx
open Go.Lib

theorem bsGo_in (less : Nat → Bool) (n k : Nat) (h1 : ∀ t, t < k → less t = true) (h2 : ∀ t, k ≤ t → t < n → less t = false) : ∀ (f lo hi : Nat), hi - lo ≤ f → lo ≤ k → k ≤ hi → hi ≤ n → bsGo less f lo hi = k
  | 0, lo, hi, hf, a, b, _ => by simp [bsGo]; omega
  | f + 1, lo, hi, hf, a, b, hn => by
    unfold bsGo
    by_cases h : lo < hi
    · rw [if_pos h]
      by_cases hm : (lo + hi) / 2 < k
      · rw [h1 _ hm, if_pos rfl]; exact bsGo_in less n k h1 h2 f _ _ (by omega) (by omega) b hn
      · rw [h2 _ (by omega) (by omega)]; exact bsGo_in less n k h1 h2 f _ _ (by omega) a (by omega) (by omega)
    · rw [if_neg h]; omega
theorem bsGo_le (less : Nat → Bool) : ∀ (f lo hi : Nat), lo ≤ hi → bsGo less f lo hi ≤ hi
  | 0, lo, hi, h => h
  | f + 1, lo, hi, h => by
    unfold bsGo
    split
    · split
      · exact bsGo_le less f _ _ (by omega)
      · exact Nat.le_trans (bsGo_le less f _ _ (by omega)) (by omega)
    · exact h

/-- where the search ends -/
def bsAt (ws : List Wd) (w : Wd) : Nat := bsGo (fun t => decide (ws.getD t [] < w)) ws.length 0 ws.length
/-- the place of a word, by the search -/
def findIn (ws : List Wd) (w : Wd) : Option Nat := if bsAt ws w < ws.length ∧ ws.getD (bsAt ws w) [] = w then some (bsAt ws w) else none

theorem findIn_some {ws : List Wd} {w : Wd} {k : Nat} (h : findIn ws w = some k) : k < ws.length ∧ ws.getD k [] = w := by
  unfold findIn at h
  split at h
  · rename_i h1; injection h with h; subst h; exact h1
  · cases h
/-- among words that rise, each word is found at its place -/
theorem findIn_at {ws : List Wd} (hr : ws.Pairwise (· < ·)) {k : Nat} (hk : k < ws.length) : findIn ws (ws.getD k []) = some k := by
  have hg : ∀ t (ht : t < ws.length), ws.getD t [] = ws[t] := fun t ht => by rw [List.getD_eq_getElem?_getD, List.getElem?_eq_getElem ht]; rfl
  have hp := List.pairwise_iff_getElem.1 hr
  have he : bsAt ws (ws.getD k []) = k := by
    unfold bsAt
    refine bsGo_in _ ws.length k (fun t ht => ?_) (fun t h1 h2 => ?_) _ _ _ (by omega) (by omega) (by omega) (Nat.le_refl _)
    · rw [hg t (by omega), hg k hk]; exact decide_eq_true (hp t k (by omega) hk ht)
    · rw [hg t h2, hg k hk]
      refine decide_eq_false fun hlt => ?_
      by_cases e : t = k
      · subst e; exact List.lt_irrefl _ hlt
      · exact List.lt_irrefl _ (List.lt_trans hlt (hp k t hk h2 (by omega)))
  unfold findIn
  rw [he, if_pos ⟨hk, rfl⟩]
theorem findIn_mem {ws : List Wd} (hr : ws.Pairwise (· < ·)) {w : Wd} (h : w ∈ ws) : ∃ k, k < ws.length ∧ ws.getD k [] = w ∧ findIn ws w = some k := by
  obtain ⟨k, hk, e⟩ := List.getElem_of_mem h
  have hg : ws.getD k [] = w := by rw [List.getD_eq_getElem?_getD, List.getElem?_eq_getElem hk, ← e]; rfl
  exact ⟨k, hk, hg, by rw [← hg]; exact findIn_at hr hk⟩
theorem findIn_not {ws : List Wd} {w : Wd} (h : w ∉ ws) : findIn ws w = none := by
  unfold findIn
  rw [if_neg]
  rintro ⟨h1, h2⟩
  apply h
  rw [← h2, List.getD_eq_getElem?_getD, List.getElem?_eq_getElem h1]
  exact List.getElem_mem h1

/-- as the library says it -/
theorem bs_bytes (ws : List Wd) (w : Wd) : bsGo (fun t => Op.bytesLess ((⟨(ws.getD t []).toArray⟩ : ByteArray)).toList ((⟨w.toArray⟩ : ByteArray)).toList) ws.length 0 ws.length = bsAt ws w := by
  unfold bsAt
  congr 1
  funext t
  rw [bytesLess_eq, Lib.toList_data, Lib.toList_data]

end Tx
end Go.Proofs.YtoeemehdkejhfaaDoor
