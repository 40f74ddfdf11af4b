/- A row of words of the call's own, sorted, and each word once. -/
import Derived.Test.YtoeemehdkejhfaaDoorTc
import Derived.Test.YtoeemehdkejhfaaDoorTd
namespace Go.Proofs.YtoeemehdkejhfaaDoor
open Go.RowKit Tx

/-- the row, other words put into it -/
theorem own_put {w : World} {base : Nat} {e : TypeId} {g n cap q m : Nat} {all d : List Wd} {os : Array Obj} (h : w.ownsRow base e 1 (.slice (some ⟨g, 0, none⟩) n cap) n (all.map sv)) (hd : d.length = n) (hm : m ≤ n) :
    (Sort.grow (Sort.putRow encStr (Sort.ahead w q) g 0 d.toArray) os).ownsRow base e 1 (.slice (some ⟨g, 0, none⟩) m cap) m ((d.take m).map sv) ∧ Below base w (Sort.grow (Sort.putRow encStr (Sort.ahead w q) g 0 d.toArray) os) := by
  rcases h.2 with ⟨hv, _⟩ | ⟨g', cap', cur, hv, hbase, hg, hnc, hcm, hsz, htk⟩
  · cases hv
  · injection hv with e1 e2 e3
    injection e1 with e1
    injection e1 with e1
    subst e1 e3
    have hlt : g < w.heap.size := by
      rcases Nat.lt_or_ge g w.heap.size with h | h
      · exact h
      · rw [Array.getElem?_eq_none h] at hg; cases hg
    have hhp : (Sort.grow (Sort.putRow encStr (Sort.ahead w q) g 0 d.toArray) os).heap[g]? = some (.cells (Sort.putCells encStr 0 d.toArray cur) e (0, 0)) := by
      rw [Sort.heap_grow_old _ _ (by simpa using hlt)]
      simp only [Sort.putRow, Sort.mapBlock, Sort.heap_ahead, Array.getElem?_modify, if_true, hg, Option.map_some]
      rfl
    refine ⟨⟨by simp; omega, .inr ⟨g, cap, _, rfl, hbase, hhp, by omega, hcm, ?_, ?_⟩⟩, ⟨rfl, rfl, rfl, ?_, ?_⟩⟩
    · simp [Sort.putCells]; omega
    · apply List.ext_getElem
      · simp [Sort.putCells]; omega
      · intro i h1 h2
        simp only [List.length_map, List.length_take] at h2
        have hi : i < d.length := by omega
        simp [Sort.putCells, hi]
    · simp
    · intro k hk
      have hkg : ¬ g = k := by omega
      rw [Sort.heap_grow_old _ _ (by simp; omega)]
      simp [Sort.putRow, Sort.mapBlock, Array.getElem?_modify, hkg]

theorem own_holds {w : World} {base : Nat} {e : TypeId} {g n cap : Nat} {all : List Wd} (h : w.ownsRow base e 1 (.slice (some ⟨g, 0, none⟩) n cap) n (all.map sv)) : Sort.Holds encStr w g 0 all.toArray ∧ g < w.heap.size ∧ n = all.length ∧ n ≤ cap := by
  obtain ⟨hn, hr⟩ := own_row [] h
  have hlt := (h.lt g rfl).2
  obtain ⟨A, c, hv, hc⟩ := own_slice h
  injection hv with _ _ hv3
  refine ⟨fun j hj => ⟨?_, ?_⟩, hlt, hn, by omega⟩
  · obtain ⟨b, o, ea, _, hcell⟩ := hr (by rw [hn]; simp at hj; omega)
    injection ea with ea
    injection ea with e1 e2 _
    subst e1 e2
    simp only [List.size_toArray] at hj
    have := hcell j (by omega)
    rw [this]
    simp [sv, encStr, hj]
  · have := h.frozenAt j
    rw [Nat.zero_add]
    exact this

theorem sort_any (all : List Wd) (A : Option Addr) (n c base : Nat) (w : World) (h : w.ownsRow base 9 1 (.slice A n c) n (all.map sv)) (hn : n ≤ 8589934592) :
    Calls Tryd.prog 20 #[.slice A n c] w fun e w' => e = .returned (.tuple #[]) ∧ w'.ownsRow base 9 1 (.slice A n c) n ((all.mergeSort fun x y => decide (x ≤ y)).map sv) ∧ Below base w w' := by
  by_cases h0 : n = 0
  · subst h0
    have : all = [] := by have := h.1; simp at this; exact this
    subst this
    refine (Tryd.slices_Sort_string_none A c w).mono ?_
    rintro e w' ⟨rfl, rfl⟩
    exact ⟨rfl, by simpa using h, Below.refl _ _⟩
  · obtain ⟨g, cap, hv, _, _⟩ := h.form (by omega)
    injection hv with hA _ hc
    subst hA hc
    obtain ⟨hH, hlt, hl, _⟩ := own_holds h
    subst hl
    refine (Tryd.slices_Sort_string g 0 c all w hH hlt (by omega)).mono ?_
    rintro e w' ⟨rfl, q, os, rfl⟩
    have := own_put (q := q) (os := os) (m := all.length) h (d := all.mergeSort fun x y => decide (x ≤ y)) (List.length_mergeSort all) (Nat.le_refl _)
    rw [List.take_of_length_le (by rw [List.length_mergeSort]; exact Nat.le_refl _)] at this
    exact ⟨rfl, this⟩

theorem compact_any (zs : List Wd) (A : Option Addr) (n c base : Nat) (w : World) (h : w.ownsRow base 9 1 (.slice A n c) n (zs.map sv)) (hn : n ≤ 8589934592) :
    Calls Tryd.prog 21 #[.slice A n c] w fun e w' => e = .returned (.slice A (Lib.compact zs).length c) ∧ w'.ownsRow base 9 1 (.slice A (Lib.compact zs).length c) (Lib.compact zs).length ((Lib.compact zs).map sv) ∧ Below base w w' := by
  by_cases h0 : n = 0
  · subst h0
    have : zs = [] := by have := h.1; simp at this; exact this
    subst this
    refine (Tryd.slices_Compact_string_empty A c w).mono ?_
    rintro e w' ⟨rfl, rfl⟩
    exact ⟨rfl, h, Below.refl _ _⟩
  · obtain ⟨g, cap, hv, _, _⟩ := h.form (by omega)
    injection hv with hA _ hc
    subst hA hc
    obtain ⟨hH, hlt, hl, hcap⟩ := own_holds h
    subst hl
    have hcl : (Lib.compact zs).length ≤ zs.length := by
      unfold Lib.compact Lib.compactUpTo
      rw [List.length_map]
      exact Nat.le_trans (List.length_filter_le _ _) (by rw [List.length_range]; exact Nat.le_refl _)
    refine (Tryd.slices_Compact_string g 0 c zs w hH (by omega) hcap).mono ?_
    rintro e w' ⟨rfl, q, rfl⟩
    have := own_put (q := q) (os := #[]) (m := (Lib.compact zs).length) h (d := Lib.compact zs ++ List.replicate (zs.length - (Lib.compact zs).length) []) (by simp; omega) hcl
    rw [List.take_left, Sort.grow_empty] at this
    exact ⟨rfl, this⟩

end Go.Proofs.YtoeemehdkejhfaaDoor
