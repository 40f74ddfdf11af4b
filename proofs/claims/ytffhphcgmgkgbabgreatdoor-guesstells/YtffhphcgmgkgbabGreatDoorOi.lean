/- Slices of ints that come in, opened as rows of numbers, with their reading. -/
import Derived.Test.YtffhphcgmgkgbabGreatDoorOp
import Derived.Test.YtffhphcgmgkgbabGreatDoorJb
namespace Go.Proofs.YtffhphcgmgkgbabGreatDoor
open Go.ChangeShapes Go.WideShapes Go.ChangeAt Go.RowKit

theorem open_ints {H : Type} {enc : TypeId × Value → H} {w : World} {base : Nat} {sp : Nat → Bool} {held : Bool} {a : Option Addr} {len cap : Nat} {d : DataW H} {p : List MemPlace}
    (h : DataW.Trod enc Tryz.prog w base sp held 22 (.slice a len cap) d p) :
    ∃ l : List Int, len = l.length ∧ IRow w w.heap.size a l ∧ len ≤ 9223372036854775807 ∧ (len = 0 ∨ ∃ es spare, d = .slice es spare ∧ es.length = len) ∧ ∀ x ∈ l, -9223372036854775808 ≤ x ∧ x ≤ 9223372036854775807 := by
  obtain ⟨fuel, hf⟩ := h
  rcases Deep.open_slice1 Tryz.underlying22 cellsInt hf with ⟨hcs, _⟩ | ⟨x, l, c, m, n, V, D, Pl, hcs, _, hl, hm, hmm, hd, hx⟩
  · simp [Value.cells] at hcs
    obtain ⟨rfl, rfl, rfl⟩ := hcs
    exact ⟨[], rfl, Row.zero, by omega, .inl rfl, by simp⟩
  · simp [Value.cells] at hcs
    obtain ⟨rfl, rfl, rfl⟩ := hcs
    have hle : len ≤ m := by rw [hmm]; split <;> omega
    have hv : ∀ i, i < len → ∃ b : Int, w.cell? (x.add i) = some (.int .i64 b) ∧ -9223372036854775808 ≤ b ∧ b ≤ 9223372036854775807 := fun i hi => by
      obtain ⟨h1, h2⟩ := hx i (by omega)
      obtain ⟨b, e, _, wb⟩ := DataW.trod_int Tryz.underlying3 h2
      simp at e
      exact ⟨b, by rw [h1, e], bounds_i64 wb⟩
    obtain ⟨f, hf⟩ := Deep.choose_lt hv
    refine ⟨(List.range len).map f, by simp, ?_, by unfold maxLen at hm; omega, .inr ?_, ?_⟩
    · unfold IRow
      rw [List.length_map, List.length_range]
      exact row_of_cells (fun i hi => by rw [(hf i hi).1]; simp [hi])
    · injection hd with hd1 _
      exact ⟨_, _, hd1, by simp⟩
    · intro y hy
      simp at hy
      obtain ⟨i, hi, rfl⟩ := hy
      exact (hf i hi).2

end Go.Proofs.YtffhphcgmgkgbabGreatDoor
