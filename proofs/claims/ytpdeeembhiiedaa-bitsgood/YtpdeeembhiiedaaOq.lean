/- Arguments that come in, opened: slices of numbers as rows; bits as a struct of three. -/
import Derived.Test.YtpdeeembhiiedaaOp
import Derived.Lib.SmallJoins
namespace Go.Proofs.Ytpdeeembhiiedaa
open Go.ChangeShapes Go.WideShapes Go.ChangeAt Go.RowKit Go.Joins

theorem cellsU64 : Try.prog.cellsOf 39 = 1 := by kernel_rfl
theorem cellsBits : Try.prog.cellsOf 27 = 3 := by kernel_rfl

section
variable {H : Type} {enc : TypeId × Value → H} {w : World} {base : Nat} {sp : Nat → Bool} {held : Bool}

/-- a slice of ints that came in -/
theorem open_intRow {v : Value} {n : Nat} {y : DataW H × List MemPlace} (h : DataW.trod enc Try.prog w base sp held n 25 [v] = some y) :
    ∃ (a : Option Addr) (len cap : Nat) (f : Nat → Int), v = .slice a len cap ∧ len ≤ 9223372036854775807 ∧ Row w w.heap.size a len (fun k => .int .i64 (f k)) ∧ ∀ k, -9223372036854775808 ≤ f k ∧ f k ≤ 9223372036854775807 := by
  rcases Deep.open_slice1 Try.underlying25 cellsInt h with ⟨hcs, _⟩ | ⟨x, l, c, m, n, V, D, Pl, hcs, _, hl, hm, hmm, _, hx⟩
  · simp at hcs
    subst hcs
    exact ⟨none, 0, 0, fun _ => 0, rfl, by omega, Row.zero, fun _ => by simp⟩
  · simp at hcs
    subst hcs
    have hle : l ≤ m := by rw [hmm]; split <;> omega
    have hv : ∀ i, i < l → ∃ b : Int, w.cell? (x.add i) = some (.int .i64 b) ∧ -9223372036854775808 ≤ b ∧ b ≤ 9223372036854775807 := fun i hi => by
      obtain ⟨h1, h2⟩ := hx i (by omega)
      obtain ⟨b, e, _, wb⟩ := DataW.trod_int Try.underlying3 h2
      simp at e
      exact ⟨b, by rw [h1, e], bounds_i64 wb⟩
    obtain ⟨f, hf⟩ := Deep.choose_lt hv
    refine ⟨_, _, _, fun k => if k < l then f k else 0, rfl, by unfold maxLen at hm; omega, row_of_cells (fun i hi => ?_), fun k => ?_⟩
    · simp only [(hf i hi).1, if_pos hi]
    · by_cases hk : k < l
      · simp only [if_pos hk]; exact (hf k hk).2
      · simp only [if_neg hk]; omega
/-- a slice of uint64 that came in -/
theorem open_u64Row {v : Value} {n : Nat} {y : DataW H × List MemPlace} (h : DataW.trod enc Try.prog w base sp held n 24 [v] = some y) :
    ∃ (a : Option Addr) (len cap : Nat) (f : Nat → Nat), v = .slice a len cap ∧ len ≤ 9223372036854775807 ∧ Row w w.heap.size a len (fun k => .int .u64 (f k)) ∧ ∀ k, f k < 18446744073709551616 := by
  rcases Deep.open_slice1 Try.underlying24 cellsU64 h with ⟨hcs, _⟩ | ⟨x, l, c, m, n, V, D, Pl, hcs, _, hl, hm, hmm, _, hx⟩
  · simp at hcs
    subst hcs
    exact ⟨none, 0, 0, fun _ => 0, rfl, by omega, Row.zero, fun _ => by simp⟩
  · simp at hcs
    subst hcs
    have hle : l ≤ m := by rw [hmm]; split <;> omega
    have hv : ∀ i, i < l → ∃ b : Nat, w.cell? (x.add i) = some (.int .u64 b) ∧ b < 18446744073709551616 := fun i hi => by
      obtain ⟨h1, h2⟩ := hx i (by omega)
      obtain ⟨b, e, _, wb⟩ := DataW.trod_int Try.underlying39 h2
      simp at e
      have hb := bounds_u64 wb
      obtain ⟨k, rfl⟩ := Int.eq_ofNat_of_zero_le hb.1
      exact ⟨k, by rw [h1, e], by omega⟩
    obtain ⟨f, hf⟩ := Deep.choose_lt hv
    refine ⟨_, _, _, fun k => if k < l then f k else 0, rfl, by unfold maxLen at hm; omega, row_of_cells (fun i hi => ?_), fun k => ?_⟩
    · simp only [(hf i hi).1, if_pos hi]
    · by_cases hk : k < l
      · simp only [if_pos hk]; exact (hf k hk).2
      · simp only [if_neg hk]; omega
/-- bits that came in -/
theorem open_bits {r : Reach} {b0 : Nat} {v : Value} {d : DataW H} {p : List MemPlace} (hv : Value.okWide Try.prog w r b0 27 v) (h : DataW.Trod enc Try.prog w base sp held 27 v d p) :
    ∃ (n : Int) (A : Option Addr) (np cp : Nat) (A2 : Option Addr) (na ca : Nat) (P : Nat → Nat) (a : Nat → Int), v = .agg #[.int .i64 n, .slice A np cp, .slice A2 na ca] ∧ -9223372036854775808 ≤ n ∧ n ≤ 9223372036854775807 ∧
      np ≤ 9223372036854775807 ∧ na ≤ 9223372036854775807 ∧ Row w w.heap.size A np (fun k => .int .u64 (P k)) ∧ (∀ k, P k < 18446744073709551616) ∧ Row w w.heap.size A2 na (fun k => .int .i64 (a k)) ∧ ∀ k, -9223372036854775808 ≤ a k ∧ a k ≤ 9223372036854775807 := by
  obtain ⟨v0, v1, v2, y0, y1, y2, m, rfl, _, _, t0, t1, t2⟩ := open_agg3 Try.underlying27 (by kernel_rfl) cellsBits hv h
  obtain ⟨n, e0, _, w0⟩ := DataW.trod_int Try.underlying3 t0
  simp at e0
  subst e0
  obtain ⟨A, np, cp, P, rfl, hp, hP, hP2⟩ := open_u64Row t1
  obtain ⟨A2, na, ca, a, rfl, hna, ha, ha2⟩ := open_intRow t2
  exact ⟨n, A, np, cp, A2, na, ca, P, a, rfl, (bounds_i64 w0).1, (bounds_i64 w0).2, hp, hna, hP, hP2, ha, ha2⟩
end

end Go.Proofs.Ytpdeeembhiiedaa
