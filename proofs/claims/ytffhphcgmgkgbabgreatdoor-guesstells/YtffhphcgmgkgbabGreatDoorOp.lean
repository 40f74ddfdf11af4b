/- Arguments that come in, opened: slices of bools, of ints and of uint64 as rows. -/
import Derived.Test.YtffhphcgmgkgbabGreatDoorRows
import Derived.Test.YtffhphcgmgkgbabGreatDoorJa
import Derived.WalkKit
import Derived.ProofKit
import Derived.OpenShut
import Derived.ShutString
import Derived.ChangeOld
import Derived.Below
import Derived.Deep.Slices
namespace Go.Proofs.YtffhphcgmgkgbabGreatDoor
open Go.ChangeShapes Go.WideShapes Go.ChangeAt Go.RowKit

theorem own : ownKnob Tryz.prog.godebug = none := by kernel_rfl
theorem laidOut : laidOutB Tryz.prog = true := by kernel_rfl
theorem cellsBool : Tryz.prog.cellsOf 4 = 1 := by kernel_rfl
theorem cellsInt : Tryz.prog.cellsOf 3 = 1 := by kernel_rfl

theorem addr_of_cell {w : World} {a : Addr} {v : Value} (h : w.cell? (a.add 0) = some v) : a = ⟨a.block, a.off, none⟩ ∧ a.block < w.heap.size := by
  have hs := World.cell?_spot h
  have hb := World.block_lt_of_cell? _ _ h
  obtain ⟨b, o, s⟩ := a
  simp [Addr.add] at hs hb ⊢
  exact ⟨hs, hb⟩
theorem addr_add {b o i : Nat} : (⟨b, o, none⟩ : Addr).add i = ⟨b, o + i, none⟩ := by
  by_cases hi : i = 0
  · subst hi; simp [Addr.add]
  · simp [Addr.add, hi]
/-- cells one behind the other are a row -/
theorem row_of_cells {w : World} {x : Addr} {n : Nat} {f : Nat → Value} (hf : ∀ i, i < n → w.cell? (x.add i) = some (f i)) : Row w w.heap.size (some x) n f := by
  intro hn
  have h0 := addr_of_cell (hf 0 hn)
  refine ⟨x.block, x.off, by rw [← h0.1], h0.2, fun i hi => ?_⟩
  rw [← addr_add, ← h0.1]
  exact hf i hi

/-- a slice of bools that came in -/
theorem open_bools {H : Type} {enc : TypeId × Value → H} {w : World} {base : Nat} {sp : Nat → Bool} {held : Bool} {a : Option Addr} {len cap : Nat} {d : DataW H} {p : List MemPlace}
    (h : DataW.Trod enc Tryz.prog w base sp held 64 (.slice a len cap) d p) : ∃ l : List Bool, len = l.length ∧ Row w w.heap.size a len (fun k => .bool (l.getD k false)) := by
  obtain ⟨fuel, hf⟩ := h
  rcases Deep.open_slice1 Tryz.underlying64 cellsBool hf with ⟨hcs, _⟩ | ⟨x, l, c, m, n, V, D, Pl, hcs, _, hl, hm, hmm, _, hx⟩
  · simp [Value.cells] at hcs
    obtain ⟨rfl, rfl, rfl⟩ := hcs
    exact ⟨[], rfl, Row.zero⟩
  · simp [Value.cells] at hcs
    obtain ⟨rfl, rfl, rfl⟩ := hcs
    have hle : len ≤ m := by rw [hmm]; split <;> omega
    have hv : ∀ i, i < len → ∃ b : Bool, w.cell? (x.add i) = some (.bool b) := fun i hi => by
      obtain ⟨h1, h2⟩ := hx i (by omega)
      obtain ⟨b, e, _⟩ := DataW.trod_bool Tryz.underlying4 h2
      simp at e
      exact ⟨b, by rw [h1, e]⟩
    obtain ⟨f, hf⟩ := Deep.choose_lt hv
    refine ⟨(List.range len).map f, by simp, row_of_cells (fun i hi => ?_)⟩
    rw [hf i hi]
    simp [hi]

end Go.Proofs.YtffhphcgmgkgbabGreatDoor
