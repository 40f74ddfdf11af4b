/- Words for memory: a call that hands back numbers; a list of numbers in the making. No program is named here, but the type of numbers. -/
import Derived.Test.YtgnakccbkglfpaaMm
import Derived.Laws.OwnMore
namespace Go.Proofs.Ytgnakccbkglfpaa
open Go.RowKit

/-- a call that hands back numbers in a row, and leaves what was -/
def Ints (w : World) (L : List Int) (e : Ending) (w' : World) : Prop := ∃ A c, e = .returned (.slice A L.length c) ∧ IRow w' w'.heap.size A L ∧ Below w.heap.size w w'

theorem row_of_rowIs {w : World} {b : Nat} {t : TypeId} {n : Nat} {f : Nat → Value} (h : w.rowIs b t n f) : Row w w.heap.size (some ⟨b, 0, none⟩) n f := Row.of_rowIs h h.lt

/-- a row of numbers that has just been made -/
theorem irow_new (w : World) (l : List Int) (t : TypeId) : IRow (w.alloc (.cells (l.map (Value.int .i64)).toArray t)) (w.alloc (.cells (l.map (Value.int .i64)).toArray t)).heap.size (some ⟨w.heap.size, 0, none⟩) l := by
  intro _
  refine ⟨w.heap.size, 0, rfl, by simp, fun i hi => ?_⟩
  rw [Nat.zero_add, World.cell?_alloc_at _ _ _ _ (by simp)]
  simp [hi]

/-- a list in the making: a row of the call's own -/
structure OL (w : World) (L : List Int) (v : Value) (W : World) : Prop where
  own : W.ownsRow w.heap.size 3 1 v L.length (L.map (Value.int .i64))
  old : Below w.heap.size w W
theorem OL.nil (w W : World) (h : Below w.heap.size w W) : OL w [] (.slice none 0 0) W := ⟨World.ownsRow_nil _ _ _ _, h⟩
theorem OL.on {w : World} {L : List Int} {v : Value} {W W' : World} (h : OL w L v W) (hb : Below W.heap.size W W') : OL w L v W' := ⟨own_below h.own hb, h.old.trans (hb.mono h.old.size)⟩
theorem OL.app {w : World} {L : List Int} {v v' : Value} {W W' : World} (h : OL w L v W) (x : Int) (h2 : W'.ownsRow w.heap.size 3 1 v' (L.length + 1) (L.map (Value.int .i64) ++ [.int .i64 x])) (hg : W.grownBy W' v.ownBlock) : OL w (L ++ [x]) v' W' :=
  ⟨by simpa using h2, h.old.grown hg h.old.size (fun g hg => (h.own.lt g hg).1)⟩
theorem OL.ints {w : World} {L : List Int} {v : Value} {W : World} (h : OL w L v W) : Ints w L (.returned v) W := by
  obtain ⟨A, c, rfl, _⟩ := own_slice h.own
  obtain ⟨_, hr⟩ := own_row (0 : Int) h.own
  exact ⟨A, c, rfl, hr, h.old⟩

end Go.Proofs.Ytgnakccbkglfpaa
