import Derived.Test.YtoejenejleocdabGreatDoorRows
import Derived.Test.YtoejenejleocdabGreatDoorJa
import Derived.WalkKit
import Derived.ProofKit
import Derived.OpenShut
import Derived.ShutString
import Derived.ChangeOld
import Derived.Below
import Derived.Deep.Slices
import Derived.Test.YtoejenejleocdabGreatDoorJy
import Derived.Lib.LaidU8
import Derived.Test.YtoejenejleocdabGreatDoorUa
import Derived.Shelf.Vars
/- Arguments that come in, opened: slices of bools, of ints and of uint64 as rows. -/
namespace Go.Proofs.YtoejenejleocdabGreatDoor
open Go.ChangeShapes Go.WideShapes Go.ChangeAt Go.RowKit

theorem own : ownKnob Tryz.prog.godebug = none := by kernel_rfl
theorem laidOut : laidOutB Tryz.prog = true := by kernel_rfl
end Go.Proofs.YtoejenejleocdabGreatDoor

/- From the row's list to the two cells of the variable 'nothing'; what the second form's bound says of a list's length. -/
namespace Go.Proofs.YtoejenejleocdabGreatDoor
open Go.RowKit

theorem partFields (i : Nat) (f : Field) (fs : Array Field) (h : Tryz.prog.underlying 24 = some (.struct fs)) (hi : fs[i]? = some f) : Tryz.prog.underlying f.type = some (.int .i64) ∧ f.offset = i ∧ Tryz.prog.cellsOf f.type = 1 := by
  have e := Option.some.inj (h.symm.trans Tryz.underlying24)
  injection e with e
  subst e
  match i with
  | 0 => simp at hi; subst hi; exact ⟨Tryz.underlying3, rfl, by kernel_rfl⟩
  | 1 => simp at hi; subst hi; exact ⟨Tryz.underlying3, rfl, by kernel_rfl⟩
  | n + 2 => simp at hi
theorem nothing_cells' {W : World} {laid : List (String × _)} (h : laidMet Tryz.prog laid W) (hm : ("gleanings/guess.nothing", Rows.laid_gleanings_guess_nothing) ∈ laid) : NG W := by
  obtain ⟨g, t, cs, fuel, p, hg, hty, hvar, hd⟩ := Lib.laidMet.reads h hm
  obtain rfl : 0 = g := Option.some.inj ((show Tryz.prog.globalNamed "gleanings/guess.nothing" = some 0 by kernel_rfl).symm.trans hg)
  obtain rfl : 24 = t := Option.some.inj ((show (Tryz.prog.globals[0]?).map (·.type) = some 24 by kernel_rfl).symm.trans hty)
  have hcs := Lib.ints_of_struct (k := .i64) (zs := [0, 1]) Tryz.underlying24 (fun i f hi => partFields i f _ Tryz.underlying24 hi) (by kernel_rfl) hd
  have c0 : W.cell? ⟨0, 0, none⟩ = some (.int .i64 0) := by rw [World.var?_cell hg hvar 0, ← Array.getElem?_toList, hcs]; rfl
  have c1 : W.cell? ⟨0, 1, none⟩ = some (.int .i64 1) := by rw [World.var?_cell hg hvar 1, ← Array.getElem?_toList, hcs]; rfl
  exact ⟨c0, c1, World.block_lt_of_cell? W ⟨0, 0, none⟩ c0⟩

end Go.Proofs.YtoejenejleocdabGreatDoor

/- What every law of the whole wants of the world that it is called in: the library's variable, the program's own. -/
namespace Go.Proofs.YtoejenejleocdabGreatDoor
open Go.ChangeShapes Go.WideShapes Go.ChangeAt Go.RowKit

/-- a variable of the library's own holds some number -/
theorem maxLen_cell {w : World} (h : w.ShapedOpen Tryz.prog) : ∃ m, w.cell? ⟨1, 0, none⟩ = some (.int .i64 m) :=
  cell_of_shapedOpen_int (zero := #[.int .i64 0]) (t := 3) h (of_decide_eq_true (by kernel_rfl)) (by kernel_rfl) rfl (by kernel_rfl) (by kernel_rfl) Tryz.underlying3
theorem bulk_string {H : Type} (l : List UInt8) : Rows.uptoBulk (.lit (.string l) : DataW H) = l.length + 1 := by unfold Rows.uptoBulk; rfl

end Go.Proofs.YtoejenejleocdabGreatDoor
