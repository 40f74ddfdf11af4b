/- From the row's list to the two cells of the variable 'nothing'; what the second form's bound says of a list's length. -/
import Derived.Test.YtffhphcgmgkgbabGreatDoorGc
import Derived.Test.YtffhphcgmgkgbabGreatDoorRows
import Derived.Lib.LaidU8
namespace Go.Proofs.YtffhphcgmgkgbabGreatDoor
open Go.RowKit

theorem partFields (i : Nat) (f : Field) (fs : Array Field) (h : Tryz.prog.underlying 24 = some (.struct fs)) (hi : fs[i]? = some f) : Tryz.prog.underlying f.type = some (.int .i64) ∧ f.offset = i ∧ Tryz.prog.cellsOf f.type = 1 := by
  have e := Option.some.inj (h.symm.trans Tryz.underlying24)
  injection e with e
  subst e
  match i with
  | 0 => simp at hi; subst hi; exact ⟨Tryz.underlying3, rfl, by kernel_rfl⟩
  | 1 => simp at hi; subst hi; exact ⟨Tryz.underlying3, rfl, by kernel_rfl⟩
  | n + 2 => simp at hi
theorem nothing_cells {W : World} (h : laidMet Tryz.prog [("gleanings/guess.nothing", Rows.laid_gleanings_guess_nothing)] W) : NG W := by
  obtain ⟨g, t, cs, fuel, p, hg, hty, hvar, hd⟩ := Lib.laidMet.reads h (List.mem_cons_self ..)
  obtain rfl : 0 = g := Option.some.inj ((show Tryz.prog.globalNamed "gleanings/guess.nothing" = some 0 by kernel_rfl).symm.trans hg)
  obtain rfl : 24 = t := Option.some.inj ((show (Tryz.prog.globals[0]?).map (·.type) = some 24 by kernel_rfl).symm.trans hty)
  have hcs := Lib.ints_of_struct (k := .i64) (zs := [0, 1]) Tryz.underlying24 (fun i f hi => partFields i f _ Tryz.underlying24 hi) (by kernel_rfl) hd
  have c0 : W.cell? ⟨0, 0, none⟩ = some (.int .i64 0) := by rw [World.var?_cell hg hvar 0, ← Array.getElem?_toList, hcs]; rfl
  have c1 : W.cell? ⟨0, 1, none⟩ = some (.int .i64 1) := by rw [World.var?_cell hg hvar 1, ← Array.getElem?_toList, hcs]; rfl
  exact ⟨c0, c1, World.block_lt_of_cell? W ⟨0, 0, none⟩ c0⟩

theorem bulk_pos {H : Type} (d : DataW H) : 0 < Rows.uptoBulk d := by
  cases d with
  | lit v => cases v <;> (unfold Rows.uptoBulk; omega)
  | _ => unfold Rows.uptoBulk; omega
theorem bulk_long {H : Type} (r : List (DataW H)) : r.length ≤ Rows.uptoBulkAll r := by
  induction r with
  | nil => exact Nat.le_refl _
  | cons d r ih => unfold Rows.uptoBulkAll; have := bulk_pos d; rw [List.length_cons]; omega
theorem bulk_slice {H : Type} (es sp : List (DataW H)) : es.length ≤ Rows.uptoBulk (.slice es sp) := by
  unfold Rows.uptoBulk
  have := bulk_long es
  omega

end Go.Proofs.YtffhphcgmgkgbabGreatDoor
