import Derived.Test.YtoejenejleocdabGreatDoorRows
import Derived.Test.YtoejenejleocdabGreatDoorJa
import Derived.WalkKit
import Derived.ProofKit
import Derived.OpenShut
import Derived.ShutString
import Derived.ChangeOld
import Derived.Below
import Derived.Deep.Slices
import Derived.Test.YtoejenejleocdabGreatDoorJy
import Derived.Lib.LaidU8
import Derived.Test.YtoejenejleocdabGreatDoorUa
import Derived.Shelf.Vars
/- Arguments that come in, opened: slices of bools, of ints and of uint64 as rows. -/
namespace Go.Proofs.YtoejenejleocdabGreatDoor
open Go.ChangeShapes Go.WideShapes Go.ChangeAt Go.RowKit

theorem own : ownKnob Tryz.prog.godebug = none := by kernel_rfl
theorem laidOut : laidOutB Tryz.prog = true := by kernel_rfl
theorem cellsBool : Tryz.prog.cellsOf 4 = 1 := by kernel_rfl
theorem cellsInt : Tryz.prog.cellsOf 3 = 1 := by kernel_rfl

theorem addr_of_cell {w : World} {a : Addr} {v : Value} (h : w.cell? (a.add 0) = some v) : a = ⟨a.block, a.off, none⟩ ∧ a.block < w.heap.size := by
  have hs := World.cell?_spot h
  have hb := World.block_lt_of_cell? _ _ h
  obtain ⟨b, o, s⟩ := a
  simp [Addr.add] at hs hb ⊢
  exact ⟨hs, hb⟩
theorem addr_add {b o i : Nat} : (⟨b, o, none⟩ : Addr).add i = ⟨b, o + i, none⟩ := by
  by_cases hi : i = 0
  · subst hi; simp [Addr.add]
  · simp [Addr.add, hi]
/-- cells one behind the other are a row -/
theorem row_of_cells {w : World} {x : Addr} {n : Nat} {f : Nat → Value} (hf : ∀ i, i < n → w.cell? (x.add i) = some (f i)) : Row w w.heap.size (some x) n f := by
  intro hn
  have h0 := addr_of_cell (hf 0 hn)
  refine ⟨x.block, x.off, by rw [← h0.1], h0.2, fun i hi => ?_⟩
  rw [← addr_add, ← h0.1]
  exact hf i hi

/-- a slice of bools that came in -/
theorem open_bools {H : Type} {enc : TypeId × Value → H} {w : World} {base : Nat} {sp : Nat → Bool} {held : Bool} {a : Option Addr} {len cap : Nat} {d : DataW H} {p : List MemPlace}
    (h : DataW.Trod enc Tryz.prog w base sp held 102 (.slice a len cap) d p) : ∃ l : List Bool, len = l.length ∧ Row w w.heap.size a len (fun k => .bool (l.getD k false)) := by
  obtain ⟨fuel, hf⟩ := h
  rcases Deep.open_slice1 Tryz.underlying102 cellsBool hf with ⟨hcs, _⟩ | ⟨x, l, c, m, n, V, D, Pl, hcs, _, hl, hm, hmm, _, hx⟩
  · simp [Value.cells] at hcs
    obtain ⟨rfl, rfl, rfl⟩ := hcs
    exact ⟨[], rfl, Row.zero⟩
  · simp [Value.cells] at hcs
    obtain ⟨rfl, rfl, rfl⟩ := hcs
    have hle : len ≤ m := by rw [hmm]; split <;> omega
    have hv : ∀ i, i < len → ∃ b : Bool, w.cell? (x.add i) = some (.bool b) := fun i hi => by
      obtain ⟨h1, h2⟩ := hx i (by omega)
      obtain ⟨b, e, _⟩ := DataW.trod_bool Tryz.underlying4 h2
      simp at e
      exact ⟨b, by rw [h1, e]⟩
    obtain ⟨f, hf⟩ := Deep.choose_lt hv
    refine ⟨(List.range len).map f, by simp, row_of_cells (fun i hi => ?_)⟩
    rw [hf i hi]
    simp [hi]

end Go.Proofs.YtoejenejleocdabGreatDoor

/- From the row's list to the two cells of the variable 'nothing'; what the second form's bound says of a list's length. -/
namespace Go.Proofs.YtoejenejleocdabGreatDoor
open Go.RowKit

theorem partFields (i : Nat) (f : Field) (fs : Array Field) (h : Tryz.prog.underlying 24 = some (.struct fs)) (hi : fs[i]? = some f) : Tryz.prog.underlying f.type = some (.int .i64) ∧ f.offset = i ∧ Tryz.prog.cellsOf f.type = 1 := by
  have e := Option.some.inj (h.symm.trans Tryz.underlying24)
  injection e with e
  subst e
  match i with
  | 0 => simp at hi; subst hi; exact ⟨Tryz.underlying3, rfl, by kernel_rfl⟩
  | 1 => simp at hi; subst hi; exact ⟨Tryz.underlying3, rfl, by kernel_rfl⟩
  | n + 2 => simp at hi
theorem nothing_cells' {W : World} {laid : List (String × _)} (h : laidMet Tryz.prog laid W) (hm : ("gleanings/guess.nothing", Rows.laid_gleanings_guess_nothing) ∈ laid) : NG W := by
  obtain ⟨g, t, cs, fuel, p, hg, hty, hvar, hd⟩ := Lib.laidMet.reads h hm
  obtain rfl : 0 = g := Option.some.inj ((show Tryz.prog.globalNamed "gleanings/guess.nothing" = some 0 by kernel_rfl).symm.trans hg)
  obtain rfl : 24 = t := Option.some.inj ((show (Tryz.prog.globals[0]?).map (·.type) = some 24 by kernel_rfl).symm.trans hty)
  have hcs := Lib.ints_of_struct (k := .i64) (zs := [0, 1]) Tryz.underlying24 (fun i f hi => partFields i f _ Tryz.underlying24 hi) (by kernel_rfl) hd
  have c0 : W.cell? ⟨0, 0, none⟩ = some (.int .i64 0) := by rw [World.var?_cell hg hvar 0, ← Array.getElem?_toList, hcs]; rfl
  have c1 : W.cell? ⟨0, 1, none⟩ = some (.int .i64 1) := by rw [World.var?_cell hg hvar 1, ← Array.getElem?_toList, hcs]; rfl
  exact ⟨c0, c1, World.block_lt_of_cell? W ⟨0, 0, none⟩ c0⟩

theorem nothing_cells {W : World} (h : laidMet Tryz.prog [("gleanings/guess.nothing", Rows.laid_gleanings_guess_nothing)] W) : NG W := nothing_cells' h (List.mem_cons_self ..)

theorem bulk_pos {H : Type} (d : DataW H) : 0 < Rows.uptoBulk d := by
  cases d with
  | lit v => cases v <;> (unfold Rows.uptoBulk; omega)
  | _ => unfold Rows.uptoBulk; omega
theorem bulk_long {H : Type} (r : List (DataW H)) : r.length ≤ Rows.uptoBulkAll r := by
  induction r with
  | nil => exact Nat.le_refl _
  | cons d r ih => unfold Rows.uptoBulkAll; have := bulk_pos d; rw [List.length_cons]; omega
theorem bulk_slice {H : Type} (es sp : List (DataW H)) : es.length ≤ Rows.uptoBulk (.slice es sp) := by
  unfold Rows.uptoBulk
  have := bulk_long es
  omega

end Go.Proofs.YtoejenejleocdabGreatDoor

/- What every law of the whole wants of the world that it is called in: the library's variable, the program's own. -/
namespace Go.Proofs.YtoejenejleocdabGreatDoor
open Go.ChangeShapes Go.WideShapes Go.ChangeAt Go.RowKit

/-- a variable of the library's own holds some number -/
theorem maxLen_cell {w : World} (h : w.ShapedOpen Tryz.prog) : ∃ m, w.cell? ⟨1, 0, none⟩ = some (.int .i64 m) :=
  cell_of_shapedOpen_int (zero := #[.int .i64 0]) (t := 3) h (of_decide_eq_true (by kernel_rfl)) (by kernel_rfl) rfl (by kernel_rfl) (by kernel_rfl) Tryz.underlying3
theorem bulk_string {H : Type} (l : List UInt8) : Rows.uptoBulk (.lit (.string l) : DataW H) = l.length + 1 := by unfold Rows.uptoBulk; rfl

end Go.Proofs.YtoejenejleocdabGreatDoor
