/- Make: the wave of numbers that fit, or nothing. -/
import Derived.Test.YtgnakccbkglfpaaWr
namespace Go.Proofs.Ytgnakccbkglfpaa
open Go.RowKit
attribute [local irreducible] Bt.pop Bt.popF

/-- three cells of a wave -/
def wvF (N d : Int) (v : Value) : Nat → Value := fun j => if j = 0 then .int .i64 N else if j = 1 then .int .i64 d else v
theorem wvF_alloc (w : World) (N d : Int) (v : Value) : (w.alloc (.cells #[.int .i64 N, .int .i64 d, v] 45)).rowIs w.heap.size 45 3 (wvF N d v) := World.rowIs_alloc _ _ _ _ (fun i hi => by
  match i, hi with
  | 0, _ => rfl
  | 1, _ => rfl
  | 2, _ => rfl)

theorem insB_wrap (d : Nat) (l : List Nat) (h16 : d ≤ 16) (hf : ∀ n ∈ l, n < 2 ^ d) : insB (wrap64 (2 ^ d)) (l.map fun (n : Nat) => (n : Int)) = true := by
  rw [wrap_pow d h16, show (2 : Int) ^ d = ((2 ^ d : Nat) : Int) from by simp]
  exact insB_of _ l hf

set_option maxHeartbeats 1000000 in
theorem make_deep (A : Option Addr) (n c : Nat) (d : Int) (w : World) (h : deepOk d = false) :
    Calls Try.prog 36 #[.slice A n c, .int .i64 d] w fun e w' => e = .returned (.tuple #[.agg #[.int .i64 0, .int .i64 0, .slice none 0 0], .bool false]) ∧ Below w.heap.size w w' := by
  have HM := Lib.hid (fun W => mayBeDeep_any d W)
  rw [h] at HM
  clear h
  have hb0 : Below w.heap.size w ((w.alloc (.cells #[.int .i64 d] 3)).alloc (.cells #[.int .i64 0, .int .i64 0, .slice none 0 0] 45)) := ((Below.refl _ _).alloc (Nat.le_refl _) _).alloc (by simp) _
  go_enter Try.func36, Try.ntmps36
  go_wp2_with fail
  with_reducible refine (HM.out _).mono ?_
  rintro e w' ⟨rfl, rfl⟩
  go_wp2
  refine bodyPost_ret (v := .tuple #[.agg #[.int .i64 0, .int .i64 0, .slice none 0 0], .bool false]) (by simp [results, Try.results36, go_sem]) rfl ⟨rfl, ?_⟩
  exact hb0

set_option maxHeartbeats 1000000 in
theorem make_out (A : Option Addr) (c : Nat) (l : List Int) (d : Nat) (w : World) (hr : IRow w w.heap.size A l) (hn : l.length < 4611686018427387904) (h1 : 1 ≤ d) (h16 : d ≤ 16) (h : insB (wrap64 (2 ^ d)) l = false) :
    Calls Try.prog 36 #[.slice A l.length c, .int .i64 d] w fun e w' => e = .returned (.tuple #[.agg #[.int .i64 0, .int .i64 0, .slice none 0 0], .bool false]) ∧ Below w.heap.size w w' := by
  have HM := Lib.hid (fun W => mayBeDeep_any d W)
  rw [deepOk_yes d (by omega) (by omega)] at HM
  have HA : Hid (∀ W, Below w.heap.size w W → Calls Try.prog 67 #[.slice A l.length c, .int .i64 (wrap64 (2 ^ d))] W fun e w' => e = .returned (.bool false) ∧ Below W.heap.size W w') := Lib.hid fun W hW => by
    have := allBelow_any A c l (wrap64 (2 ^ d)) W (hr.on hW) hn
    rwa [h] at this
  clear h hr
  generalize l.length = n at *
  have hb0 : Below w.heap.size w ((w.alloc (.cells #[.int .i64 d] 3)).alloc (.cells #[.int .i64 0, .int .i64 0, .slice none 0 0] 45)) := ((Below.refl _ _).alloc (Nat.le_refl _) _).alloc (by simp) _
  have hR := wvF_alloc (w.alloc (.cells #[.int .i64 d] 3)) 0 0 (.slice none 0 0)
  rw [World.size_alloc] at hR
  obtain ⟨V, hV⟩ : ∃ V, V = ((w.alloc (.cells #[.int .i64 d] 3)).alloc (.cells #[.int .i64 0, .int .i64 0, .slice none 0 0] 45)) := ⟨_, rfl⟩
  rw [← hV] at hb0 hR
  have HV := Lib.hid hV
  clear hV
  go_enter Try.func36, Try.ntmps36
  go_wp2_with fail
  with_reducible refine (HM.out _).mono ?_
  rintro e w' ⟨rfl, rfl⟩
  go_wp2_with fail
  rw [← HV.out]
  with_reducible refine (HA.out V hb0).mono ?_
  rintro e w1 ⟨rfl, hb1⟩
  have hR1 := hR.of_block (hb1.block _ hR.lt)
  have r0 : w1.cell? ⟨w.heap.size + 1, 0, none⟩ = some (.int .i64 0) := hR1.cell (by omega)
  have r1 : w1.cell? ⟨w.heap.size + 1, 1, none⟩ = some (.int .i64 0) := hR1.cell (by omega)
  have r2 : w1.cell? ⟨w.heap.size + 1, 2, none⟩ = some (.slice none 0 0) := hR1.cell (by omega)
  have f0 := hR1.frozen 0
  have f1 := hR1.frozen 1
  have f2 := hR1.frozen 2
  have hb2 := hb0.trans (hb1.mono hb0.size)
  have HR := Lib.hid (((hR1.set 0 (.int .i64 0)).set 1 (.int .i64 0)).set 2 (.slice none 0 0))
  clear HA HM hR hb0 hb1 HV
  go_wp2
  have s0 := HR.out.cell (i := 0) (by omega)
  have s1 := HR.out.cell (i := 1) (by omega)
  have s2 := HR.out.cell (i := 2) (by omega)
  simp at s0 s1 s2
  refine bodyPost_ret (v := .tuple #[.agg #[.int .i64 0, .int .i64 0, .slice none 0 0], .bool false]) (by simp [results, Try.results36, go_sem, s0, s1, s2]) rfl ⟨rfl, ?_⟩
  exact ((hb2.setCell (by simp) _).setCell (by simp) _).setCell (by simp) _

/-- the memory of Make -/
structure MI (w : World) (X : Nat) (l : List Nat) (d k : Nat) (v : Value) (xs : List Value) (W : World) : Prop where
  dc : W.cell? ⟨w.heap.size, 0, none⟩ = some (.int .i64 d)
  res : W.rowIs (w.heap.size + 1) 45 3 (wvF 0 0 (.slice none 0 0))
  box : W.rowIs X 45 3 (wvF l.length d v)
  lv : LvO (X + 1) l d k v xs W
  old : Below w.heap.size w W
  x0 : w.heap.size + 2 ≤ X
section
variable {w : World} {X : Nat} {l : List Nat} {d k : Nat} {v : Value} {xs : List Value} {W W' : World}
theorem MI.on (h : MI w X l d k v xs W) (hb : Below W.heap.size W W') : MI w X l d k v xs W' :=
  ⟨(hb.cell (p := ⟨w.heap.size, 0, none⟩) (by have := h.res.lt; show w.heap.size < W.heap.size; omega)).trans h.dc, h.res.of_block (hb.block _ h.res.lt), h.box.of_block (hb.block _ h.box.lt), h.lv.on hb, h.old.trans (hb.mono h.old.size), h.x0⟩
/-- the wave's block behind an append to the levels -/
theorem MI.far (h : MI w X l d k v xs W) (hg : W.grownBy W' v.ownBlock) : W'.rowIs X 45 3 (wvF l.length d v) :=
  h.box.of_block (hg.block _ h.box.lt (fun e => by have := (h.lv.own.lt X e.symm).1; omega))
/-- behind an append to the levels, and the store of what it gives -/
theorem MI.app (h : MI w X l d k v xs W) {v' : Value} {xs' : List Value} (hg : W.grownBy W' v.ownBlock) (hlv : LvO (X + 1) l d (k + 1) v' xs' W') : MI w X l d (k + 1) v' xs' (W'.setCell ⟨X, 2, none⟩ v') := by
  have hx := h.x0
  have far : ∀ j, j ≤ X → some j ≠ v.ownBlock := fun j hj e => by have := (h.lv.own.lt j e.symm).1; omega
  have hlt := h.box.lt
  have hres := h.res.of_block (hg.block _ h.res.lt (far _ (by omega)))
  have hbox := h.box.of_block (hg.block _ h.box.lt (far _ (by omega)))
  have hdc : W'.cell? ⟨w.heap.size, 0, none⟩ = some (.int .i64 d) := (hg.cell_far ⟨w.heap.size, 0, none⟩ (by show w.heap.size < W.heap.size; omega) (far _ (by show w.heap.size ≤ X; omega))).trans h.dc
  have hold := h.old.grown hg h.old.size (fun g hgo => by have := (h.lv.own.lt g hgo).1; omega)
  have hbs : Below X W' (W'.setCell ⟨X, 2, none⟩ v') := (Below.refl _ _).setCell (by simp) _
  refine ⟨?_, hres.setOther (by simp; omega) _, (hbox.set 2 v').congr (fun i hi => ?_), ?_, hold.setCell (by simp; omega) _, hx⟩
  · exact (hbs.cell (p := ⟨w.heap.size, 0, none⟩) (by show w.heap.size < X; omega)).trans hdc
  · match i, hi with
    | 0, _ => rfl
    | 1, _ => rfl
    | 2, _ => rfl
  · refine ⟨ownsRow_setCell_below hlv.own (by simp) _, fun j hj => ?_⟩
    obtain ⟨g, g2, c1, c2, p1, p2, q1, q2, q3, q4, q5⟩ := hlv.each j hj
    exact ⟨g, g2, c1, c2, p1, p2, q1, q2, q3, q4.set ⟨X, 2, none⟩ v' (by simp; omega) (by simp; omega), q5⟩
end

end Go.Proofs.Ytgnakccbkglfpaa
