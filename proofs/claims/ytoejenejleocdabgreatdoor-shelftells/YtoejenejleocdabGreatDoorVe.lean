/- What the law ShelfTells calls besides: shelves (one text answers as told); Likely of the shelf of nothing. -/
import Derived.Test.YtoejenejleocdabGreatDoorUe
import Derived.Test.YtoejenejleocdabGreatDoorUm
namespace Go.Proofs.YtoejenejleocdabGreatDoor
open Go.RowKit Tx
attribute [local irreducible] Bt.pop Bt.popF

set_option maxRecDepth 100000 in
set_option maxHeartbeats 2000000 in
theorem shelvesL_any (w : World) (hg : GV w) : Calls Tryz.prog 35 #[] w fun e w' => e = .returned (.bool true) ∧ Below w.heap.size w w' := by
  have H1 : Hid (Calls Tryz.prog 23 #[.string ⟨#[97, 32, 98, 10, 97, 32, 98]⟩] w fun e w' => ∃ s : Sf, e = .returned (.tuple #[s.v, .int .i64 0]) ∧ SH w' [[[97], [98]], [[97], [98]]] s ∧ Below w.heap.size w w') := Lib.hid (by
    have := open_ok ab2 w hg ab2_err
    unfold OpenOK at this
    rw [ab2_lines] at this
    exact this)
  have H2 : Hid (∀ B s W, SHB w B [[[97], [98]], [[97], [98]]] s W → Calls Tryz.prog 30 #[s.v, .string ⟨#[97]⟩] W fun e w' => e = .returned (.tuple #[.string ⟨#[98]⟩, .int .i64 0]) ∧ SHB w B [[[97], [98]], [[97], [98]]] s w') := Lib.hid fun B s W hW => by
    have := guessS_yes _ s [97] [2] W hW.sh (hg.on hW.old) (by simp) (by rw [ab2_bw]; exact ab2_signs)
    rw [ab2_guess] at this
    exact this.mono fun e w' hh => ⟨hh.1, hW.on hh.2⟩
  have H3 : Hid (∀ B s W, SHB w B [[[97], [98]], [[97], [98]]] s W → Calls Tryz.prog 24 #[s.v, .string ⟨#[97, 32, 98]⟩] W fun e w' => e = .returned (.int .i64 2) ∧ SHB w B [[[97], [98]], [[97], [98]]] s w') := Lib.hid fun B s W hW => by
    have := countS_any _ s [97, 32, 98] W hW.sh (hg.on hW.old) (by simp)
    rw [ab2_count] at this
    exact this.mono fun e w' hh => ⟨hh.1, hW.on hh.2⟩
  clear hg
  generalize ([[[97], [98]], [[97], [98]]] : List (List Wd)) = ls at *
  go_enter Tryz.func35, Tryz.ntmps35
  go_wp2_with fail
  with_reducible refine H1.out.mono ?_
  rintro e w1 ⟨s, rfl, hsh, hb1⟩
  have J := SHB.start hsh hb1
  clear H1 hsh hb1
  have HG := Lib.hid (H2.out _ _ _ J)
  clear H2
  go_wp2_with fail
  with_reducible refine HG.out.mono ?_
  rintro e w2 ⟨rfl, J2⟩
  have HC := Lib.hid (H3.out _ _ _ J2)
  obtain ⟨c0, c1, c2, c3, c4, c5, c6⟩ := J2.cells
  clear HG H3 J
  go_wp2_with fail
  with_reducible refine HC.out.mono ?_
  rintro e w3 ⟨rfl, J3⟩
  have hold := J3.old
  clear HC J2 J3
  go_wp2
  go_ret
  exact ⟨by first | rfl | simp, hold⟩

/-- the shelf of nothing, as whatever shelf -/
def rf0 : Rf := ⟨none, 0, 0, none, 0, 0, none, 0, 0, 0, 0, none, 0, 0, none, 0, 0⟩
theorem likelyS_zero (q y : Wd) (w : World) (hg : GV w) (hq : q.length ≤ 1000000000) (hy : y.length ≤ 1000000000) :
    Calls Tryz.prog 29 #[sh0, sv q, sv y] w (SomePE w) :=
  likelyS_raw [] rf0 q y w ⟨fun h => absurd h (by simp), rfl, by decide, rc_zero w, by decide, by decide⟩ hg hq hy

end Go.Proofs.YtoejenejleocdabGreatDoor
