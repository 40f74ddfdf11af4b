/- greatest and weight of package guess, of an index that Make has made. -/
import Derived.Test.YtffhphcgmgkgbabGreatDoorGc
import Derived.Test.YtffhphcgmgkgbabGreatDoorJi
namespace Go.Proofs.YtffhphcgmgkgbabGreatDoor
open Go.RowKit
attribute [local irreducible] Bt.pop Bt.popF

theorem greatest_any (E L S : Option Addr) (nE cE N : Nat) (D : Int) (nL cL m cS : Nat) (w : World) (hm : m < 4611686018427387904) :
    Calls Tryz.prog 24 #[.agg #[.slice E nE cE, .int .i64 N, .int .i64 D, .slice L nL cL, .slice S (m + 2) cS]] w fun e w' => e = .returned (.int .i64 (m : Nat)) ∧ Below w.heap.size w w' := by
  have hz : ((m + 2 : Nat) : Int) - 2 = (m : Int) := by omega
  have HZ := Lib.hid hz
  clear hz
  go_enter Tryz.func24, Tryz.ntmps24
  go_wp2
  go_ret
  exact ⟨rfl, (Below.refl _ _).alloc (Nat.le_refl _) _⟩

section
variable {w0 : World} {B : Nat} {E L S : Option Addr} {cE cL cS N M : Nat} {l : List Int} {W : World}
theorem CB.greatest (h : CB w0 B E L S cE cL cS N M l W) : Calls Tryz.prog 24 #[.agg #[.slice E N cE, .int .i64 N, .int .i64 10, .slice L 10 cL, .slice S M cS]] W fun e w' => e = .returned (.int .i64 (En.most l : Nat)) ∧ Below W.heap.size W w' := by
  rw [h.num]
  exact greatest_any E L S N cE N 10 10 cL (En.most l) cS W (by have := h.cmb.fit; omega)
end

set_option maxHeartbeats 1000000 in
theorem weight_any (E L S A : Option Addr) (cE cL cS N M c : Nat) (l s : List Int) (x : Nat) (w : World) (h : Cmb w E L S l) (hN : N = l.length) (hM : M = En.most l + 2) (hE : N ≤ cE) (hL : 10 ≤ cL) (hr : IRow w w.heap.size A (s ++ [((x : Nat) : Int)])) (hcap : s.length + 1 ≤ c) (hs : s.length ≤ 2) :
    Calls Tryz.prog 57 #[.agg #[.slice E N cE, .int .i64 N, .int .i64 10, .slice L 10 cL, .slice S M cS], .slice A (s.length + 1) c] w fun e w' => e = .returned (.int .i64 (Pt.wt l s x : Nat)) ∧ Below w.heap.size w w' := by
  have J : CB w w.heap.size E L S cE cL cS N M l _ := CB.start h hN hM hE hL (Below.refl _ _) 33
  have hrb := hr.on ((Below.refl _ w).alloc (Nat.le_refl _) (.cells #[.slice E N cE, .int .i64 N, .int .i64 10, .slice L 10 cL, .slice S M cS] 33))
  have e1 : (s ++ [((x : Nat) : Int)]).length = s.length + 1 := by simp
  have HC := Lib.hid (count_any E L S A cE cL cS N M c l (s ++ [((x : Nat) : Int)]) _ J.cmb hN hM hE hL hrb (by omega) (by omega))
  have HB := Lib.hid (befores_any E L S A cE cL cS N M c l (s ++ [((x : Nat) : Int)]) _ J.cmb hN hM hE hL hrb (by omega) (by omega))
  rw [e1] at HC HB
  unfold Pt.wt
  have HU := Lib.hid (up_len (En.bfr l (s ++ [((x : Nat) : Int)])))
  have Ho := Lib.hid J.old
  clear h hN hM hr hrb J e1
  generalize (En.plc l (s ++ [((x : Nat) : Int)])).length = m at *
  generalize En.bfr l (s ++ [((x : Nat) : Int)]) = K at *
  by_cases h2 : 2 ≤ s.length
  · have hz : (2 : Int) < ((s.length + 1 : Nat) : Int) := by omega
    rw [if_pos h2]
    generalize s.length + 1 = n at *
    go_enter Tryz.func57, Tryz.ntmps57
    go_wp2_with fail
    with_reducible refine HC.out.mono ?_
    rintro e w1 ⟨rfl, hb1⟩
    clear HC HB
    go_wp2
    go_ret
    exact ⟨rfl, Ho.out.trans (hb1.mono Ho.out.size)⟩
  · have hz : ¬ ((2 : Int) < ((s.length + 1 : Nat) : Int)) := by omega
    rw [if_neg h2]
    generalize s.length + 1 = n at *
    go_enter Tryz.func57, Tryz.ntmps57
    go_wp2_with fail
    with_reducible refine HB.out.mono ?_
    rintro e w1 ⟨X, cx, rfl, _, hb1⟩
    clear HC HB
    rw [HU.out]
    go_wp2
    go_ret
    exact ⟨rfl, Ho.out.trans (hb1.mono Ho.out.size)⟩

end Go.Proofs.YtffhphcgmgkgbabGreatDoor
