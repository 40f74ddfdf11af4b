/- 'combs' of the second package: of one list comb answers as told. -/
import Derived.Test.YtelapijdpcoekaaGreatJi
namespace Go.Proofs.YtelapijdpcoekaaGreat
open Go.RowKit
attribute [local irreducible] Bt.pop Bt.popF

set_option maxHeartbeats 1000000 in
theorem combsL_any (w : World) : Calls Tryz.prog 5 #[] w fun e w' => e = .returned (.bool true) ∧ Below w.heap.size w w' := by
  have HM := Lib.hid (make_five w)
  go_enter Tryz.func5, Tryz.ntmps5
  go_wp2_with fail
  with_reducible refine (HM.out _ rfl).mono ?_
  rintro e w1 ⟨E, L, S, cE, cL, cS, rfl, hE, hL, hC, hb⟩
  have J0 : CB w w1.heap.size E L S cE cL cS 5 4 [2, 1, 2, 1, 0] (w1.alloc (.cells #[.slice E 5 cE, .int .i64 5, .int .i64 10, .slice L 10 cL, .slice S 4 cS] 29)) := CB.start hC rfl (by rw [five_most]) hE hL hb 29
  have J := J0.on ((Below.refl _ _).alloc (Nat.le_refl _) (.cells #[.int .i64 2, .int .i64 1] 3))
  have hrow := irow_new (w1.alloc (.cells #[.slice E 5 cE, .int .i64 5, .int .i64 10, .slice L 10 cL, .slice S 4 cS] 29)) [2, 1] 3
  have HC : Hid (Calls Tryz.prog 11 #[.agg #[.slice E 5 cE, .int .i64 5, .int .i64 10, .slice L 10 cL, .slice S 4 cS], .slice (some ⟨w1.heap.size + 1, 0, none⟩) 2 2] ((w1.alloc (.cells #[.slice E 5 cE, .int .i64 5, .int .i64 10, .slice L 10 cL, .slice S 4 cS] 29)).alloc (.cells #[.int .i64 2, .int .i64 1] 3)) fun e w' => e = .returned (.int .i64 2) ∧ CB w w1.heap.size E L S cE cL cS 5 4 [2, 1, 2, 1, 0] w') := Lib.hid (by
    have h := J.countS _ 2 2 [2, 1] rfl hrow (by omega) (by omega)
    rw [five_two, World.size_alloc] at h
    exact h)
  have HP : Hid (∀ W, CB w w1.heap.size E L S cE cL cS 5 4 [2, 1, 2, 1, 0] W → Calls Tryz.prog 14 #[.agg #[.slice E 5 cE, .int .i64 5, .int .i64 10, .slice L 10 cL, .slice S 4 cS], .slice (some ⟨W.heap.size, 0, none⟩) 1 1] (W.alloc (.cells #[.int .i64 1] 3)) fun e w' => ∃ X cx, e = .returned (.slice X 2 cx) ∧ CB w w1.heap.size E L S cE cL cS 5 4 [2, 1, 2, 1, 0] w') := Lib.hid fun W h => by
    have h2 := (h.on ((Below.refl _ _).alloc (Nat.le_refl _) (.cells #[.int .i64 1] 3))).placesS _ 1 1 [1] rfl (irow_new W [1] 3) (by omega) (by omega)
    rw [five_one] at h2
    refine h2.mono ?_
    rintro e w' ⟨X, cx, h3, _, _, h4⟩
    exact ⟨X, cx, h3, h4⟩
  clear HM hC hb hrow
  go_wp2_with fail
  with_reducible refine HC.out.mono ?_
  rintro e w2 ⟨rfl, J2⟩
  clear HC J J0
  have c0 := J2.c0
  have c1 := J2.c1
  have c2 := J2.c2
  have c3 := J2.c3
  have c4 := J2.c4
  go_wp2_with fail
  with_reducible refine (HP.out _ J2).mono ?_
  rintro e w3 ⟨X, cx, rfl, J3⟩
  have hold := J3.old
  clear HP J2 c0 c1 c2 c3 c4 J3
  go_wp2
  go_ret
  exact ⟨rfl, hold⟩

end Go.Proofs.YtelapijdpcoekaaGreat
