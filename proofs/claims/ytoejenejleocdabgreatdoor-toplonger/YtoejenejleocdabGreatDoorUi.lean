/- The walk of the law TopLonger. -/
import Derived.Test.YtoejenejleocdabGreatDoorUe
namespace Go.Proofs.YtoejenejleocdabGreatDoor
open Go.RowKit Tx
attribute [local irreducible] Bt.pop Bt.popF

set_option maxRecDepth 100000 in
set_option maxHeartbeats 2000000 in
theorem topLonger_err (l a b : Wd) (w : World) (hg : GV w) (he : errB l ≠ 0) :
    Calls Tryz.prog 7 #[sv l, sv a, sv b] w fun e w' => e = .returned (.bool true) ∧ Below w.heap.size w w' := by
  have H1 := Lib.hid (open_err l w hg he)
  have H3 : Hid (∀ W, Below w.heap.size w W → Calls Tryz.prog 25 #[] W fun e w' => e = .returned (.bool true) ∧ Below w.heap.size w w') := Lib.hid fun W hW => (alive_any W (hg.on hW)).mono fun e w' hh => ⟨hh.1, hW.trans (hh.2.mono hW.size)⟩
  generalize errB l = x at *
  have hne : (x != 0) = true := by simpa using he
  clear he hg
  go_enter Tryz.func7, Tryz.ntmps7
  go_wp2_with fail
  with_reducible refine H1.out.mono ?_
  rintro e w1 ⟨rfl, hb1⟩
  have hb2 := hb1.alloc hb1.size obj0
  clear H1
  go_wp2_with fail
  with_reducible refine (H3.out _ hb2).mono ?_
  rintro e w3 ⟨rfl, hb4⟩
  clear H3
  go_wp2
  go_ret
  exact ⟨rfl, hb4⟩

theorem sv_mid (a b : Wd) : Value.string (((⟨a.toArray⟩ : ByteArray) ++ (⟨#[32]⟩ : ByteArray)) ++ (⟨b.toArray⟩ : ByteArray)) = sv (a ++ 32 :: b) := by
  unfold sv
  congr 1
  apply ByteArray.ext
  simp

set_option maxRecDepth 100000 in
set_option maxHeartbeats 2000000 in
theorem topLonger_ok (l a b : Wd) (w : World) (hg : GV w) (ha : a.length ≤ 100000000) (hb : b.length ≤ 100000000) (he : errB l = 0) :
    Calls Tryz.prog 7 #[sv l, sv a, sv b] w fun e w' => e = .returned (.bool true) ∧ Below w.heap.size w w' := by
  have H1 := Lib.hid (open_ok l w hg he)
  unfold OpenOK at H1
  generalize linesOf l = ls at *
  have HC : Hid (∀ q : Wd, q.length ≤ 1000000000 → ∀ B s W, SHB w B ls s W → Calls Tryz.prog 24 #[s.v, sv q] W fun e w' => e = .returned (.int .i64 (cntW ls q : Nat)) ∧ SHB w B ls s w') := Lib.hid fun q hq B s W hW => (countS_any ls s q W hW.sh (hg.on hW.old) hq).mono fun e w' hh => ⟨hh.1, hW.on hh.2⟩
  have H2 := Lib.hid (HC.out (a ++ 32 :: b) (by simp; omega))
  have H3 := Lib.hid (HC.out a (by omega))
  have H5 := Lib.hid (HC.out b (by omega))
  have H4 : Hid (∀ B s W, SHB w B ls s W → Calls Tryz.prog 25 #[] W fun e w' => e = .returned (.bool true) ∧ SHB w B ls s w') := Lib.hid fun B s W hW => (alive_any W (hg.on hW.old)).mono fun e w' hh => ⟨hh.1, hW.on hh.2⟩
  obtain ⟨l1, l2⟩ := cnt_longer ls a b
  rw [← sv_mid] at H2
  clear hg he HC
  generalize cntW ls (a ++ 32 :: b) = n at *
  generalize cntW ls a = n1 at *
  generalize cntW ls b = n2 at *
  have z1 : (n : Int) ≤ (n1 : Int) := by omega
  have z2 : (n : Int) ≤ (n2 : Int) := by omega
  go_enter Tryz.func7, Tryz.ntmps7
  go_wp2_with fail
  with_reducible refine H1.out.mono ?_
  rintro e w1 ⟨s, rfl, hsh, hb1⟩
  have J := SHB.start hsh hb1
  clear H1 hsh hb1
  have H2i := Lib.hid (H2.out _ _ _ J)
  clear H2
  go_wp2_with fail
  with_reducible refine H2i.out.mono ?_
  rintro e w2 ⟨rfl, J2⟩
  clear H2i J
  generalize w1.heap.size = B at J2 ⊢
  have H3i := Lib.hid (H3.out _ _ _ J2)
  clear H3
  obtain ⟨c0, c1, c2, c3, c4, c5, c6⟩ := J2.cells
  go_wp2_with fail
  with_reducible refine H3i.out.mono ?_
  rintro e w3 ⟨rfl, J3⟩
  clear H3i J2 c0 c1 c2 c3 c4 c5 c6
  have H5i := Lib.hid (H5.out _ _ _ J3)
  clear H5
  obtain ⟨c0, c1, c2, c3, c4, c5, c6⟩ := J3.cells
  go_wp2_with fail
  with_reducible refine H5i.out.mono ?_
  rintro e w4 ⟨rfl, J4⟩
  clear H5i J3 c0 c1 c2 c3 c4 c5 c6
  have H4i := Lib.hid (H4.out _ _ _ J4)
  clear H4
  go_wp2_with fail
  with_reducible refine H4i.out.mono ?_
  rintro e w5 ⟨rfl, J5⟩
  have hold := J5.old
  clear H4i J4 J5
  go_wp2
  go_ret
  exact ⟨by first | rfl | simp, hold⟩

theorem topLonger_any (s a b : ByteArray) (w : World) (hg : GV w) (_ : s.data.toList.length ≤ 1048576) (ha : a.data.toList.length ≤ 1048576) (hb : b.data.toList.length ≤ 1048576) :
    Calls Tryz.prog 7 #[.string s, .string a, .string b] w fun e w' => e = .returned (.bool true) ∧ Below w.heap.size w w' := by
  have e1 : Value.string s = sv s.data.toList := by unfold sv; rw [toArray_data]
  have e2 : Value.string a = sv a.data.toList := by unfold sv; rw [toArray_data]
  have e3 : Value.string b = sv b.data.toList := by unfold sv; rw [toArray_data]
  rw [e1, e2, e3]
  by_cases he : errB s.data.toList = 0
  · exact topLonger_ok _ _ _ w hg (by omega) (by omega) he
  · exact topLonger_err _ _ _ w hg he

end Go.Proofs.YtoejenejleocdabGreatDoor
