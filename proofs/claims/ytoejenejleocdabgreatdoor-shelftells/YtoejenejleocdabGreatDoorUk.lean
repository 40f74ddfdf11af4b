/- The walk of the law TopTwice. -/
import Derived.Test.YtoejenejleocdabGreatDoorUj
import Derived.Test.YtoejenejleocdabGreatDoorJw
namespace Go.Proofs.YtoejenejleocdabGreatDoor
open Go.RowKit Tx
attribute [local irreducible] Bt.pop Bt.popF

theorem endB_yes {l : Wd} (h : Lib.hasSuffix l [10] = true) : endB l = l := by unfold endB; rw [if_pos h]
theorem endB_no {l : Wd} (h : Lib.hasSuffix l [10] = false) : endB l = l ++ [10] := by unfold endB; rw [if_neg (by rw [h]; simp)]
theorem suffix_any (l : Wd) (w : World) (hl : l.length ≤ 1048576) : Calls Tryz.prog 32 #[sv l, .string ⟨#[10]⟩] w fun e w' => e = .returned (.bool (Lib.hasSuffix l [10])) ∧ w = w' := by
  refine (Tryz.strings_HasSuffix ⟨l.toArray⟩ ⟨#[10]⟩ w (by simpa [ByteArray.size] using (by omega : l.length ≤ 9223372036854775807))).mono ?_
  rintro e w' ⟨rfl, rfl⟩
  exact ⟨rfl, rfl⟩

end Go.Proofs.YtoejenejleocdabGreatDoor
