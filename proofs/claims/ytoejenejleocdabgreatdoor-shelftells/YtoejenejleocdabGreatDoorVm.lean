/- The walk of the law ShelfTells. -/
import Derived.Test.YtoejenejleocdabGreatDoorVl
namespace Go.Proofs.YtoejenejleocdabGreatDoor
open Go.RowKit Tx

theorem shelfTells_any (s q o : ByteArray) (w : World) (hg : GV w) (_ : s.data.toList.length ≤ 1048576) (hq : q.data.toList.length ≤ 1048576) (ho : o.data.toList.length ≤ 1048576) :
    Calls Tryz.prog 11 #[.string s, .string q, .string o] w fun e w' => e = .returned (.bool true) ∧ Below w.heap.size w w' := by
  have e1 : Value.string s = sv s.data.toList := by unfold sv; rw [toArray_data]
  have e2 : Value.string q = sv q.data.toList := by unfold sv; rw [toArray_data]
  have e3 : Value.string o = sv o.data.toList := by unfold sv; rw [toArray_data]
  rw [e1, e2, e3]
  by_cases he : errB s.data.toList = 0
  · cases hn : sgn (Tx.bw (linesOf s.data.toList)) q.data.toList with
    | none => exact shelfTells_none _ _ _ w hg hq ho he hn
    | some t => exact shelfTells_some _ _ _ t w hg hq ho he hn
  · exact shelfTells_err _ _ _ w hg hq ho he

end Go.Proofs.YtoejenejleocdabGreatDoor
