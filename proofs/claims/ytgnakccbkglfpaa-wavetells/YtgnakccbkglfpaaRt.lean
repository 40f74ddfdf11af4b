/- SameInts of the reference, of whatever two lists. -/
import Derived.Test.YtgnakccbkglfpaaRs
import Derived.Test.YtgnakccbkglfpaaMm
namespace Go.Proofs.Ytgnakccbkglfpaa
open Go.RowKit

theorem sameInts_ints (A B : Option Addr) (cn cm : Nat) (a b : List Int) (w : World) (ha : IRow w w.heap.size A a) (hb : IRow w w.heap.size B b) (hn : a.length ≤ 9223372036854775807) :
    Calls Try.prog 25 #[.slice A a.length cn, .slice B b.length cm] w fun e w' => e = .returned (.bool (decide (a = b))) ∧ ∃ q, w' = w.drewN q :=
  (sameInts_any A B a.length cn b.length cm (fun k => a.getD k 0) (fun k => b.getD k 0) w ha hb hn).mono fun e w' ⟨r, h1, h2, h3⟩ => ⟨by
    rw [h1]
    congr 1
    congr 1
    rw [Bool.eq_iff_iff, decide_eq_true_eq, h2]
    constructor
    · rintro ⟨e1, e2⟩
      apply List.ext_getElem e1
      intro i hi hj
      have := e2 i hi
      simpa [hi, hj] using this
    · rintro rfl
      exact ⟨rfl, fun _ _ => rfl⟩, h3⟩

end Go.Proofs.Ytgnakccbkglfpaa
