/- The walk of the law TopSpaces. -/
import Derived.Test.YtoejenejleocdabGreatDoorUe
import Derived.Test.YtoejenejleocdabGreatDoorRh
namespace Go.Proofs.YtoejenejleocdabGreatDoor
open Go.RowKit Tx
attribute [local irreducible] Bt.pop Bt.popF

/-- two shelves in blocks of their own -/
structure S2 (w : World) (ls1 : List (List Wd)) (B1 : Nat) (s1 : Sf) (ls2 : List (List Wd)) (B2 : Nat) (s2 : Sf) (W : World) : Prop where
  a : SHB w B1 ls1 s1 W
  b : SHB w B2 ls2 s2 W
theorem S2.on {w : World} {ls1 : List (List Wd)} {B1 : Nat} {s1 : Sf} {ls2 : List (List Wd)} {B2 : Nat} {s2 : Sf} {W W' : World} (h : S2 w ls1 B1 s1 ls2 B2 s2 W) (hb : Below W.heap.size W W') : S2 w ls1 B1 s1 ls2 B2 s2 W' := ⟨h.a.on hb, h.b.on hb⟩

end Go.Proofs.YtoejenejleocdabGreatDoor
