/- append(own, x...), x a row of whatever length, as one operation: in a region of whatever order. No program is named here. -/
import Derived.Test.YtoejenejleocdabGreatDoorJb
namespace Go.Proofs.YtoejenejleocdabGreatDoor
open Go.RowKit

section
variable {P : Program}
end

end Go.Proofs.YtoejenejleocdabGreatDoor
