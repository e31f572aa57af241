/- What the rows behind the door share: the library's own number has a cell. -/
import Derived.Test.YtghmabohodnbpaaGreatDoorOpen3
import Derived.Test.YtghmabohodnbpaaGreatDoorXCut
import Derived.Test.YtghmabohodnbpaaGreatDoorCards
import Derived.Test.YtghmabohodnbpaaGreatDoorTie
import Derived.Deep.DeepHandedRow
namespace Go.Proofs.YtghmabohodnbpaaGreatDoor
open Go.ChangeShapes Go.WideShapes Go.ChangeAt Go.RowKit

theorem maxL_of {W : World} (h : W.ShapedOpen Tryz.prog) : MaxL W := laysM145.s1_3 W h
end Go.Proofs.YtghmabohodnbpaaGreatDoor
