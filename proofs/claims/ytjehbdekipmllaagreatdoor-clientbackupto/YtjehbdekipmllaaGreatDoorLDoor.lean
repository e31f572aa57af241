/- What the rows behind the door share: the library's own number has a cell. -/
import Derived.Test.YtjehbdekipmllaaGreatDoorOpen3
import Derived.Test.YtjehbdekipmllaaGreatDoorXCut
import Derived.Test.YtjehbdekipmllaaGreatDoorCards
import Derived.Test.YtjehbdekipmllaaGreatDoorTie
import Derived.Deep.DeepHandedRow
namespace Go.Proofs.YtjehbdekipmllaaGreatDoor
open Go.ChangeShapes Go.WideShapes Go.ChangeAt Go.RowKit

theorem maxL_of {W : World} (h : W.ShapedOpen Tryz.prog) : MaxL W := laysM145.s1_3 W h
end Go.Proofs.YtjehbdekipmllaaGreatDoor
