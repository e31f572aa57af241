/- What the rows behind the door share: the library's own number has a cell. -/
import Derived.Test.YtebcodbmkphgaabDoorOpen3
import Derived.Test.YtebcodbmkphgaabDoorCutFn
import Derived.Test.YtebcodbmkphgaabDoorCards
import Derived.Test.YtebcodbmkphgaabDoorTie
import Derived.Deep.DeepHandedRow
namespace Go.Proofs.YtebcodbmkphgaabDoor
open Go.ChangeShapes Go.WideShapes Go.ChangeAt Go.RowKit

theorem maxL_of {W : World} (h : W.ShapedOpen Tryd.prog) : MaxL W := laysM145.s1_3 W h
end Go.Proofs.YtebcodbmkphgaabDoor
