/- What the rows behind the door share: the library's own number has a cell. -/
import Derived.Test.YtebcodbmkphgaaaDoorOpen3
import Derived.Test.YtebcodbmkphgaaaDoorCutFn
import Derived.Test.YtebcodbmkphgaaaDoorCards
import Derived.Test.YtebcodbmkphgaaaDoorTie
import Derived.Deep.DeepHandedRow
namespace Go.Proofs.YtebcodbmkphgaaaDoor
open Go.ChangeShapes Go.WideShapes Go.ChangeAt Go.RowKit

theorem maxL_of {W : World} (h : W.ShapedOpen Tryd.prog) : MaxL W := laysM145.s1_3 W h
end Go.Proofs.YtebcodbmkphgaaaDoor
