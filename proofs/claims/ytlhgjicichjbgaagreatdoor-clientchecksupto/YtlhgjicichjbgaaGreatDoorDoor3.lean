/- What the rows behind the door share: the library's own number has a cell. -/
import Derived.Test.YtlhgjicichjbgaaGreatDoorOpen3
import Derived.Test.YtlhgjicichjbgaaGreatDoorCutFn
import Derived.Test.YtlhgjicichjbgaaGreatDoorCards
import Derived.Test.YtlhgjicichjbgaaGreatDoorTie
import Derived.Deep.DeepHandedRow
namespace Go.Proofs.YtlhgjicichjbgaaGreatDoor
open Go.ChangeShapes Go.WideShapes Go.ChangeAt Go.RowKit

theorem maxL_of {W : World} (h : W.ShapedOpen Tryz.prog) : MaxL W := laysM145.s1_3 W h
end Go.Proofs.YtlhgjicichjbgaaGreatDoor
