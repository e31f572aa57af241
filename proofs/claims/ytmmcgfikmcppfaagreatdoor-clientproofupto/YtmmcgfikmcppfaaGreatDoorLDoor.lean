/- What the rows behind the door share: the library's own number has a cell. -/
import Derived.Test.YtmmcgfikmcppfaaGreatDoorOpen3
import Derived.Test.YtmmcgfikmcppfaaGreatDoorXCut
import Derived.Test.YtmmcgfikmcppfaaGreatDoorCards
import Derived.Test.YtmmcgfikmcppfaaGreatDoorTie
import Derived.Deep.DeepHandedRow
namespace Go.Proofs.YtmmcgfikmcppfaaGreatDoor
open Go.ChangeShapes Go.WideShapes Go.ChangeAt Go.RowKit

theorem maxL_of {W : World} (h : W.ShapedOpen Tryz.prog) : MaxL W := laysM145.s1_3 W h
end Go.Proofs.YtmmcgfikmcppfaaGreatDoor
