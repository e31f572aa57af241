/- What the rows that list the table halfSums share: the table's cells in memory, and one world that fits. -/
import Derived.Test.YtmgppjfohabdmabDoorOpen
import Derived.Test.YtmgppjfohabdmabDoorCrc
import Derived.Test.YtmgppjfohabdmabDoorCards
import Derived.Test.YtmgppjfohabdmabDoorTie
import Derived.Deep.DeepHandedRow
import Derived.Lib.LaidTab
namespace Go.Proofs.YtmgppjfohabdmabDoor
open Go.ChangeShapes Go.WideShapes Go.ChangeAt Go.RowKit

theorem gTab : Tryd.prog.globalNamed "wicket/frame.halfSums" = some 0 := by kernel_rfl
theorem gTabType : (Tryd.prog.globals[0]?).map (·.type) = some 82 := by kernel_rfl
theorem cellsTab : Tryd.prog.cellsOf 82 = 16 := by kernel_rfl
theorem cellsWord : Tryd.prog.cellsOf 67 = 1 := by kernel_rfl

theorem table {W : World} (h : laidMetH Tryd.prog [("wicket/frame.halfSums", Rows.laid_wicket_frame_halfSums)] W) : Lib.TabIs Tryd.prog W "wicket/frame.halfSums" .u32 [0, 498536548, 997073096, 651767980, 1994146192, 1802195444, 1303535960, 1342533948, 3988292384, 4027552580, 3604390888, 3412177804, 2607071920, 2262029012, 2685067896, 3183342108] :=
  Lib.tabIs_of_head (rest := []) gTab gTabType Tryd.underlying82 Tryd.underlying67 cellsWord cellsTab h
theorem tab_int : ∀ j, j < 16 → ([0, 498536548, 997073096, 651767980, 1994146192, 1802195444, 1303535960, 1342533948, 3988292384, 4027552580, 3604390888, 3412177804, 2607071920, 2262029012, 2685067896, 3183342108] : List Int).getD j 0 = ((tab.getD j 0 : Nat) : Int) := by decide
theorem tab_of {W : World} (h : laidMetH Tryd.prog [("wicket/frame.halfSums", Rows.laid_wicket_frame_halfSums)] W) : Tab W := fun j hj => by
  rw [← tab_int j hj]
  exact (table h).cell gTab j (by simpa using hj)
end Go.Proofs.YtmgppjfohabdmabDoor
