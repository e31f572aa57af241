/- What the rows that list the table of letters share: the table's cells in memory. -/
import Derived.Test.YtonnnolnkjahgabDoorOpen
import Derived.Test.YtonnnolnkjahgabDoorCLet
import Derived.Test.YtonnnolnkjahgabDoorCards
import Derived.Test.YtonnnolnkjahgabDoorTie
import Derived.Deep.DeepHandedRow
import Derived.Lib.LaidTab
import Derived.LaidSub
namespace Go.Proofs.YtonnnolnkjahgabDoor
open Go.ChangeShapes Go.WideShapes Go.ChangeAt Go.RowKit

theorem gLet : Tryd.prog.globalNamed "wicket/codes.letters" = some 0 := by kernel_rfl
theorem gLetType : (Tryd.prog.globals[0]?).map (·.type) = some 55 := by kernel_rfl
theorem cellsLets : Tryd.prog.cellsOf 55 = 20 := by kernel_rfl
theorem cellsByte : Tryd.prog.cellsOf 5 = 1 := by kernel_rfl
def letsI : List Int := [66, 67, 68, 70, 71, 72, 74, 75, 76, 77, 78, 80, 81, 82, 83, 84, 86, 87, 88, 90]
theorem lets_int : ∀ j, j < 20 → letsI.getD j 0 = ((lets.getD j 0 : Nat) : Int) := by decide
theorem lets_of {W : World} {rest : List (String × DataW Unit)} (h : laidMet Tryd.prog (("wicket/codes.letters", Rows.laid_wicket_codes_letters) :: rest) W) : Lets W := fun j hj => by
  have ht : Lib.TabIs Tryd.prog W "wicket/codes.letters" .u8 letsI := Lib.tabIs_of_head (rest := rest) gLet gLetType Tryd.underlying55 Tryd.underlying5 cellsByte cellsLets h
  rw [← lets_int j hj]
  exact ht.cell gLet j (by simpa [letsI] using hj)
end Go.Proofs.YtonnnolnkjahgabDoor
