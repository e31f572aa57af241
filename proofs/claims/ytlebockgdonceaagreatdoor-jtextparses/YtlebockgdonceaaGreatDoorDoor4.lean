/- What the rows of this layer share: the library's tables, as the program's text lays them. -/
import Derived.Test.YtlebockgdonceaaGreatDoorOpen3
import Derived.Test.YtlebockgdonceaaGreatDoorKShape
import Derived.Test.YtlebockgdonceaaGreatDoorKPBuild
import Derived.Test.YtlebockgdonceaaGreatDoorCards
import Derived.Test.YtlebockgdonceaaGreatDoorTie
import Derived.Deep.DeepHandedRow
import Derived.Lib.LaidU8T
import Derived.Lib.LaidTab
namespace Go.Proofs.YtlebockgdonceaaGreatDoor
open Go.ChangeShapes Go.WideShapes Go.ChangeAt Go.RowKit

theorem first_data : Rows.laid_unicode_utf8_first = Lib.firstData := by kernel_rfl
theorem accept_data : (Rows.laid_unicode_utf8_acceptRanges : DataW Unit) = Lib.acceptData := by kernel_rfl
theorem tabs_of {W : World} {l : List (String × DataW Unit)} (h : laidMet Tryz.prog l W) (h1 : ("unicode/utf8.first", Rows.laid_unicode_utf8_first) ∈ l) (h2 : ("unicode/utf8.acceptRanges", Rows.laid_unicode_utf8_acceptRanges) ∈ l) : Tabs W :=
  utf8Tabs_of_readsT (ρ := lays196_ren) (U8Types.of196 lays196) ⟨by kernel_rfl, by kernel_rfl, by kernel_rfl, by kernel_rfl, by kernel_rfl, by kernel_rfl, by kernel_rfl⟩ (by rw [← first_data]; exact Lib.laidMet.reads h h1) (by rw [← accept_data]; exact Lib.laidMet.reads h h2)
def Z64 : List Int := [0, 1, 56, 2, 57, 49, 28, 3, 61, 58, 42, 50, 38, 29, 17, 4, 62, 47, 59, 36, 45, 43, 51, 22, 53, 39, 33, 30, 24, 18, 12, 5, 63, 55, 48, 27, 60, 41, 37, 16, 46, 35, 44, 21, 52, 32, 23, 11, 54, 26, 40, 15, 34, 20, 31, 10, 25, 14, 19, 9, 13, 8, 7, 6]
theorem data64 : (Rows.laid_math_bits_deBruijn64tab : DataW Unit) = Lib.tabData .u8 Z64 := by kernel_rfl
theorem zt_of {W : World} {l : List (String × DataW Unit)} (h : laidMet Tryz.prog l W) (h1 : ("math/bits.deBruijn64tab", Rows.laid_math_bits_deBruijn64tab) ∈ l) : ZT W := by
  obtain ⟨g, t, cs, fuel, p, e1, e2, e3, e4⟩ := Lib.laidMet.reads h h1
  have hg : Tryz.prog.globalNamed "math/bits.deBruijn64tab" = some 5 := by kernel_rfl
  have ht : (Tryz.prog.globals[5]?).map (·.type) = some 167 := by kernel_rfl
  obtain rfl : g = 5 := Option.some.inj (e1.symm.trans hg)
  obtain rfl : t = 167 := Option.some.inj (e2.symm.trans ht)
  rw [data64] at e4
  have hc := Lib.cells_of_tab Tryz.underlying167 Tryz.underlying5 (by kernel_rfl) (by kernel_rfl) e4
  have ht : Lib.TabIs Tryz.prog W "math/bits.deBruijn64tab" .u8 Z64 := by unfold Lib.TabIs; rw [e3, ← hc]
  exact ht.cell hg 15 (by decide)
theorem zt_size {W : World} (h : ZT W) : 6 ≤ W.heap.size := World.block_lt_of_cell? W _ h
end Go.Proofs.YtlebockgdonceaaGreatDoor
