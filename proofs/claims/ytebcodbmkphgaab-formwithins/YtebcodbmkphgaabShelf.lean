/- The library's functions that the program calls, found in the program's translation by the shelf's own command: the layings alone. -/
import Derived.Shelf.Slices.Turned
import Derived.Test.YtebcodbmkphgaabProg
namespace Go.Proofs.Ytebcodbmkphgaab
open Go.Shelf
def lays110_ren : Go.Shelf.Ren := ⟨fun | 110 => 7 | 109 => 8 | n => n, fun | 31 => 22 | 9 => 9 | 4 => 4 | 3 => 3 | 0 => 0 | n => n, fun | n => n⟩
theorem lays110 : Go.Proofs.Lays.n110 Try.prog lays110_ren := {
  mixed := by kernel_rfl
  f109 := Try.func8.trans (congrArg some (by kernel_rfl))
  f110 := Try.func7.trans (congrArg some (by kernel_rfl))
  t0 := Try.underlying0
  a0 := Try.isAgg0
  z0 := Try.sizeOf0
  v0 := Try.zeroValue0
  t3 := Try.underlying3
  a3 := Try.isAgg3
  z3 := Try.sizeOf3
  v3 := Try.zeroValue3
  t4 := Try.underlying4
  a4 := Try.isAgg4
  z4 := Try.sizeOf4
  v4 := Try.zeroValue4
  t9 := Try.underlying9
  a9 := Try.isAgg9
  z9 := Try.sizeOf9
  v9 := Try.zeroValue9
  t31 := Try.underlying22
  a31 := Try.isAgg22
  z31 := Try.sizeOf22
  v31 := Try.zeroValue22 }
end Go.Proofs.Ytebcodbmkphgaab
