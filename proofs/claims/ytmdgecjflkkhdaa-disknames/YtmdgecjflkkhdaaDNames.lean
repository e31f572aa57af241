/- The walk of the law DiskNames. -/
import Derived.Test.YtmdgecjflkkhdaaDLive
namespace Go.Proofs.Ytmdgecjflkkhdaa
open Go.RowKit

set_option maxHeartbeats 1000000 in
set_option maxRecDepth 100000 in
theorem diskNames_walk (w : World) : Calls Try.prog 3 #[] w fun e w' => e = .returned (.bool true) ∧ Below w.heap.size w w' := by
  have HL := hide (live_true w)
  go_enter Try.func3, Try.ntmps3
  go_wp2_with (first | (go_at_call 9; refine (num_any _ _).mono ?_; rintro e wx ⟨rfl, hwx⟩; subst hwx) | (go_at_call 10; refine HL.out.mono ?_; rintro e w1 ⟨rfl, h1⟩; have H1 := hide h1; clear h1) | fail)
  go_ret
  exact ⟨rfl, H1.out⟩
end Go.Proofs.Ytmdgecjflkkhdaa
