/- The walk of the law ClientNames: true, and nothing old turns. -/
import Derived.Test.YtlhgjicichjbgaaGreatDoorLLive
namespace Go.Proofs.YtlhgjicichjbgaaGreatDoor
open Go.RowKit

set_option maxHeartbeats 1000000 in
set_option maxRecDepth 100000 in
theorem clientNames_walk (w : World) (hM : MaxL w) : Calls Tryz.prog 3 #[] w fun e w' => e = .returned (.bool true) ∧ Below w.heap.size w w' := by
  have HL := live_true w hM
  clear hM
  go_enter Tryz.func3, Tryz.ntmps3
  go_wp2_with (first | (go_at_call 9; refine (num_any _ _).mono ?_; rintro e wx ⟨rfl, rfl⟩) | fail)
  refine HL.mono ?_
  rintro e w1 ⟨rfl, hb1⟩
  go_wp2
  go_ret
  exact ⟨rfl, hb1⟩
end Go.Proofs.YtlhgjicichjbgaaGreatDoor
