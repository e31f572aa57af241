/- The walk of the law FrameNames: it returns true and turns nothing old, in every world that holds the table. -/
import Derived.Test.YtmgppjfohabdmaaDoorLive
namespace Go.Proofs.YtmgppjfohabdmaaDoor
open Go.RowKit

set_option maxHeartbeats 800000 in
set_option maxRecDepth 100000 in
theorem frameNames_walk (w : World) (hT : Tab w) : Calls Tryd.prog 3 #[] w fun e w' => e = .returned (.bool true) ∧ Below w.heap.size w w' := by
  have HT : Hid (Tab w) := hT
  clear hT
  go_enter Tryd.func3, Tryd.ntmps3
  go_wp2_with (go_at_call 7; refine (num_any _ _).mono ?_; rintro e w1 ⟨rfl, rfl⟩)
  refine (live_true _ (by exact HT.out)).mono ?_
  rintro e w2 ⟨rfl, h2⟩
  have HB : Hid (Below _ _ w2) := h2
  clear h2
  go_wp2
  go_ret
  exact ⟨rfl, HB.out⟩
end Go.Proofs.YtmgppjfohabdmaaDoor
