/- The contract of the laws' num. -/
import Derived.Test.YtebcodbmkphgaabDoorBaseS
namespace Go.Proofs.YtebcodbmkphgaabDoor
open Go.RowKit

theorem num_any (n : Int) (w : World) : Calls Tryd.prog 9 #[.int .i64 n] w fun e w' => e = .returned (.int .i64 n) ∧ w' = w := by
  go_enter Tryd.func9, Tryd.ntmps9
  go_wp2
  go_ret
  exact ⟨rfl, rfl⟩
end Go.Proofs.YtebcodbmkphgaabDoor
