/- The contract of the laws' num. -/
import Derived.Test.YtlhgjicichjbgaaGreatDoorBaseS
namespace Go.Proofs.YtlhgjicichjbgaaGreatDoor
open Go.RowKit

theorem num_any (n : Int) (w : World) : Calls Tryz.prog 9 #[.int .i64 n] w fun e w' => e = .returned (.int .i64 n) ∧ w' = w := by
  go_enter Tryz.func9, Tryz.ntmps9
  go_wp2
  go_ret
  exact ⟨rfl, rfl⟩
end Go.Proofs.YtlhgjicichjbgaaGreatDoor
