/- The contract of the laws' num. -/
import Derived.Test.YtlhgjicichjbgabGreatDoorBaseS
namespace Go.Proofs.YtlhgjicichjbgabGreatDoor
open Go.RowKit

theorem num_any (n : Int) (w : World) : Calls Tryz.prog 14 #[.int .i64 n] w fun e w' => e = .returned (.int .i64 n) ∧ w' = w := by
  go_enter Tryz.func14, Tryz.ntmps14
  go_wp2
  go_ret
  exact ⟨rfl, rfl⟩
end Go.Proofs.YtlhgjicichjbgabGreatDoor
