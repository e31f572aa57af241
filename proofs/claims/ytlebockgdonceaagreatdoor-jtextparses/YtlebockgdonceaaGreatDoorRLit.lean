/- The contracts of the document's Step, done and Literal. -/
import Derived.Test.YtlebockgdonceaaGreatDoorKPList
namespace Go.Proofs.YtlebockgdonceaaGreatDoor
open Go.RowKit

def stepZ (st c : Nat) : Int := match litStep st c with
  | some s => (s : Int)
  | none => -1
theorem stepZ_digit {c : Nat} (h1 : 49 ≤ c) (h2 : c ≤ 57) : ∀ st, st ≤ 8 → stepZ st c = (if st ≤ 1 ∨ st = 3 then 3 else if st = 4 ∨ st = 5 then 5 else if 6 ≤ st then 8 else -1) := by
  intro st hst
  have hd : isDigit c = true := by unfold isDigit; simp; omega
  have n1 : c ≠ 45 := by omega
  have n2 : c ≠ 48 := by omega
  have n3 : c ≠ 46 := by omega
  have n4 : c ≠ 101 := by omega
  have n5 : c ≠ 69 := by omega
  have n6 : c ≠ 43 := by omega
  have hs : st = 0 ∨ st = 1 ∨ st = 2 ∨ st = 3 ∨ st = 4 ∨ st = 5 ∨ st = 6 ∨ st = 7 ∨ st = 8 := by omega
  rcases hs with rfl | rfl | rfl | rfl | rfl | rfl | rfl | rfl | rfl <;> simp [stepZ, litStep, hd, n1, n2, n3, n4, n5, n6]
theorem stepZ_other {c : Nat} (h : c < 48 ∨ 57 < c) (n1 : c ≠ 45) (n3 : c ≠ 46) (n4 : c ≠ 101) (n5 : c ≠ 69) (n6 : c ≠ 43) (st : Nat) : stepZ st c = -1 := by
  have hd : isDigit c = false := by unfold isDigit; simp; omega
  have n2 : c ≠ 48 := by omega
  simp [stepZ, litStep, hd, n1, n2, n3, n4, n5, n6]
set_option maxHeartbeats 8000000 in
set_option maxRecDepth 100000 in
theorem step_const (st c : Nat) (hst : st ≤ 8) (hc : c = 45 ∨ c = 48 ∨ c = 46 ∨ c = 101 ∨ c = 69 ∨ c = 43) (w : World) : Calls Tryz.prog 31 #[.int .i64 (st : Int), .int .u8 (c : Int)] w fun e w' => e = .returned (.int .i64 (stepZ st c)) ∧ w' = w := by
  have hs : st = 0 ∨ st = 1 ∨ st = 2 ∨ st = 3 ∨ st = 4 ∨ st = 5 ∨ st = 6 ∨ st = 7 ∨ st = 8 := by omega
  clear hst
  rcases hc with rfl | rfl | rfl | rfl | rfl | rfl <;> rcases hs with rfl | rfl | rfl | rfl | rfl | rfl | rfl | rfl | rfl
  all_goals
    go_enter Tryz.func31, Tryz.ntmps31
    go_wp2_with fail
    go_ret
    exact ⟨rfl, rfl⟩
end Go.Proofs.YtlebockgdonceaaGreatDoor
