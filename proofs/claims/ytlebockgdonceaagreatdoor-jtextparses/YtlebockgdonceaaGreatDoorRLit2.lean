/- The contracts of the document's Step at every byte, of done and of Literal. -/
import Derived.Test.YtlebockgdonceaaGreatDoorRLit
namespace Go.Proofs.YtlebockgdonceaaGreatDoor
open Go.RowKit

set_option maxHeartbeats 8000000 in
set_option maxRecDepth 100000 in
theorem step_vari (st c : Nat) (hst : st ≤ 8) (hc : c < 256) (n1 : c ≠ 45) (n2 : c ≠ 48) (n3 : c ≠ 46) (n4 : c ≠ 101) (n5 : c ≠ 69) (n6 : c ≠ 43) (w : World) : Calls Tryz.prog 31 #[.int .i64 (st : Int), .int .u8 (c : Int)] w fun e w' => e = .returned (.int .i64 (stepZ st c)) ∧ w' = w := by
  have hs : st = 0 ∨ st = 1 ∨ st = 2 ∨ st = 3 ∨ st = 4 ∨ st = 5 ∨ st = 6 ∨ st = 7 ∨ st = 8 := by omega
  have b1 : ((c : Int) == 45) = false := by simp; omega
  have b2 : ((c : Int) == 48) = false := by simp; omega
  have b3 : ((c : Int) == 46) = false := by simp; omega
  have b4 : ((c : Int) == 101) = false := by simp; omega
  have b5 : ((c : Int) == 69) = false := by simp; omega
  have b6 : ((c : Int) == 43) = false := by simp; omega
  by_cases h1 : c < 48
  · have HZ := hide (stepZ_other (.inl h1) n1 n3 n4 n5 n6 st)
    have d1 : ¬ ((48 : Int) ≤ (c : Int)) := by omega
    clear n1 n2 n3 n4 n5 n6 h1 hst
    rcases hs with rfl | rfl | rfl | rfl | rfl | rfl | rfl | rfl | rfl
    all_goals
      go_enter Tryz.func31, Tryz.ntmps31
      go_wp2_with fail
      go_ret
      rw [HZ.out]
      exact ⟨rfl, rfl⟩
  · have d1 : (48 : Int) ≤ (c : Int) := by omega
    by_cases h2 : 57 < c
    · have HZ := hide (stepZ_other (.inr h2) n1 n3 n4 n5 n6 st)
      have d2 : ¬ ((c : Int) ≤ (57 : Int)) := by omega
      clear n1 n2 n3 n4 n5 n6 h1 h2 hst
      rcases hs with rfl | rfl | rfl | rfl | rfl | rfl | rfl | rfl | rfl
      all_goals
        go_enter Tryz.func31, Tryz.ntmps31
        go_wp2_with fail
        go_ret
        rw [HZ.out]
        exact ⟨rfl, rfl⟩
    · have HZ := hide (stepZ_digit (c := c) (by omega) (by omega) st hst)
      have d2 : (c : Int) ≤ (57 : Int) := by omega
      clear n1 n2 n3 n4 n5 n6 h1 h2 hst
      rcases hs with rfl | rfl | rfl | rfl | rfl | rfl | rfl | rfl | rfl
      all_goals
        go_enter Tryz.func31, Tryz.ntmps31
        go_wp2_with fail
        go_ret
        rw [HZ.out]
        exact ⟨rfl, rfl⟩
theorem step_any (st c : Nat) (hst : st ≤ 8) (hc : c < 256) (w : World) : Calls Tryz.prog 31 #[.int .i64 (st : Int), .int .u8 (c : Int)] w fun e w' => e = .returned (.int .i64 (stepZ st c)) ∧ w' = w := by
  by_cases h : c = 45 ∨ c = 48 ∨ c = 46 ∨ c = 101 ∨ c = 69 ∨ c = 43
  · exact step_const st c hst h w
  · exact step_vari st c hst hc (by omega) (by omega) (by omega) (by omega) (by omega) (by omega) w
set_option maxRecDepth 100000 in
theorem done_any (st : Nat) (hst : st ≤ 8) (w : World) : Calls Tryz.prog 32 #[.int .i64 (st : Int)] w fun e w' => e = .returned (.bool (litDone st)) ∧ w' = w := by
  have hs : st = 0 ∨ st = 1 ∨ st = 2 ∨ st = 3 ∨ st = 4 ∨ st = 5 ∨ st = 6 ∨ st = 7 ∨ st = 8 := by omega
  clear hst
  rcases hs with rfl | rfl | rfl | rfl | rfl | rfl | rfl | rfl | rfl
  all_goals
    go_enter Tryz.func32, Tryz.ntmps32
    go_wp2_with fail
    go_ret
    exact ⟨rfl, rfl⟩
theorem litStep_le {st c s : Nat} (h : litStep st c = some s) : s ≤ 8 := by
  unfold litStep at h
  repeat' split at h
  all_goals first
    | (injection h with h; omega)
    | cases h
end Go.Proofs.YtlebockgdonceaaGreatDoor
