/- The contracts of isPlain: for every byte. -/
import Derived.Test.YtebcodbmkphgaabDoorRowsS
import Derived.Test.YtebcodbmkphgaabDoorEscMath
import Derived.Test.YtebcodbmkphgaabDoorBlkS
import Derived.Test.YtebcodbmkphgaabDoorSteps2
namespace Go.Proofs.YtebcodbmkphgaabDoor
open Go.RowKit

set_option maxHeartbeats 400000 in
set_option maxRecDepth 100000 in
theorem isPlain_any (c : Nat) (w : World) (hc : c < 256) : Calls Tryd.prog 34 #[.int .u8 (c : Int)] w fun e w' => e = .returned (.bool (plainB c)) ∧ w' = w := by
  rcases (show (0 ≤ c ∧ c ≤ 41) ∨ (c = 42) ∨ (43 ≤ c ∧ c ≤ 44) ∨ (c = 45) ∨ (c = 46) ∨ (c = 47) ∨ (48 ≤ c ∧ c ≤ 57) ∨ (58 ≤ c ∧ c ≤ 64) ∨ (65 ≤ c ∧ c ≤ 90) ∨ (91 ≤ c ∧ c ≤ 94) ∨ (c = 95) ∨ (c = 96) ∨ (97 ≤ c ∧ c ≤ 122) ∨ (123 ≤ c ∧ c ≤ 255) by omega) with h | h | h | h | h | h | h | h | h | h | h | h | h | h
  · have e : plainB c = false := by simp [plainB]; omega
    rw [e]
    obtain ⟨a1, a2⟩ := h
    go_enter Tryd.func34, Tryd.ntmps34
    go_wp2
    go_ret
    exact ⟨by first | rfl | (simp; omega), rfl⟩
  · subst h
    go_enter Tryd.func34, Tryd.ntmps34
    go_wp2
    go_ret
    exact ⟨rfl, rfl⟩
  · have e : plainB c = false := by simp [plainB]; omega
    rw [e]
    obtain ⟨a1, a2⟩ := h
    go_enter Tryd.func34, Tryd.ntmps34
    go_wp2
    go_ret
    exact ⟨by first | rfl | (simp; omega), rfl⟩
  · subst h
    go_enter Tryd.func34, Tryd.ntmps34
    go_wp2
    go_ret
    exact ⟨rfl, rfl⟩
  · subst h
    go_enter Tryd.func34, Tryd.ntmps34
    go_wp2
    go_ret
    exact ⟨rfl, rfl⟩
  · subst h
    go_enter Tryd.func34, Tryd.ntmps34
    go_wp2
    go_ret
    exact ⟨rfl, rfl⟩
  · have e : plainB c = true := by simp [plainB]; omega
    rw [e]
    obtain ⟨a1, a2⟩ := h
    go_enter Tryd.func34, Tryd.ntmps34
    go_wp2
    go_ret
    exact ⟨by first | rfl | (simp; omega), rfl⟩
  · have e : plainB c = false := by simp [plainB]; omega
    rw [e]
    obtain ⟨a1, a2⟩ := h
    go_enter Tryd.func34, Tryd.ntmps34
    go_wp2
    go_ret
    exact ⟨by first | rfl | (simp; omega), rfl⟩
  · have e : plainB c = true := by simp [plainB]; omega
    rw [e]
    obtain ⟨a1, a2⟩ := h
    go_enter Tryd.func34, Tryd.ntmps34
    go_wp2
    go_ret
    exact ⟨by first | rfl | (simp; omega), rfl⟩
  · have e : plainB c = false := by simp [plainB]; omega
    rw [e]
    obtain ⟨a1, a2⟩ := h
    go_enter Tryd.func34, Tryd.ntmps34
    go_wp2
    go_ret
    exact ⟨by first | rfl | (simp; omega), rfl⟩
  · subst h
    go_enter Tryd.func34, Tryd.ntmps34
    go_wp2
    go_ret
    exact ⟨rfl, rfl⟩
  · subst h
    go_enter Tryd.func34, Tryd.ntmps34
    go_wp2
    go_ret
    exact ⟨rfl, rfl⟩
  · have e : plainB c = true := by simp [plainB]; omega
    rw [e]
    obtain ⟨a1, a2⟩ := h
    go_enter Tryd.func34, Tryd.ntmps34
    go_wp2
    go_ret
    exact ⟨by first | rfl | (simp; omega), rfl⟩
  · have e : plainB c = false := by simp [plainB]; omega
    rw [e]
    obtain ⟨a1, a2⟩ := h
    go_enter Tryd.func34, Tryd.ntmps34
    go_wp2
    go_ret
    exact ⟨by first | rfl | (simp; omega), rfl⟩
end Go.Proofs.YtebcodbmkphgaabDoor
