/- The rings: the digits of a time, the slot of a timer; what an advance lifts. -/
import Derived.Test.YtmngmkbiibhmkaaVMath
namespace Go.Proofs.Ytmngmkbiibhmkaa

def dig (t i : Nat) : Nat := t / 64 ^ i % 64
/-- The ring of a time, seen from now: 4, where it lies in the far list. -/
def ringN (now a : Nat) : Nat := if a / 64 = now / 64 then 0 else if a / 4096 = now / 4096 then 1 else if a / 262144 = now / 262144 then 2 else if a / 16777216 = now / 16777216 then 3 else 4
def slotN (now a : Nat) : Nat := if a / 64 = now / 64 then a % 64 else if a / 4096 = now / 4096 then 64 + a / 64 % 64 else if a / 262144 = now / 262144 then 128 + a / 4096 % 64 else if a / 16777216 = now / 16777216 then 192 + a / 262144 % 64 else 256
theorem ringN_le (now a : Nat) : ringN now a ≤ 4 := by
  unfold ringN
  repeat' split
  all_goals omega
theorem slotN_lt (now a : Nat) : slotN now a < 257 := by
  unfold slotN
  repeat' split
  all_goals omega
theorem slotN_eq (now a : Nat) : slotN now a = if ringN now a = 4 then 256 else 64 * ringN now a + dig a (ringN now a) := by
  unfold slotN ringN dig
  by_cases h0 : a / 64 = now / 64
  · simp [h0]
  by_cases h1 : a / 4096 = now / 4096
  · simp [h0, h1]
  by_cases h2 : a / 262144 = now / 262144
  · simp [h0, h1, h2]
  by_cases h3 : a / 16777216 = now / 16777216
  · simp [h0, h1, h2, h3]
  · simp [h0, h1, h2, h3]
theorem slot_mono {now a b : Nat} (h1 : now ≤ a) (h2 : a ≤ b) : slotN now a ≤ slotN now b := by
  unfold slotN
  repeat' split
  all_goals omega
theorem slot_stays {now to a : Nat} (h1 : now ≤ to) (h3 : slotN now to < slotN now a) : slotN to a = slotN now a := by
  unfold slotN at *
  by_cases e0 : to / 64 = now / 64
  · rw [if_pos e0] at h3
    have f1 : to / 4096 = now / 4096 := by omega
    have f2 : to / 262144 = now / 262144 := by omega
    have f3 : to / 16777216 = now / 16777216 := by omega
    rw [e0, f1, f2, f3]
  rw [if_neg e0] at h3
  by_cases e1 : to / 4096 = now / 4096
  · rw [if_pos e1] at h3
    have f2 : to / 262144 = now / 262144 := by omega
    have f3 : to / 16777216 = now / 16777216 := by omega
    rw [e1, f2, f3]
    repeat' split at h3
    all_goals (repeat' split)
    all_goals omega
  rw [if_neg e1] at h3
  by_cases e2 : to / 262144 = now / 262144
  · rw [if_pos e2] at h3
    have f3 : to / 16777216 = now / 16777216 := by omega
    rw [e2, f3]
    repeat' split at h3
    all_goals (repeat' split)
    all_goals omega
  rw [if_neg e2] at h3
  by_cases e3 : to / 16777216 = now / 16777216
  · rw [if_pos e3] at h3
    rw [e3]
    repeat' split at h3
    all_goals (repeat' split)
    all_goals omega
  rw [if_neg e3] at h3
  repeat' split at h3
  all_goals omega
end Go.Proofs.Ytmngmkbiibhmkaa
