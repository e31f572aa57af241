/- WheelLater, walked: every sum of two times. -/
import Derived.Test.YtkebdfegpbnpaabProg
import Derived.WalkKit
import Derived.WalkSpells
import Derived.WalkLawsBesides
import Derived.Handy
namespace Go.Proofs.Ytkebdfegpbnpaab
open Go.RowKit

theorem hide0 {p : Prop} (h : p) : Hid p := h
def lat (a b : Nat) : Nat := if 18446744073709551615 < a + b then 18446744073709551615 else a + b
theorem ret_u64 {a b : Int} (h : a = b) : Ending.returned (.int .u64 a) = .returned (.int .u64 b) := by rw [h]
theorem wrapU (x : Int) : IntKind.u64.wrap x = x % 18446744073709551616 := by simp [IntKind.wrap, IntKind.signed, IntKind.bits]
set_option maxHeartbeats 1000000 in
set_option maxRecDepth 100000 in
theorem later_any (a b : Nat) (w : World) (ha : a ≤ 18446744073709551615) (hb : b ≤ 18446744073709551615) :
    Calls Try.prog 16 #[.int .u64 (a : Int), .int .u64 (b : Int)] w fun e w' => e = .returned (.int .u64 (lat a b : Int)) ∧ w' = w := by
  obtain ⟨r, hr⟩ : ∃ r : Int, r = (lat a b : Nat) := ⟨_, rfl⟩
  rw [← hr]
  have HR : Hid (r = (lat a b : Nat)) := hr
  unfold lat at HR
  clear hr
  obtain ⟨s, hs⟩ : ∃ s : Int, IntKind.u64.wrap ((a : Int) + (b : Int)) = s := ⟨_, rfl⟩
  have HS : Hid (s = ((a : Int) + (b : Int)) % 18446744073709551616) := by show _ = _; rw [← hs, wrapU]
  by_cases h : 18446744073709551615 < a + b
  · rw [if_pos h] at HR
    have h1 : s < (a : Int) := by rw [HS.out]; omega
    clear h ha hb
    go_enter Try.func16, Try.ntmps16
    go_wp2
    go_ret
    exact ⟨ret_u64 (by rw [HR.out]; rfl), rfl⟩
  · rw [if_neg h] at HR
    have h1 : ¬ s < (a : Int) := by rw [HS.out]; omega
    have HE : Hid (s = r) := by show _ = _; rw [HR.out, HS.out]; omega
    clear h ha hb
    go_enter Try.func16, Try.ntmps16
    go_wp2
    go_ret
    exact ⟨ret_u64 HE.out, rfl⟩
set_option maxHeartbeats 1000000 in
set_option maxRecDepth 100000 in
theorem refLater_any (a b : Nat) (w : World) (ha : a ≤ 18446744073709551615) (hb : b ≤ 18446744073709551615) :
    Calls Try.prog 17 #[.int .u64 (a : Int), .int .u64 (b : Int)] w fun e w' => e = .returned (.int .u64 (lat a b : Int)) ∧ w' = w := by
  obtain ⟨r, hr⟩ : ∃ r : Int, r = (lat a b : Nat) := ⟨_, rfl⟩
  rw [← hr]
  have HR : Hid (r = (lat a b : Nat)) := hr
  unfold lat at HR
  clear hr
  obtain ⟨s, hs⟩ : ∃ s : Int, IntKind.u64.wrap ((a : Int) + (b : Int)) = s := ⟨_, rfl⟩
  obtain ⟨d, hd⟩ : ∃ d : Int, IntKind.u64.wrap (18446744073709551615 - (a : Int)) = d := ⟨_, rfl⟩
  have HS : Hid (s = ((a : Int) + (b : Int)) % 18446744073709551616) := by show _ = _; rw [← hs, wrapU]
  have HD : Hid (d = (18446744073709551615 - (a : Int)) % 18446744073709551616) := by show _ = _; rw [← hd, wrapU]
  by_cases h : 18446744073709551615 < a + b
  · rw [if_pos h] at HR
    have h1 : d < (b : Int) := by rw [HD.out]; omega
    clear h ha hb
    go_enter Try.func17, Try.ntmps17
    go_wp2
    go_ret
    exact ⟨ret_u64 (by rw [HR.out]; rfl), rfl⟩
  · rw [if_neg h] at HR
    have h1 : ¬ d < (b : Int) := by rw [HD.out]; omega
    have HE : Hid (s = r) := by show _ = _; rw [HR.out, HS.out]; omega
    clear h ha hb
    go_enter Try.func17, Try.ntmps17
    go_wp2
    go_ret
    exact ⟨ret_u64 HE.out, rfl⟩
set_option maxHeartbeats 1000000 in
set_option maxRecDepth 100000 in
theorem wheelLater_walk (a b : Nat) (w : World) (ha : a ≤ 18446744073709551615) (hb : b ≤ 18446744073709551615) :
    Calls Try.prog 4 #[.int .u64 (a : Int), .int .u64 (b : Int)] w fun e w' => e = .returned (.bool true) ∧ Below w.heap.size w w' := by
  have H1 := hide0 (later_any a b w ha hb)
  have H2 := hide0 (refLater_any a b w ha hb)
  obtain ⟨r, hr⟩ : ∃ r : Nat, r = lat a b := ⟨_, rfl⟩
  rw [← hr] at H1 H2
  have h1 : ¬ ((r : Int) < (a : Int)) := by rw [hr]; unfold lat; split <;> omega
  have h2 : ¬ ((r : Int) < (b : Int)) := by rw [hr]; unfold lat; split <;> omega
  obtain ⟨d, hd⟩ : ∃ d : Int, IntKind.u64.wrap ((r : Int) - (a : Int)) = d := ⟨_, rfl⟩
  have HD : Hid (d = ((r : Int) - (a : Int)) % 18446744073709551616) := by show _ = _; rw [← hd, wrapU]
  have HQ : Hid (d = (b : Int) ∨ (r : Int) = 18446744073709551615) := by
    show _ ∨ _
    rw [HD.out, hr]
    unfold lat
    split
    · right; rfl
    · left; omega
  clear hr ha hb
  by_cases h3 : d = (b : Int)
  · go_enter Try.func4, Try.ntmps4
    go_wp2_with (first | (go_at_call 16; refine H1.out.mono ?_; rintro e w' ⟨rfl, rfl⟩) | (go_at_call 17; refine H2.out.mono ?_; rintro e w' ⟨rfl, rfl⟩))
    go_ret
    exact ⟨rfl, Below.refl _ _⟩
  · have h4 : (r : Int) = 18446744073709551615 := HQ.out.resolve_left h3
    go_enter Try.func4, Try.ntmps4
    go_wp2_with (first | (go_at_call 16; refine H1.out.mono ?_; rintro e w' ⟨rfl, rfl⟩) | (go_at_call 17; refine H2.out.mono ?_; rintro e w' ⟨rfl, rfl⟩))
    all_goals
      go_ret
      exact ⟨rfl, Below.refl _ _⟩
end Go.Proofs.Ytkebdfegpbnpaab
