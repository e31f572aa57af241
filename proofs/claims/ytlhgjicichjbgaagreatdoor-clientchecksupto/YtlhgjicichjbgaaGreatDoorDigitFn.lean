/- The contracts of digitOf, twoDigits, visible and its closure: for every byte. -/
import Derived.Test.YtlhgjicichjbgaaGreatDoorRowsS
import Derived.Test.YtlhgjicichjbgaaGreatDoorEscMath
import Derived.Test.YtlhgjicichjbgaaGreatDoorBlkS
import Derived.Test.YtlhgjicichjbgaaGreatDoorSteps2
namespace Go.Proofs.YtlhgjicichjbgaaGreatDoor
open Go.RowKit

set_option maxHeartbeats 400000 in
set_option maxRecDepth 100000 in
theorem digitOf_any (c : Nat) (w : World) (hc : c < 256) : Calls Tryz.prog 153 #[.int .u8 (c : Int)] w fun e w' => e = .returned (.tuple #[.int .u8 (((hx c).getD 0 : Nat) : Int), .bool (hx c).isSome]) ∧ w' = w := by
  rcases (show (0 ≤ c ∧ c ≤ 47) ∨ (48 ≤ c ∧ c ≤ 57) ∨ (58 ≤ c ∧ c ≤ 64) ∨ (65 ≤ c ∧ c ≤ 70) ∨ (71 ≤ c ∧ c ≤ 96) ∨ (97 ≤ c ∧ c ≤ 102) ∨ (103 ≤ c ∧ c ≤ 255) by omega) with h | h | h | h | h | h | h
  · have e : hx c = none := by unfold hx; rw [if_neg (by omega), if_neg (by omega), if_neg (by omega)]
    rw [e]
    obtain ⟨a1, a2⟩ := h
    go_enter Tryz.func153, Tryz.ntmps153
    go_wp2
    go_ret2
    exact ⟨rfl, rfl⟩
  · have e : hx c = some (c - 48) := by unfold hx; rw [if_pos (by omega)]
    have HE : Hid (((c - 48 : Nat) : Int) = (c : Int) - 48) := by show _ = _; omega
    rw [e]
    obtain ⟨a1, a2⟩ := h
    go_enter Tryz.func153, Tryz.ntmps153
    go_wp2
    go_ret2
    exact ⟨by simp [HE.out], rfl⟩
  · have e : hx c = none := by unfold hx; rw [if_neg (by omega), if_neg (by omega), if_neg (by omega)]
    rw [e]
    obtain ⟨a1, a2⟩ := h
    go_enter Tryz.func153, Tryz.ntmps153
    go_wp2
    go_ret2
    exact ⟨rfl, rfl⟩
  · have e : hx c = some (c - 55) := by unfold hx; rw [if_neg (by omega), if_neg (by omega), if_pos (by omega)]
    have HE : Hid (((c - 55 : Nat) : Int) = (c : Int) - 65 + 10) := by show _ = _; omega
    rw [e]
    obtain ⟨a1, a2⟩ := h
    go_enter Tryz.func153, Tryz.ntmps153
    go_wp2
    go_ret2
    exact ⟨by simp [HE.out], rfl⟩
  · have e : hx c = none := by unfold hx; rw [if_neg (by omega), if_neg (by omega), if_neg (by omega)]
    rw [e]
    obtain ⟨a1, a2⟩ := h
    go_enter Tryz.func153, Tryz.ntmps153
    go_wp2
    go_ret2
    exact ⟨rfl, rfl⟩
  · have e : hx c = some (c - 87) := by unfold hx; rw [if_neg (by omega), if_pos (by omega)]
    have HE : Hid (((c - 87 : Nat) : Int) = (c : Int) - 97 + 10) := by show _ = _; omega
    rw [e]
    obtain ⟨a1, a2⟩ := h
    go_enter Tryz.func153, Tryz.ntmps153
    go_wp2
    go_ret2
    exact ⟨by simp [HE.out], rfl⟩
  · have e : hx c = none := by unfold hx; rw [if_neg (by omega), if_neg (by omega), if_neg (by omega)]
    rw [e]
    obtain ⟨a1, a2⟩ := h
    go_enter Tryz.func153, Tryz.ntmps153
    go_wp2
    go_ret2
    exact ⟨rfl, rfl⟩
/-- Two digits at a text's beginning. -/
def two (l : List Nat) : Option Nat := match l with
  | a :: b :: _ => match hx a, hx b with
    | some x, some y => some (16 * x + y)
    | _, _ => none
  | _ => none
theorem shl4 (x : Nat) (hx : x < 16) : IntKind.u8.wrap ((x : Int) * 16) = ((16 * x : Nat) : Int) := by rw [wraps_u8 _ (by omega) (by omega)]; omega
theorem or4 (x y : Nat) (hx : x < 16) (hy : y < 16) : bits BinOp.or IntKind.u8 ((16 * x : Nat) : Int) (y : Int) = ((16 * x + y : Nat) : Int) := by
  have h := u8_or_nat (16 * x) y (by omega) (by omega)
  rw [h]
  congr 1
  have := Nat.two_pow_add_eq_or_of_lt (i := 4) (b := y) (by simpa using hy) x
  simp only [Nat.reducePow] at this
  omega
set_option maxHeartbeats 400000 in
set_option maxRecDepth 100000 in
theorem twoDigits_any (s : ByteArray) (w : World) (hl : s.size ≤ 140737488355328) : Calls Tryz.prog 134 #[.string s] w fun e w' => ∃ n : Nat, e = .returned (.tuple #[.int .u8 (n : Int), .bool (two (sbytes s)).isSome]) ∧ Hid (∀ m, two (sbytes s) = some m → n = m) ∧ w' = w := by
  obtain ⟨l, HX⟩ : ∃ l, Hid (l = sbytes s) := ⟨_, rfl⟩
  have hlen : (s.size : Int) = (l.length : Int) := by rw [HX.out, sbytes_length]
  have hz : s.size = l.length := by omega
  rw [← HX.out]
  match l, HX, hlen, hz with
  | [], HX, hlen, hz =>
    simp only [List.length_nil] at hlen
    clear hz
    go_enter Tryz.func134, Tryz.ntmps134
    go_wp2
    go_ret2
    exact ⟨0, rfl, fun m h => by simp [two] at h, rfl⟩
  | [a], HX, hlen, hz =>
    simp only [List.length_cons, List.length_nil] at hlen
    clear hz
    go_enter Tryz.func134, Tryz.ntmps134
    go_wp2
    go_ret2
    exact ⟨0, rfl, fun m h => by simp [two] at h, rfl⟩
  | a :: b :: r, HX, hlen, hz =>
    have i0 : ∀ w, (Instr.index 9 (.string s) (.int .i64 0)).run Tryz.prog w = .ok (.int .u8 (a : Int)) w := fun w => by
      have h := str_index s 0 (by rw [hz]; simp) w
      rw [← HX.out] at h
      exact h
    have i1 : ∀ w, (Instr.index 9 (.string s) (.int .i64 1)).run Tryz.prog w = .ok (.int .u8 (b : Int)) w := fun w => by
      have h := str_index s 1 (by rw [hz]; simp) w
      rw [← HX.out] at h
      exact h
    have ha : a < 256 := by have := sbytes_lt s a; rw [← HX.out] at this; exact this (by simp)
    have hb : b < 256 := by have := sbytes_lt s b; rw [← HX.out] at this; exact this (by simp)
    have hge : (2 : Int) ≤ s.size := by rw [hlen]; simp; omega
    clear hlen hz
    cases h1 : hx a with
    | none =>
      have HR : Hid (two (a :: b :: r) = none) := by show _ = _; unfold two; simp [h1]
      rw [HR.out]
      have HA : Hid (hx a = none) := h1
      clear h1
      obtain ⟨y, HY⟩ : ∃ y, Hid (y = (hx b).getD 0) := ⟨_, rfl⟩
      obtain ⟨q, HQ⟩ : ∃ q, Hid (q = (hx b).isSome) := ⟨_, rfl⟩
      go_enter Tryz.func134, Tryz.ntmps134
      go_wp2_with fail
      refine (digitOf_any a w ha).mono ?_
      rintro e w' ⟨rfl, rfl⟩
      rw [HA.out]
      go_wp2_with fail
      refine (digitOf_any b w' hb).mono ?_
      rintro e w2 ⟨rfl, rfl⟩
      rw [← HY.out, ← HQ.out]
      have hy : y < 16 := by rw [HY.out]; cases h : hx b with | none => simp | some y => exact hx_lt h
      have O4 : Hid (bits BinOp.or IntKind.u8 0 (y : Int) = (y : Int)) := by
        have h := or4 0 y (by omega) hy
        rw [Nat.mul_zero, Nat.zero_add] at h
        exact h
      go_wp2
      go_ret2
      exact ⟨y, by simp [O4.out], (by show ∀ m, none = some m → y = m; intro m h; cases h), rfl⟩
    | some x =>
      have hx16 := hx_lt h1
      cases h2 : hx b with
      | none =>
        have HR : Hid (two (a :: b :: r) = none) := by show _ = _; unfold two; simp [h1, h2]
        rw [HR.out]
        have HA : Hid (hx a = some x) := h1
        have HC : Hid (hx b = none) := h2
        clear h1 h2
        have s4 := shl4 x hx16
        have O4 : Hid (bits BinOp.or IntKind.u8 (16 * (x : Int)) 0 = 16 * (x : Int)) := by
          have h := or4 x 0 hx16 (by omega)
          rw [Nat.add_zero, show ((16 * x : Nat) : Int) = 16 * (x : Int) by omega] at h
          exact h
        go_enter Tryz.func134, Tryz.ntmps134
        go_wp2_with fail
        refine (digitOf_any a w ha).mono ?_
        rintro e w' ⟨rfl, rfl⟩
        rw [HA.out]
        go_wp2_with fail
        refine (digitOf_any b w' hb).mono ?_
        rintro e w2 ⟨rfl, rfl⟩
        rw [HC.out]
        go_wp2
        go_ret2
        exact ⟨16 * x, by simp [O4.out], (by show ∀ m, none = some m → 16 * x = m; intro m h; cases h), rfl⟩
      | some y =>
        have hy := hx_lt h2
        have HR : Hid (two (a :: b :: r) = some (16 * x + y)) := by show _ = _; unfold two; simp [h1, h2]
        rw [HR.out]
        have HA : Hid (hx a = some x) := h1
        have HC : Hid (hx b = some y) := h2
        clear h1 h2
        have s4 := shl4 x hx16
        have O4 : Hid (bits BinOp.or IntKind.u8 (16 * (x : Int)) (y : Int) = 16 * (x : Int) + y) := by
          have h := or4 x y hx16 hy
          rw [show ((16 * x : Nat) : Int) = 16 * (x : Int) by omega, show ((16 * x + y : Nat) : Int) = 16 * (x : Int) + y by omega] at h
          exact h
        go_enter Tryz.func134, Tryz.ntmps134
        go_wp2_with fail
        refine (digitOf_any a w ha).mono ?_
        rintro e w' ⟨rfl, rfl⟩
        rw [HA.out]
        go_wp2_with fail
        refine (digitOf_any b w' hb).mono ?_
        rintro e w2 ⟨rfl, rfl⟩
        rw [HC.out]
        go_wp2
        go_ret2
        exact ⟨16 * x + y, by simp [O4.out], (by show ∀ m, some (16 * x + y) = some m → 16 * x + y = m; intro m h; cases h; rfl), rfl⟩
end Go.Proofs.YtlhgjicichjbgaaGreatDoor
