/- The document's escape. -/
import Derived.Test.YtlebockgdonceaaGreatDoorRPb
namespace Go.Proofs.YtlebockgdonceaaGreatDoor
open Go.RowKit

def fromL : List Nat := [34, 92, 47, 98, 102, 110, 114, 116]
def toL : List Nat := [34, 92, 47, 8, 12, 10, 13, 9]
theorem short_at {c k : Nat} (hk : k < 8) (h : fromL.getD k 0 = c) : shortOf c = some (toL.getD k 0) := by
  subst h
  revert k
  decide
theorem rp_short_none {c : Nat} (h : ∀ k, k < 8 → fromL.getD k 0 ≠ c) : shortOf c = none := by
  have h0 := h 0 (by omega)
  have h1 := h 1 (by omega)
  have h2 := h 2 (by omega)
  have h3 := h 3 (by omega)
  have h4 := h 4 (by omega)
  have h5 := h 5 (by omega)
  have h6 := h 6 (by omega)
  have h7 := h 7 (by omega)
  simp [fromL] at h0 h1 h2 h3 h4 h5 h6 h7
  unfold shortOf
  rw [if_neg (fun e => h0 e.symm), if_neg (fun e => h1 e.symm), if_neg (fun e => h2 e.symm), if_neg (fun e => h3 e.symm), if_neg (fun e => h4 e.symm), if_neg (fun e => h5 e.symm), if_neg (fun e => h6 e.symm), if_neg (fun e => h7 e.symm)]
theorem toL_small : ∀ k, k < 8 → toL.getD k 0 < 128 := by decide
theorem utf_small {c : Nat} (h : c < 128) : utf c = [c] := by unfold utf; rw [if_pos h]
theorem rp_four_lt {s : By} : ∀ (k p m n q : Nat), fourAt s k p m = .ok n q → n < (m + 1) * 16 ^ k
  | 0, p, m, n, q, h => by
    rw [fourAt] at h
    injection h with h1 h2
    simp
    omega
  | k + 1, p, m, n, q, h => by
    by_cases hp : p < s.length
    · rw [four_step hp] at h
      cases hv : hexv (bt s p) with
      | none => rw [hv] at h; cases h
      | some d =>
        rw [hv] at h
        have hd := rp_hexv_lt hv
        have := rp_four_lt k (p + 1) (16 * m + d) n q h
        have h2 : (16 * m + d + 1) * 16 ^ k ≤ ((m + 1) * 16) * 16 ^ k := Nat.mul_le_mul_right _ (by omega)
        rw [Nat.pow_succ, Nat.mul_comm (16 ^ k) 16, ← Nat.mul_assoc]
        omega
    · rw [four_end hp] at h; cases h
/-- What escape answers. -/
def EscAns (o : Out Nat) (w : World) (ε : Ending) (w' : World) : Prop := match o with
  | .ok r q => ∃ ao k c, ε = .returned (.tuple #[.slice ao k c, .int .i64 (q : Int), .int .i64 0, .int .i64 0]) ∧ k = (utf r).length ∧ Row w' ao (utf r) ∧ Below w.heap.size w w'
  | .error e q => ε = .returned (.tuple #[.slice none 0 0, .int .i64 0, .int .i64 (e : Int), .int .i64 (q : Int)]) ∧ Below w.heap.size w w'
theorem esc_ok {s : By} {p r q : Nat} {ao : Option Addr} {k c : Nat} {w w' : World} (h : escAt s p = .ok r q) (hk : k = (utf r).length) (hr : Row w' ao (utf r)) (hb : Below w.heap.size w w') : EscAns (escAt s p) w (.returned (.tuple #[.slice ao k c, .int .i64 (q : Int), .int .i64 0, .int .i64 0])) w' := by
  rw [h]
  exact ⟨ao, k, c, rfl, hk, hr, hb⟩
theorem esc_bad {s : By} {p e q : Nat} {w w' : World} (h : escAt s p = .error e q) (hb : Below w.heap.size w w') : EscAns (escAt s p) w (.returned (.tuple #[.slice none 0 0, .int .i64 0, .int .i64 (e : Int), .int .i64 (q : Int)])) w' := by
  rw [h]
  exact ⟨rfl, hb⟩
theorem esc_short {s : By} {p : Nat} (h : ¬ p + 1 < s.length) : escAt s p = .error 3 s.length := by unfold escAt; rw [if_neg h]
theorem esc_letter {s : By} {p b : Nat} (h : p + 1 < s.length) (hs : shortOf (bt s (p + 1)) = some b) : escAt s p = .ok b (p + 2) := by unfold escAt; rw [if_pos h, hs]
theorem esc_none {s : By} {p : Nat} (h : p + 1 < s.length) (hs : shortOf (bt s (p + 1)) = none) (hu : bt s (p + 1) ≠ 117) : escAt s p = .error 42 (p + 1) := by unfold escAt; rw [if_pos h, hs]; simp only; rw [if_neg hu]
theorem esc_uni {s : By} {p : Nat} (h : p + 1 < s.length) (hs : shortOf (bt s (p + 1)) = none) (hu : bt s (p + 1) = 117) : escAt s p = uniAt s p := by unfold escAt; rw [if_pos h, hs]; simp only; rw [if_pos hu]
end Go.Proofs.YtlebockgdonceaaGreatDoor
