/- What is loaded: its state. -/
import Derived.Test.YtjdglpfjemoodaaDoorPieceMath
namespace Go.Proofs.YtjdglpfjemoodaaDoor
open Go.RowKit

theorem regOf_lt {xs : List Nat} (hx : ∀ x ∈ xs, x < 256) : ∀ x ∈ regOf xs, x < 4294967296 := by
  intro x h
  obtain ⟨i, _, rfl⟩ := List.mem_map.1 h
  exact word4_lt (lt_drop hx (4 * i))
theorem zero_tail {l : List Nat} (h : l.all (· == 0) = true) : l = List.replicate l.length 0 := by
  rw [List.eq_replicate_iff]
  exact ⟨rfl, fun b hb => by simpa using List.all_eq_true.1 h b hb⟩
theorem loaded {w : World} {k : Nat} {xs : List Nat} (he : loadErr xs = 0) (hx : ∀ x ∈ xs, x < 256) (hh : Hsh w k (regOf xs) ((xs.drop 32).take 64) (num8 (xs.drop 96))) :
    HState w k (regOf xs) (num8 (xs.drop 96) - num8 (xs.drop 96) % 64) ((xs.drop 32).take (num8 (xs.drop 96) % 64)) ∧ (num8 (xs.drop 96) - num8 (xs.drop 96) % 64 = 0 → regOf xs = first8) ∧ ((xs.drop 32).take (num8 (xs.drop 96) % 64)).length = num8 (xs.drop 96) % 64 ∧ num8 (xs.drop 96) ≤ 1152921504606846976 := by
  have h1 : ¬ xs.length < 104 := fun h => by unfold loadErr at he; rw [if_pos h] at he; cases he
  have h2 : ¬ 104 < xs.length := fun h => by unfold loadErr at he; rw [if_neg h1, if_pos h] at he; cases he
  have h3 : okSaved (regOf xs) ((xs.drop 32).take 64) (num8 (xs.drop 96)) = true := by
    unfold loadErr at he
    rw [if_neg h1, if_neg h2] at he
    by_cases h : okSaved (regOf xs) ((xs.drop 32).take 64) (num8 (xs.drop 96)) = true
    · exact h
    · rw [if_neg h] at he; cases he
  generalize num8 (xs.drop 96) = N at *
  unfold okSaved at h3
  simp only [Bool.and_eq_true, Bool.or_eq_true, decide_eq_true_eq] at h3
  obtain ⟨⟨h4, h5⟩, h6⟩ := h3
  have hd : N % 64 < 64 := Nat.mod_lt _ (by decide)
  have hl : ((xs.drop 32).take (N % 64)).length = N % 64 := by rw [List.length_take, List.length_drop]; omega
  have hbl : ((xs.drop 32).take 64).length = 64 := by rw [List.length_take, List.length_drop]; omega
  have hhold : hold ((xs.drop 32).take (N % 64)) = (xs.drop 32).take 64 := by
    unfold hold
    rw [rest_short (by omega), hl]
    have e1 : (xs.drop 32).take (N % 64) = ((xs.drop 32).take 64).take (N % 64) := by rw [List.take_take, Nat.min_eq_left (by omega)]
    have e2 : List.replicate (64 - N % 64) 0 = ((xs.drop 32).take 64).drop (N % 64) := by
      have := zero_tail h5
      rw [List.length_drop, hbl] at this
      exact this.symm
    rw [e1, e2, List.take_append_drop]
  refine ⟨⟨?_, by omega, regOf_length xs, lt_take (lt_drop hx 32) _⟩, fun h => h6.resolve_left (by omega), hl, h4⟩
  rw [absorb_short _ _ (by omega), hhold, hl, show N - N % 64 + N % 64 = N by omega]
  exact hh
end Go.Proofs.YtjdglpfjemoodaaDoor
