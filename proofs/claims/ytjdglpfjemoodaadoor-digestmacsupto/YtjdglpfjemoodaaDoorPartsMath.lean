/- Small facts on parts, on what is joined of them, on pads. -/
import Derived.Test.YtjdglpfjemoodaaDoorJoinedFn
namespace Go.Proofs.YtjdglpfjemoodaaDoor
open Go.RowKit

theorem join_length (pl : List (List Nat)) : (joinBytes pl).length = 8 * pl.length + pl.flatten.length := by
  unfold joinBytes
  induction pl with
  | nil => rfl
  | cons p r ih => simp only [List.flatMap_cons, List.length_append, eight_length, ih, List.length_cons, List.flatten_cons]; omega
theorem flat_le (pl : List (List Nat)) (k : Nat) : (pl.take k).flatten.length ≤ pl.flatten.length := by
  have h : pl.flatten = (pl.take k).flatten ++ (pl.drop k).flatten := by rw [← List.flatten_append, List.take_append_drop]
  rw [h, List.length_append]; omega
theorem pad_take_succ (kb : List Nat) (pad k : Nat) (h : k < kb.length) : (padOf kb pad).take (k + 1) = (padOf kb pad).take k ++ [kb.getD k 0 ^^^ pad] := by
  rw [List.take_succ_eq_append_getElem (by rw [padOf_length]; exact h)]
  congr 2
  simp [padOf, List.getD, h]
theorem eight_take_succ (m t : Nat) (ht : t < 8) : (eight m).take (t + 1) = (eight m).take t ++ [m / 2 ^ (56 - 8 * t) % 256] := by
  rw [List.take_succ_eq_append_getElem (by rw [eight_length]; exact ht)]
  congr 2
  simp [eight]
theorem Own.row {w : World} {B n c : Nat} {ao : Option Addr} {xs : List Nat} (h : Own w B (.slice ao n c) xs) : Row w ao xs := by
  obtain ⟨a', c', e, _, r⟩ := h.read
  cases e
  exact r
theorem parts_lt {w : World} {po : Option Addr} {pl : List (List Nat)} (h : Parts w po pl) : ∀ p ∈ pl, ∀ x ∈ p, x < 256 := by
  intro p hp
  obtain ⟨i, hi, rfl⟩ := List.getElem_of_mem hp
  rcases h with rfl | ⟨b, off, _, hc⟩
  · simp at hi
  · obtain ⟨_, _, _, _, _, h5⟩ := hc i hi
    simpa [List.getD, hi] using h5
theorem flat_lt {pl : List (List Nat)} (h : ∀ p ∈ pl, ∀ x ∈ p, x < 256) : ∀ x ∈ pl.flatten, x < 256 := by
  intro x hx
  obtain ⟨p, hp, hx⟩ := List.mem_flatten.1 hx
  exact h p hp x hx
theorem join_lt {pl : List (List Nat)} (h : ∀ p ∈ pl, ∀ x ∈ p, x < 256) : ∀ x ∈ joinBytes pl, x < 256 := by
  intro x hx
  obtain ⟨p, hp, hx⟩ := List.mem_flatMap.1 hx
  exact lt_append (eight_lt _) (h p hp) x hx

theorem Parts.at {w : World} {po : Option Addr} {pl : List (List Nat)} (h : Parts w po pl) (k : Nat) (hk : k < pl.length) :
    ∃ b off, po = some ⟨b, off, none⟩ ∧ ∃ ao c, w.cell? ⟨b, off + k, none⟩ = some (.slice ao (pl.getD k []).length c) ∧ (pl.getD k []).length ≤ c ∧ Row w ao (pl.getD k []) ∧ (∀ x ∈ pl.getD k [], x < 256) := by
  rcases h with rfl | ⟨b, off, rfl, hc⟩
  · simp at hk
  · exact ⟨b, off, rfl, hc k hk⟩
theorem join_fit (pl : List (List Nat)) (k : Nat) (hk : k < pl.length) (hl : pl.length ≤ 1048576) (hf : pl.flatten.length ≤ 1048576) : (joinBytes (pl.take k)).length + 8 + (pl.getD k []).length ≤ 9437184 + 64 := by
  have h1 := flat_le pl (k + 1)
  rw [take_flat hk, List.length_append] at h1
  have h2 := join_length (pl.take k)
  rw [List.length_take] at h2
  omega
end Go.Proofs.YtjdglpfjemoodaaDoor
