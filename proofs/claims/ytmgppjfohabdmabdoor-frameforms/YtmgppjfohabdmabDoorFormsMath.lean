/- Plain facts: what is read is what would be written: numbers, texts, frames. -/
import Derived.Test.YtmgppjfohabdmabDoorText
import Derived.Test.YtmgppjfohabdmabDoorOpenRef
namespace Go.Proofs.YtmgppjfohabdmabDoor
open Go.RowKit

theorem udec_form : ∀ (xs : List Nat) (i acc v k : Nat), i ≤ 9 → (∀ x ∈ xs, x < 256) → udec xs i acc = (v, k, 0) → ∃ q, v = acc + q * 128 ^ i ∧ uencF (10 - i) q = xs.take (k - i) ∧ (0 < i → q ≠ 0)
  | [], i, acc, v, k, _, _, h => by simp [udec] at h
  | x :: r, i, acc, v, k, hi, hx, h => by
    have hx0 := hx x (by simp)
    unfold udec at h
    by_cases h1 : i = 9 ∧ 1 < x
    · rw [if_pos h1] at h; simp at h
    · rw [if_neg h1] at h
      by_cases h2 : 0 < i ∧ x = 0
      · rw [if_pos h2] at h; simp at h
      · rw [if_neg h2] at h
        by_cases h3 : x < 128
        · rw [if_pos h3] at h
          simp only [Prod.mk.injEq] at h
          obtain ⟨rfl, rfl, _⟩ := h
          refine ⟨x, by rw [Nat.mod_eq_of_lt h3], ?_, fun hp h0 => h2 ⟨hp, h0⟩⟩
          rw [uencF_small _ _ h3, show i + 1 - i = 1 by omega]
          rfl
        · rw [if_neg h3] at h
          have hi9 : i ≠ 9 := fun e => h1 ⟨e, by omega⟩
          have hend := udec_end r (i + 1) (acc + x % 128 * 128 ^ i) (by rw [h])
          rw [h] at hend
          simp only at hend
          obtain ⟨q, hv, hq, hne⟩ := udec_form r (i + 1) _ v k (by omega) (fun y hy => hx y (by simp [hy])) h
          have hq0 := hne (by omega)
          refine ⟨x % 128 + 128 * q, ?_, ?_, fun _ => by omega⟩
          · rw [hv, Nat.pow_succ, Nat.add_mul, Nat.add_assoc]
            congr 1
            congr 1
            rw [Nat.mul_comm (128 ^ i) 128, ← Nat.mul_assoc, Nat.mul_comm q 128]
          · rw [show 10 - i = (10 - (i + 1)) + 1 by omega, uencF_step _ _ (by omega), show (x % 128 + 128 * q) / 128 = q by omega, hq, show k - i = (k - (i + 1)) + 1 by omega, List.take_succ_cons]
            congr 1
            omega
theorem uread_form {xs : List Nat} {v k : Nat} (hx : ∀ x ∈ xs, x < 256) (h : uread xs = (v, k, 0)) : uenc v = xs.take k ∧ 1 ≤ k ∧ k ≤ xs.length := by
  obtain ⟨q, hv, hq, _⟩ := udec_form xs 0 0 v k (by decide) hx h
  have hend := udec_end xs 0 0 (by unfold uread at h; rw [h])
  unfold uread at h
  rw [h] at hend
  simp only [Nat.pow_zero, Nat.mul_one, Nat.zero_add] at hv
  subst hv
  simp only at hend
  exact ⟨by simpa [uenc] using hq, by omega, by omega⟩
theorem textOf_form {xs : List Nat} {most : Int} {out : List Nat} {m : Nat} (hx : ∀ x ∈ xs, x < 256) (h : textOf xs most = (out, m, 0)) :
    uenc out.length ++ out = xs.take m ∧ 1 ≤ m ∧ m ≤ xs.length ∧ (out.length : Int) ≤ most ∧ (∀ x ∈ out, x < 256) ∧ out.length ≤ xs.length := by
  unfold textOf at h
  split at h
  · simp at h
  · split at h
    · rename_i h1
      simp only [Prod.mk.injEq] at h
      exact absurd h.2.2 h1
    · split at h
      · simp at h
      · split at h
        · simp at h
        · rename_i h0 h1 h2 h3
          simp only [Prod.mk.injEq] at h
          obtain ⟨rfl, rfl, _⟩ := h
          have he : (uread xs).2.2 = 0 := Decidable.not_not.1 h1
          obtain ⟨hu, hk1, hk2⟩ := uread_form (v := (uread xs).1) (k := (uread xs).2.1) hx (by rw [← he])
          have hl : ((xs.drop (uread xs).2.1).take (uread xs).1).length = (uread xs).1 := by simp; omega
          rw [hl]
          refine ⟨?_, by omega, by omega, by omega, lt_take (lt_drop hx _) _, by omega⟩
          rw [hu, List.take_add]
theorem openForm {xs : List Nat} (hx : ∀ x ∈ xs, x < 256) (h : openErr xs = 0) : sealed (xs.getD 8 0) (openLoad xs) = xs.take (9 + num4 xs) ∧ 9 + num4 xs ≤ xs.length ∧ xs.getD 8 0 ≠ 0 ∧ num4 xs ≤ 2097152 := by
  unfold openErr at h
  split at h
  · cases h
  · split at h
    · cases h
    · split at h
      · cases h
      · split at h
        · cases h
        · split at h
          · cases h
          · rename_i h1 h2 h3 h4 h5
            have h4' : num4 (xs.drop 4) = fsum (xs.take (9 + num4 xs)) := Decidable.not_not.1 h4
            refine ⟨?_, by omega, h5, by omega⟩
            unfold sealed
            rw [openLoad_length (by omega), ← fsum_open hx (by omega), ← h4', four_num4 hx (by omega), four_num4 (lt_drop hx 4) (by simp; omega)]
            unfold openLoad
            have e9 : xs.take (9 + num4 xs) = xs.take 4 ++ ((xs.drop 4).take 4 ++ (xs.drop 8).take (1 + num4 xs)) := by
              rw [show 9 + num4 xs = 4 + (4 + (1 + num4 xs)) by omega, List.take_add, List.take_add, List.drop_drop]
            rw [e9]
            congr 2
            rw [← e9]
            have h8 : 8 < xs.length := by omega
            rw [List.drop_eq_getElem_cons h8, Nat.add_comm 1, List.take_succ_cons]
            simp only [List.getD, List.getElem?_eq_getElem h8, Option.getD_some]
            congr 1
            rw [List.drop_take]
            congr 1
            omega
end Go.Proofs.YtmgppjfohabdmabDoor
