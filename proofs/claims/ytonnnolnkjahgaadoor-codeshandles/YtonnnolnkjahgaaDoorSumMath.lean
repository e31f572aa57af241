/- The last blocks of a sum. -/
import Derived.Test.YtonnnolnkjahgaaDoorWriteMath
namespace Go.Proofs.YtonnnolnkjahgaaDoor

/-- The sum out of what a Hash holds: its register, the bytes behind whole blocks, its number. -/
def fin (reg t : List Nat) (s : Nat) : List Nat := regBytes (absorb reg (padded t s))
theorem padZ_mod (m n : Nat) (h : m % 64 = n % 64) : padZ m = padZ n := by unfold padZ; rw [h]
theorem total_fin (r bs : List Nat) (past : Nat) : total r past bs = fin (absorb r bs) (rest bs) (past + bs.length) := by
  unfold total fin
  congr 1
  have e : padded bs (past + bs.length) = bs.take (64 * (bs.length / 64)) ++ padded (rest bs) (past + bs.length) := by
    unfold padded
    rw [padZ_mod bs.length (rest bs).length (by rw [rest_length]; omega)]
    rw [← List.append_assoc, ← List.append_assoc, ← split_rest bs]
  rw [e, absorb_append _ _ _ (head_length bs), absorb_head]
/-- The last blocks, where they are one. -/
theorem fin_one (reg L : List Nat) (s : Nat) (h : L.length % 64 < 56) : absorb reg (padded (rest L) s) = compress reg (((hold L).set (L.length % 64) 128).take 56 ++ eight ((8 * s) % 18446744073709551616)) := by
  have hr := rest_length L
  have e : ((hold L).set (L.length % 64) 128).take 56 = rest L ++ 128 :: List.replicate (padZ (rest L).length) 0 := by
    unfold hold
    rw [List.set_append_right _ _ (by omega), hr, Nat.sub_self, show 64 - L.length % 64 = (63 - L.length % 64) + 1 by omega, List.replicate_succ, List.set_cons_zero, List.take_append, List.take_of_length_le (by omega), hr,
      show 56 - L.length % 64 = (55 - L.length % 64) + 1 by omega, List.take_succ_cons, List.take_replicate]
    congr 3
    unfold padZ
    omega
  rw [e]
  rw [absorb_one]
  · rfl
  · unfold padded
    simp only [List.length_append, List.length_cons, List.length_replicate, eight_length]
    rw [hr]
    unfold padZ
    omega
theorem fin_two (reg L : List Nat) (s : Nat) (h : 56 ≤ L.length % 64) : absorb reg (padded (rest L) s) = compress (compress reg ((hold L).set (L.length % 64) 128)) ((List.replicate 64 0).take 56 ++ eight ((8 * s) % 18446744073709551616)) := by
  have hr := rest_length L
  have e : (hold L).set (L.length % 64) 128 = rest L ++ 128 :: List.replicate (63 - L.length % 64) 0 := by
    unfold hold
    rw [List.set_append_right _ _ (by omega), hr, Nat.sub_self, show 64 - L.length % 64 = (63 - L.length % 64) + 1 by omega, List.replicate_succ, List.set_cons_zero]
  have hl : ((hold L).set (L.length % 64) 128).length = 64 := by rw [List.length_set, hold_length]
  have hp : padded (rest L) s = (hold L).set (L.length % 64) 128 ++ ((List.replicate 64 0).take 56 ++ eight ((8 * s) % 18446744073709551616)) := by
    rw [e]
    unfold padded
    rw [show padZ (rest L).length = (63 - L.length % 64) + 56 by rw [hr]; unfold padZ; omega, ← List.replicate_append_replicate, List.take_replicate]
    simp [List.append_assoc]
  rw [hp, absorb_append _ _ _ (by rw [hl]), absorb_one _ _ hl, absorb_one _ _ (by rw [List.length_append, eight_length]; simp)]
theorem fin_length {reg : List Nat} (t : List Nat) (s : Nat) (h : reg.length = 8) : (fin reg t s).length = 32 := by unfold fin; rw [regBytes_length, absorb_length _ h]
theorem fin_lt (reg t : List Nat) (s : Nat) : ∀ x ∈ fin reg t s, x < 256 := regBytes_lt _
end Go.Proofs.YtonnnolnkjahgaaDoor
