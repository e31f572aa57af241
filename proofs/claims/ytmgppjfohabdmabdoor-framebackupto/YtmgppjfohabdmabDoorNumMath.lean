/- Plain facts of written numbers: how a number is written in groups of seven bits, how it is read. -/
namespace Go.Proofs.YtmgppjfohabdmabDoor

def uencF : Nat → Nat → List Nat
  | 0, n => [n]
  | f + 1, n => if n < 128 then [n] else (n % 128 + 128) :: uencF f (n / 128)
def uenc (n : Nat) : List Nat := uencF 10 n
theorem uencF_small (f n : Nat) (h : n < 128) : uencF f n = [n] := by
  cases f with
  | zero => rfl
  | succ f => simp [uencF, h]
theorem uencF_step (f n : Nat) (h : ¬ n < 128) : uencF (f + 1) n = (n % 128 + 128) :: uencF f (n / 128) := by simp [uencF, h]
theorem uencF_lt : ∀ (f n : Nat), n < 128 ^ (f + 1) → ∀ x ∈ uencF f n, x < 256
  | 0, n, h, x, hx => by
    simp only [uencF, List.mem_singleton] at hx
    subst hx
    simp only [Nat.zero_add, Nat.pow_one] at h
    omega
  | f + 1, n, h, x, hx => by
    by_cases hn : n < 128
    · rw [uencF_small _ _ hn, List.mem_singleton] at hx
      omega
    · rw [uencF_step _ _ hn] at hx
      rcases List.mem_cons.1 hx with rfl | hx
      · omega
      · exact uencF_lt f (n / 128) (by rw [Nat.div_lt_iff_lt_mul (by decide)]; exact h) x hx
theorem uencF_length : ∀ (f n : Nat), 1 ≤ (uencF f n).length ∧ (uencF f n).length ≤ f + 1
  | 0, n => by simp [uencF]
  | f + 1, n => by
    by_cases hn : n < 128
    · rw [uencF_small _ _ hn]; simp
    · rw [uencF_step _ _ hn]
      have := uencF_length f (n / 128)
      simp only [List.length_cons]
      omega
theorem uenc_length (v : Nat) : 1 ≤ (uenc v).length ∧ (uenc v).length ≤ 11 := uencF_length 10 v
theorem uenc_lt {n : Nat} (h : n < 18446744073709551616) : ∀ x ∈ uenc n, x < 256 := uencF_lt 10 n (Nat.lt_of_lt_of_le h (by decide))

/-- Reading: the number, how many bytes, the error. -/
def udec : List Nat → Nat → Nat → Nat × Nat × Nat
  | [], _, _ => (0, 0, 3)
  | x :: r, i, acc =>
    if i = 9 ∧ 1 < x then (0, 0, 11)
    else if 0 < i ∧ x = 0 then (0, 0, 10)
    else if x < 128 then (acc + x % 128 * 128 ^ i, i + 1, 0)
    else udec r (i + 1) (acc + x % 128 * 128 ^ i)
def uread (xs : List Nat) : Nat × Nat × Nat := udec xs 0 0
theorem udec_bound : ∀ (xs : List Nat) (i acc : Nat), i ≤ 9 → acc < 128 ^ i → (udec xs i acc).1 < 18446744073709551616
  | [], i, acc, _, _ => by simp [udec]
  | x :: r, i, acc, hi, ha => by
    unfold udec
    split
    · simp
    · split
      · simp
      · rename_i h1 h2
        split
        · rename_i h3
          have hx : x % 128 * 128 ^ i + acc < 18446744073709551616 := by
            rcases (show i ≤ 8 ∨ i = 9 by omega) with h | h
            · have h4 : x % 128 ≤ 127 := by omega
              have h5 : x % 128 * 128 ^ i ≤ 127 * 128 ^ i := Nat.mul_le_mul_right _ h4
              have h6 : 128 ^ i ≤ 128 ^ 8 := Nat.pow_le_pow_right (by decide) h
              have h7 : (128 : Nat) ^ 8 = 72057594037927936 := by decide
              omega
            · subst h
              have h4 : x % 128 ≤ 1 := by omega
              have h5 : x % 128 * 128 ^ 9 ≤ 1 * 128 ^ 9 := Nat.mul_le_mul_right _ h4
              have h7 : (128 : Nat) ^ 9 = 9223372036854775808 := by decide
              omega
          simp only
          omega
        · rename_i h3
          have hi9 : i ≠ 9 := fun e => h1 ⟨e, by omega⟩
          refine udec_bound r (i + 1) _ (by omega) ?_
          have h4 : x % 128 ≤ 127 := by omega
          have h5 : x % 128 * 128 ^ i ≤ 127 * 128 ^ i := Nat.mul_le_mul_right _ h4
          rw [Nat.pow_succ]
          omega
theorem uread_lt (xs : List Nat) : (uread xs).1 < 18446744073709551616 := udec_bound xs 0 0 (by decide) (by decide)
theorem udec_end : ∀ (xs : List Nat) (i acc : Nat), (udec xs i acc).2.2 = 0 → i < (udec xs i acc).2.1 ∧ (udec xs i acc).2.1 ≤ i + xs.length
  | [], i, acc, h => by simp [udec] at h
  | x :: r, i, acc, h => by
    unfold udec at h ⊢
    by_cases h1 : i = 9 ∧ 1 < x
    · rw [if_pos h1] at h; simp at h
    · rw [if_neg h1] at h ⊢
      by_cases h2 : 0 < i ∧ x = 0
      · rw [if_pos h2] at h; simp at h
      · rw [if_neg h2] at h ⊢
        by_cases h3 : x < 128
        · rw [if_pos h3]; simp
        · rw [if_neg h3] at h ⊢
          have := udec_end r (i + 1) _ h
          simp only [List.length_cons]
          omega
theorem udec_bad : ∀ (xs : List Nat) (i acc : Nat), (udec xs i acc).2.2 ≠ 0 → (udec xs i acc).1 = 0 ∧ (udec xs i acc).2.1 = 0
  | [], i, acc, h => by simp [udec]
  | x :: r, i, acc, h => by
    unfold udec at h ⊢
    by_cases h1 : i = 9 ∧ 1 < x
    · rw [if_pos h1]; simp
    · rw [if_neg h1] at h ⊢
      by_cases h2 : 0 < i ∧ x = 0
      · rw [if_pos h2]; simp
      · rw [if_neg h2] at h ⊢
        by_cases h3 : x < 128
        · rw [if_pos h3] at h; simp at h
        · rw [if_neg h3] at h ⊢
          exact udec_bad r (i + 1) _ h
end Go.Proofs.YtmgppjfohabdmabDoor
