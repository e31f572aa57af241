/- How long a printed list is, and how long what is read is. -/
import Derived.Test.YtlhgjicichjbgaaGreatDoorBodyMath
namespace Go.Proofs.YtlhgjicichjbgaaGreatDoor

def tot2 (l : List Two) : Nat := (l.map fun q => q.1.length + q.2.length + 3).sum
theorem tot2_mem {l : List Two} {q : Two} (h : q ∈ l) : q.1.length + q.2.length + 3 ≤ tot2 l := by
  induction l with
  | nil => simp at h
  | cons p l ih =>
    have e : tot2 (p :: l) = p.1.length + p.2.length + 3 + tot2 l := by simp [tot2]
    rw [e]
    rcases List.mem_cons.1 h with rfl | h
    · omega
    · have := ih h; omega
theorem tot2_len (l : List Two) : 3 * l.length ≤ tot2 l := by
  induction l with
  | nil => simp
  | cons p l ih =>
    have e : tot2 (p :: l) = p.1.length + p.2.length + 3 + tot2 l := by simp [tot2]
    rw [e, List.length_cons]; omega
theorem tot2_cons (q : Two) (l : List Two) : tot2 (q :: l) = q.1.length + q.2.length + 3 + tot2 l := by simp [tot2]
theorem tot2_append (l m : List Two) : tot2 (l ++ m) = tot2 l + tot2 m := by simp [tot2]
theorem tot2_take (l : List Two) (k : Nat) : tot2 (l.take k) ≤ tot2 l := by
  have := tot2_append (l.take k) (l.drop k)
  rw [List.take_append_drop] at this
  omega
theorem seg_of (q : Two) : seg q = esc q.1 ++ [61] ++ esc q.2 := by simp [seg]
theorem seg_two (q : Two) : (esc q.1).length + (esc q.2).length + 1 = (seg q).length := by simp [seg]; omega
theorem seg_len (q : Two) : (seg q).length + 1 ≤ 3 * (q.1.length + q.2.length + 3) := by
  have h1 := (esc_len q.1).2
  have h2 := (esc_len q.2).2
  simp only [seg, List.length_append, List.length_cons]
  omega
theorem prt_len : ∀ (l : List Two), (prt l).length ≤ 3 * tot2 l
  | [] => by simp [prt]
  | [q] => by
    have := seg_len q
    rw [tot2_cons]
    show (seg q).length ≤ _
    omega
  | q :: r :: l => by
    have h1 := prt_len (r :: l)
    have h2 := seg_len q
    rw [tot2_cons]
    show (seg q ++ 38 :: prt (r :: l)).length ≤ _
    rw [List.length_append, List.length_cons]
    omega
theorem tot2_small {M : Nat} : ∀ (l : List Two), (∀ q ∈ l, q.1.length + q.2.length ≤ M) → tot2 l ≤ l.length * (M + 3)
  | [], _ => by simp [tot2]
  | q :: l, h => by
    have h1 := tot2_small l (fun y hy => h y (List.mem_cons_of_mem _ hy))
    have h2 := h q (List.mem_cons_self ..)
    rw [tot2_cons, List.length_cons, Nat.succ_mul]
    omega
theorem parse_small {M : Nat} : ∀ (n : Nat) (l : List Nat) (i : Nat) (acc r : List Two), l.length ≤ n → l.length ≤ M → (∀ q ∈ acc, q.1.length + q.2.length ≤ M) → parse l i acc = .ok r → ∀ q ∈ r, q.1.length + q.2.length ≤ M
  | n, l, i, acc, r, hn, hm, hb, h => by
    by_cases h0 : l.length = 0
    · rw [List.length_eq_zero_iff] at h0; subst h0; rw [parse_nil] at h; cases h; exact hb
    · obtain ⟨n, rfl⟩ : ∃ m, n = m + 1 := ⟨n - 1, by omega⟩
      by_cases h1 : (upTo 38 l).length = 0
      · rw [parse_empty i acc (by omega) h1] at h
        exact parse_small n _ _ _ _ (by rw [List.length_drop]; omega) (by rw [List.length_drop]; omega) hb h
      · by_cases h2 : acc.length = 64
        · rw [parse_many i acc h1 h2] at h; cases h
        · cases h3 : pairAt (upTo 38 l) i with
          | error e => rw [parse_bad i acc h1 h2 h3] at h; cases h
          | ok q =>
            rw [parse_good i acc h1 h2 h3] at h
            refine parse_small n _ _ _ _ (by rw [List.length_drop]; omega) (by rw [List.length_drop]; omega) ?_ h
            intro x hx
            rcases List.mem_append.1 hx with hx | hx
            · exact hb x hx
            · simp at hx; subst hx
              have := (pairAt_lt h3).2
              have := upTo_le 38 l
              omega
end Go.Proofs.YtlhgjicichjbgaaGreatDoor
