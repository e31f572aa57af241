/- Texts cut at a byte and at a line's end; digits as a number. -/
import Derived.Test.YtaenccjlokiejaaGreatDoorHMath
import Derived.Lib.IndexBytes
namespace Go.Proofs.YtaenccjlokiejaaGreatDoor
open Go.RowKit

theorem index_tw (c : UInt8) : ∀ l : U, ((l.takeWhile (· != c)).length = l.length ∧ Lib.index l [c] = -1) ∨ ((l.takeWhile (· != c)).length < l.length ∧ Lib.index l [c] = ((l.takeWhile (· != c)).length : Nat))
  | [] => .inl ⟨rfl, rfl⟩
  | b :: l => by
    rw [Lib.index_one]
    by_cases h : b = c
    · subst h
      right
      rw [List.takeWhile_cons]
      simp [Lib.indexByte]
    · have hb : (b == c) = false := by simpa using h
      have hn : (b != c) = true := by simpa using h
      have ih := index_tw c l
      rw [Lib.index_one] at ih
      rw [List.takeWhile_cons, hn, if_pos rfl]
      rcases ih with ⟨h1, h2⟩ | ⟨h1, h2⟩
      · left
        exact ⟨by simp [h1], by simp [Lib.indexByte, hb, h2]⟩
      · right
        refine ⟨by simp [h1], ?_⟩
        have : ¬ ((l.takeWhile (· != c)).length : Int) = -1 := by omega
        simp [Lib.indexByte, hb, h2, this]
theorem cut_one (l : U) (c : UInt8) : Lib.cut l [c] = (l.takeWhile (· != c), l.drop ((l.takeWhile (· != c)).length + 1), decide ((l.takeWhile (· != c)).length < l.length)) := by
  unfold Lib.cut
  rcases index_tw c l with ⟨h1, h2⟩ | ⟨h1, h2⟩
  · rw [h2, if_neg (by omega)]
    have h3 : l.takeWhile (· != c) = l := by rw [← take_run]; rw [h1]; exact List.take_length
    rw [h1, List.drop_eq_nil_of_le (by omega), h3]
    simp
  · rw [h2, if_pos (by omega), Int.toNat_natCast, take_run]
    simp [h1]
theorem index_ln : ∀ l : U, (cutR l = none ∧ Lib.index l [13, 10] = -1) ∨ ∃ a r, cutR l = some (a, r) ∧ Lib.index l [13, 10] = (a.length : Nat) ∧ l = a ++ 13 :: 10 :: r
  | [] => .inl ⟨rfl, rfl⟩
  | [x] => by
    left
    refine ⟨rfl, ?_⟩
    simp [Lib.index, List.isPrefixOf]
  | a :: b :: r => by
    by_cases h : a = 13 ∧ b = 10
    · obtain ⟨rfl, rfl⟩ := h
      right
      exact ⟨[], r, by simp [cutR], by simp [Lib.index, List.isPrefixOf], rfl⟩
    · have hp : ([13, 10] : U).isPrefixOf (a :: b :: r) = false := by
        simp only [List.isPrefixOf, Bool.and_true]
        rw [Bool.and_eq_false_iff]
        by_cases h1 : a = 13
        · right
          rw [beq_eq_false_iff_ne]
          exact fun e => h ⟨h1, e.symm⟩
        · left
          rw [beq_eq_false_iff_ne]
          exact fun e => h1 e.symm
      have hc : cutR (a :: b :: r) = (cutR (b :: r)).map fun x => (a :: x.1, x.2) := by rw [cutR, if_neg h]
      rw [hc]
      have hi : Lib.index (a :: b :: r) [13, 10] = if Lib.index (b :: r) [13, 10] == -1 then -1 else Lib.index (b :: r) [13, 10] + 1 := by rw [Lib.index, hp]; simp
      rw [hi]
      rcases index_ln (b :: r) with ⟨h1, h2⟩ | ⟨x, y, h1, h2, h3⟩
      · left
        rw [h1, h2]
        exact ⟨rfl, rfl⟩
      · right
        refine ⟨a :: x, y, by rw [h1]; rfl, ?_, by rw [h3]; rfl⟩
        rw [h2]
        have : ¬ ((x.length : Int) = -1) := by omega
        simp [this]
theorem cutR_some {l a r : U} (h : cutR l = some (a, r)) : Lib.cut l [13, 10] = (a, r, true) ∧ l = a ++ 13 :: 10 :: r := by
  rcases index_ln l with ⟨h1, _⟩ | ⟨x, y, h1, h2, h3⟩
  · rw [h1] at h; cases h
  · rw [h1] at h
    injection h with h
    injection h with e1 e2
    subst e1; subst e2
    refine ⟨?_, h3⟩
    unfold Lib.cut
    rw [h2, if_pos (by omega), Int.toNat_natCast]
    refine Prod.ext ?_ (Prod.ext ?_ rfl)
    · show l.take x.length = x
      rw [h3]; simp
    · show l.drop (x.length + 2) = y
      rw [h3, ← List.drop_drop]; simp
theorem cutR_none {l : U} (h : cutR l = none) : Lib.cut l [13, 10] = (l, [], false) := by
  rcases index_ln l with ⟨_, h2⟩ | ⟨x, y, h1, _, _⟩
  · unfold Lib.cut
    rw [h2, if_neg (by omega)]
  · rw [h1] at h; cases h
theorem digB_nat {c : UInt8} (h : digB c = true) : 48 ≤ c.toNat ∧ c.toNat ≤ 57 := by simpa [digB] using h
theorem numR_lt : ∀ (l : U) (acc : Nat), l.all digB = true → l.foldl (fun n c => 10 * n + (c.toNat - 48)) acc < (acc + 1) * 10 ^ l.length
  | [], acc, _ => by simp
  | c :: l, acc, h => by
    rw [List.all_cons, Bool.and_eq_true] at h
    have h1 := digB_nat h.1
    have := numR_lt l (10 * acc + (c.toNat - 48)) h.2
    rw [List.foldl_cons, List.length_cons, Nat.pow_succ]
    refine Nat.lt_of_lt_of_le this ?_
    rw [Nat.mul_comm (10 ^ l.length) 10, ← Nat.mul_assoc]
    exact Nat.mul_le_mul_right _ (by omega)
theorem parse_digits : ∀ (l : U) (acc : Nat), l.all digB = true → (acc + 1) * 10 ^ l.length ≤ 1844674407370955162 → Lib.parseUint10 acc l = .ok (l.foldl (fun n c => 10 * n + (c.toNat - 48)) acc)
  | [], acc, _, _ => rfl
  | c :: l, acc, h, hb => by
    rw [List.all_cons, Bool.and_eq_true] at h
    have h1 := digB_nat h.1
    rw [List.length_cons, Nat.pow_succ, Nat.mul_comm (10 ^ l.length) 10, ← Nat.mul_assoc] at hb
    have hp : 1 ≤ 10 ^ l.length := Nat.one_le_pow _ _ (by decide)
    have hq : (acc + 1) * 10 ≤ 1844674407370955162 := Nat.le_trans (Nat.le_mul_of_pos_right _ hp) hb
    rw [Lib.parseUint10, if_pos h1, if_neg (by omega), if_neg (by omega), List.foldl_cons, Nat.mul_comm acc 10]
    refine parse_digits l _ h.2 (Nat.le_trans (Nat.mul_le_mul_right _ ?_) hb)
    omega
theorem atoi_digits {l : U} (h : lengthB l = true) : Lib.atoiAll l = .ok (numR l : Int) ∧ numR l < 1000000000 := by
  unfold lengthB at h
  simp only [Bool.and_eq_true, decide_eq_true_eq] at h
  obtain ⟨⟨h1, h2⟩, h3⟩ := h
  have hp : 10 ^ l.length ≤ 10 ^ 9 := Nat.pow_le_pow_right (by decide) h2
  have hlt : numR l < 1000000000 := by
    have := numR_lt l 0 h3
    unfold numR
    omega
  refine ⟨?_, hlt⟩
  match l, h1, h3 with
  | c :: r, _, h3 =>
    have hc := digB_nat (by rw [List.all_cons, Bool.and_eq_true] at h3; exact h3.1 : digB c = true)
    have hg := parse_digits (c :: r) 0 h3 (by omega)
    have hg : Lib.parseUint10 0 (c :: r) = .ok (numR (c :: r)) := hg
    unfold Lib.atoiAll
    simp only
    rw [if_neg (by omega)]
    unfold Lib.parseMag
    rw [if_neg (by simp), hg]
    simp only
    rw [if_neg (by omega), if_neg (by omega), if_neg (by omega)]
end Go.Proofs.YtaenccjlokiejaaGreatDoor
