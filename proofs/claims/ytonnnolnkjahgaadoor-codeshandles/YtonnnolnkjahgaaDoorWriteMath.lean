/- What a Hash holds behind whole blocks; what more bytes make of it. -/
import Derived.Test.YtonnnolnkjahgaaDoorShaMath
namespace Go.Proofs.YtonnnolnkjahgaaDoor

/-- The bytes behind the whole blocks. -/
def rest (l : List Nat) : List Nat := l.drop (64 * (l.length / 64))
def hold (l : List Nat) : List Nat := rest l ++ List.replicate (64 - (rest l).length) 0
theorem rest_length (l : List Nat) : (rest l).length = l.length % 64 := by unfold rest; rw [List.length_drop]; omega
theorem hold_length (l : List Nat) : (hold l).length = 64 := by have := rest_length l; unfold hold; rw [List.length_append, List.length_replicate]; omega
theorem rest_lt {l : List Nat} (h : ∀ x ∈ l, x < 256) : ∀ x ∈ rest l, x < 256 := fun x hx => h x (List.mem_of_mem_drop hx)
theorem hold_lt {l : List Nat} (h : ∀ x ∈ l, x < 256) : ∀ x ∈ hold l, x < 256 := fun x hx => by
  rcases List.mem_append.1 hx with hx | hx
  · exact rest_lt h x hx
  · rw [List.eq_of_mem_replicate hx]; decide
theorem rest_short {l : List Nat} (h : l.length < 64) : rest l = l := by unfold rest; rw [show l.length / 64 = 0 by omega]; rfl
theorem split_rest (l : List Nat) : l = l.take (64 * (l.length / 64)) ++ rest l := (List.take_append_drop _ _).symm
theorem head_length (l : List Nat) : (l.take (64 * (l.length / 64))).length % 64 = 0 := by rw [List.length_take]; omega
theorem absorb_head (r l : List Nat) : absorb r (l.take (64 * (l.length / 64))) = absorb r l := by
  conv => rhs; rw [split_rest l]
  rw [absorb_append _ _ _ (head_length l), absorb_short _ (rest l) (by rw [rest_length]; omega)]
theorem absorb_more (r l c : List Nat) (h : l.length % 64 + c.length < 64) : absorb r (l ++ c) = absorb r l ∧ rest (l ++ c) = rest l ++ c := by
  constructor
  · conv => lhs; rw [split_rest l]
    rw [List.append_assoc, absorb_append _ _ _ (head_length l), absorb_short _ (rest l ++ c) (by rw [List.length_append, rest_length]; omega), absorb_head]
  · have e : (l ++ c).length / 64 = l.length / 64 := by rw [List.length_append]; omega
    unfold rest
    rw [e, List.drop_append_of_le_length (by omega)]
theorem absorb_full (r l c : List Nat) (h : l.length % 64 + c.length = 64) : absorb r (l ++ c) = compress (absorb r l) (rest l ++ c) ∧ rest (l ++ c) = [] := by
  constructor
  · conv => lhs; rw [split_rest l]
    rw [List.append_assoc, absorb_append _ _ _ (head_length l), absorb_one _ (rest l ++ c) (by rw [List.length_append, rest_length]; omega), absorb_head]
  · have e : (l ++ c).length / 64 = l.length / 64 + 1 := by rw [List.length_append]; omega
    have e2 : (l ++ c).length ≤ 64 * ((l ++ c).length / 64) := by rw [e, List.length_append]; omega
    unfold rest
    rw [List.drop_of_length_le e2]
theorem hold_nil {l : List Nat} (h : rest l = []) : hold l = List.replicate 64 0 := by unfold hold; rw [h]; rfl
/-- Bytes go behind those that are held. -/
theorem hold_put (l c : List Nat) (h : l.length % 64 + c.length ≤ 64) : (hold l).take (l.length % 64) ++ c ++ (hold l).drop (l.length % 64 + c.length) = rest l ++ c ++ List.replicate (64 - (l.length % 64 + c.length)) 0 := by
  have e := rest_length l
  unfold hold
  rw [List.take_append_of_le_length (by omega), List.take_of_length_le (by omega), List.drop_append, List.drop_of_length_le (by omega), List.nil_append, List.drop_replicate, e]
  congr 2
  omega
theorem take_more (t xs : List Nat) (k m : Nat) : t ++ xs.take (k + m) = (t ++ xs.take k) ++ (xs.drop k).take m := by
  rw [List.append_assoc]
  congr 1
  rw [List.take_add]
theorem taken_length {t xs : List Nat} {s k : Nat} (ht : t.length = s % 64) (hk : k ≤ xs.length) : (t ++ xs.take k).length % 64 = (s + k) % 64 := by
  rw [List.length_append, List.length_take, ht]; omega
theorem chunk_length {xs : List Nat} {k m : Nat} (h : k + m ≤ xs.length) : ((xs.drop k).take m).length = m := by rw [List.length_take, List.length_drop]; omega
theorem write_part (r : List Nat) {t xs : List Nat} {s k m hd : Nat} (ht : t.length = s % 64) (hh : hd = (s + k) % 64) (hk : k + m ≤ xs.length) (hm : hd + m < 64) :
    absorb r (t ++ xs.take (k + m)) = absorb r (t ++ xs.take k) ∧ hold (t ++ xs.take (k + m)) = (hold (t ++ xs.take k)).take hd ++ (xs.drop k).take m ++ (hold (t ++ xs.take k)).drop (hd + m) := by
  have hl := taken_length ht (show k ≤ xs.length by omega)
  have hc := chunk_length hk
  have h := absorb_more r (t ++ xs.take k) ((xs.drop k).take m) (by omega)
  have hp := hold_put (t ++ xs.take k) ((xs.drop k).take m) (by omega)
  rw [take_more]
  refine ⟨h.1, ?_⟩
  rw [hl, ← hh, hc] at hp
  rw [hp]
  have hr := rest_length (t ++ xs.take k)
  unfold hold
  rw [h.2, List.length_append, hc, hr, hl, ← hh]
theorem write_full (r : List Nat) {t xs : List Nat} {s k m hd : Nat} (ht : t.length = s % 64) (hh : hd = (s + k) % 64) (hk : k + m ≤ xs.length) (hm : hd + m = 64) :
    absorb r (t ++ xs.take (k + m)) = compress (absorb r (t ++ xs.take k)) ((hold (t ++ xs.take k)).take hd ++ (xs.drop k).take m ++ (hold (t ++ xs.take k)).drop (hd + m)) ∧ hold (t ++ xs.take (k + m)) = List.replicate 64 0 := by
  have hl := taken_length ht (show k ≤ xs.length by omega)
  have hc := chunk_length hk
  have h := absorb_full r (t ++ xs.take k) ((xs.drop k).take m) (by omega)
  have hp := hold_put (t ++ xs.take k) ((xs.drop k).take m) (by omega)
  rw [take_more]
  refine ⟨?_, hold_nil h.2⟩
  rw [hl, ← hh, hc] at hp
  rw [hp, h.1, hm]
  simp
end Go.Proofs.YtonnnolnkjahgaaDoor
