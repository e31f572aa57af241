/- The contracts of digest.keyBlock, digest.padded: for every key, every block and pad. -/
import Derived.Test.YtonnnolnkjahgaaDoorSumTop
namespace Go.Proofs.YtonnnolnkjahgaaDoor
open Go.RowKit

/-- The key as a block. -/
def kkey (xs : List Nat) : List Nat := if 64 < xs.length then sha xs else xs
def kblk (xs : List Nat) : List Nat := kkey xs ++ List.replicate (64 - (kkey xs).length) 0
theorem kkey_length (xs : List Nat) : (kkey xs).length ≤ 64 := by
  unfold kkey
  split
  · rw [sha_length]; decide
  · omega
theorem kkey_lt {xs : List Nat} (h : ∀ x ∈ xs, x < 256) : ∀ x ∈ kkey xs, x < 256 := by
  unfold kkey
  split
  · exact sha_lt xs
  · exact h
theorem kblk_length (xs : List Nat) : (kblk xs).length = 64 := by have := kkey_length xs; unfold kblk; simp; omega
theorem kblk_lt {xs : List Nat} (h : ∀ x ∈ xs, x < 256) : ∀ x ∈ kblk xs, x < 256 := fun x hx => by
  rcases List.mem_append.1 hx with hx | hx
  · exact kkey_lt h x hx
  · rw [List.eq_of_mem_replicate hx]; decide

theorem x8 (a b : Nat) (ha : a < 256) (hb : b < 256) : bits BinOp.xor IntKind.u8 (a : Int) (b : Int) = ((a ^^^ b : Nat) : Int) := u8_xor_nat a b ha hb
theorem xor8_lt {a b : Nat} (ha : a < 256) (hb : b < 256) : a ^^^ b < 256 := Nat.xor_lt_two_pow (n := 8) ha hb
def padOf (blk : List Nat) (pad : Nat) : List Nat := blk.map (· ^^^ pad)
theorem padOf_length (blk : List Nat) (pad : Nat) : (padOf blk pad).length = blk.length := by simp [padOf]
theorem padOf_lt {blk : List Nat} {pad : Nat} (h : ∀ x ∈ blk, x < 256) (hp : pad < 256) : ∀ x ∈ padOf blk pad, x < 256 := by
  intro x hx
  obtain ⟨y, hy, rfl⟩ := List.mem_map.1 hx
  exact xor8_lt (h y hy) hp
/-- The bytes so far turned, those behind them as they were. -/
def halfPad (blk : List Nat) (pad k : Nat) : List Nat := (padOf blk pad).take k ++ blk.drop k
theorem halfPad_length (blk : List Nat) (pad k : Nat) (hk : k ≤ blk.length) : (halfPad blk pad k).length = blk.length := by simp [halfPad, padOf]; omega
theorem halfPad_get (blk : List Nat) (pad k : Nat) (hk : k < blk.length) : (halfPad blk pad k).getD k 0 = blk.getD k 0 := by
  simp only [halfPad, List.getD]
  rw [List.getElem?_append_right (by simp [padOf]; omega), List.length_take, padOf_length, Nat.min_eq_left (by omega), Nat.sub_self, List.getElem?_drop]
  simp
theorem halfPad_set (blk : List Nat) (pad k : Nat) (hk : k < blk.length) : (halfPad blk pad k).set k (blk.getD k 0 ^^^ pad) = halfPad blk pad (k + 1) := by
  have hp : k < (padOf blk pad).length := by rw [padOf_length]; exact hk
  have e : ((padOf blk pad).take k).length = k := by rw [List.length_take]; omega
  simp only [halfPad]
  rw [List.set_append_right _ _ (by omega), e, Nat.sub_self, List.drop_eq_getElem_cons hk, List.set_cons_zero, List.take_succ_eq_append_getElem hp, List.append_assoc]
  simp [padOf, List.getD, hk]

end Go.Proofs.YtonnnolnkjahgaaDoor
