/- The contracts of digest.round, the reference's round, digest.word and digest.spread: for every word, every row of four bytes or more, every block of 64 bytes. -/
import Derived.Test.YtonnnolnkjahgabDoorBl
namespace Go.Proofs.YtonnnolnkjahgabDoor
open Go.RowKit

theorem ofInt32 (a : Nat) : (BitVec.ofInt 32 (a : Int)).toNat = a % 4294967296 := by simp
theorem wx (a b : Nat) : bits BinOp.xor IntKind.u32 (a : Int) (b : Int) = ((x32 a b : Nat) : Int) := by
  have h1 : bits BinOp.xor IntKind.u32 (a : Int) (b : Int) = bits BinOp.xor IntKind.u32 ((a % 4294967296 : Nat) : Int) ((b % 4294967296 : Nat) : Int) := by
    have e : ∀ c : Nat, BitVec.ofInt 32 (c : Int) = BitVec.ofInt 32 ((c % 4294967296 : Nat) : Int) := fun c => by apply BitVec.eq_of_toNat_eq; rw [ofInt32, ofInt32]; omega
    unfold bits
    simp only [IntKind.bits]
    rw [e a, e b]
  rw [h1, u32_xor_nat _ _ (by omega) (by omega)]; rfl
theorem wa (a b : Nat) : bits BinOp.and IntKind.u32 (a : Int) (b : Int) = ((an32 a b : Nat) : Int) := by
  have h1 : bits BinOp.and IntKind.u32 (a : Int) (b : Int) = bits BinOp.and IntKind.u32 ((a % 4294967296 : Nat) : Int) ((b % 4294967296 : Nat) : Int) := by
    have e : ∀ c : Nat, BitVec.ofInt 32 (c : Int) = BitVec.ofInt 32 ((c % 4294967296 : Nat) : Int) := fun c => by apply BitVec.eq_of_toNat_eq; rw [ofInt32, ofInt32]; omega
    unfold bits
    simp only [IntKind.bits]
    rw [e a, e b]
  rw [h1, u32_and_nat _ _ (by omega) (by omega)]; rfl
theorem wo (a b : Nat) : bits BinOp.or IntKind.u32 (a : Int) (b : Int) = ((o32 a b : Nat) : Int) := by
  have h1 : bits BinOp.or IntKind.u32 (a : Int) (b : Int) = bits BinOp.or IntKind.u32 ((a % 4294967296 : Nat) : Int) ((b % 4294967296 : Nat) : Int) := by
    have e : ∀ c : Nat, BitVec.ofInt 32 (c : Int) = BitVec.ofInt 32 ((c % 4294967296 : Nat) : Int) := fun c => by apply BitVec.eq_of_toNat_eq; rw [ofInt32, ofInt32]; omega
    unfold bits
    simp only [IntKind.bits]
    rw [e a, e b]
  rw [h1, u32_or_nat _ _ (by omega) (by omega)]; rfl
theorem wn (a : Nat) : bits BinOp.xor IntKind.u32 IntKind.u32.max (a : Int) = ((n32 a : Nat) : Int) := by
  rw [show IntKind.u32.max = ((4294967295 : Nat) : Int) from by decide, wx]; rfl
theorem wn' (a : Nat) : bits BinOp.xor IntKind.u32 (if IntKind.u32.signed = true then -1 else IntKind.u32.max) (a : Int) = ((n32 a : Nat) : Int) := wn a
theorem wadd (a b : Nat) : ((a : Int) + (b : Int)) % 4294967296 = ((a32 a b : Nat) : Int) := by unfold a32; omega

theorem or4b (x0 x1 x2 x3 : Nat) (h0 : x0 < 256) (h1 : x1 < 256) (h2 : x2 < 256) (h3 : x3 < 256) :
    bits BinOp.or IntKind.u32 (bits BinOp.or IntKind.u32 (bits BinOp.or IntKind.u32 ((x0 : Int) * 16777216) ((x1 : Int) * 65536)) ((x2 : Int) * 256)) (x3 : Int) = ((be4 x0 x1 x2 x3 : Nat) : Int) := by
  have e1 : bits BinOp.or IntKind.u32 ((x0 : Int) * 16777216) ((x1 : Int) * 65536) = ((16777216 * x0 + 65536 * x1 : Nat) : Int) := by
    rw [show ((x0 : Int) * 16777216) = ((16777216 * x0 : Nat) : Int) from by omega, show ((x1 : Int) * 65536) = ((65536 * x1 : Nat) : Int) from by omega, u32_or_nat _ _ (by omega) (by omega), nat_join 24 _ _ (by omega) (by omega)]
  have e2 : bits BinOp.or IntKind.u32 ((16777216 * x0 + 65536 * x1 : Nat) : Int) ((x2 : Int) * 256) = ((16777216 * x0 + 65536 * x1 + 256 * x2 : Nat) : Int) := by
    rw [show ((x2 : Int) * 256) = ((256 * x2 : Nat) : Int) from by omega, u32_or_nat _ _ (by omega) (by omega), nat_join 16 _ _ (by omega) (by omega)]
  rw [e1, e2, u32_or_nat _ _ (by omega) (by omega), nat_join 8 _ _ (by omega) (by omega)]
  unfold be4; omega
def word4 (xs : List Nat) : Nat := be4 (xs.getD 0 0) (xs.getD 1 0) (xs.getD 2 0) (xs.getD 3 0)
end Go.Proofs.YtonnnolnkjahgabDoor
