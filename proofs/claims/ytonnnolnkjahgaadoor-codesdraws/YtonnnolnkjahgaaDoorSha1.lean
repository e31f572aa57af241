/- The contracts of digest.round, the reference's round, digest.word and digest.spread: for every word, every row of four bytes or more, every block of 64 bytes. -/
import Derived.Test.YtonnnolnkjahgaaDoorBl
namespace Go.Proofs.YtonnnolnkjahgaaDoor
open Go.RowKit

theorem ofInt32 (a : Nat) : (BitVec.ofInt 32 (a : Int)).toNat = a % 4294967296 := by simp
theorem wx (a b : Nat) : bits BinOp.xor IntKind.u32 (a : Int) (b : Int) = ((x32 a b : Nat) : Int) := by
  have h1 : bits BinOp.xor IntKind.u32 (a : Int) (b : Int) = bits BinOp.xor IntKind.u32 ((a % 4294967296 : Nat) : Int) ((b % 4294967296 : Nat) : Int) := by
    have e : ∀ c : Nat, BitVec.ofInt 32 (c : Int) = BitVec.ofInt 32 ((c % 4294967296 : Nat) : Int) := fun c => by apply BitVec.eq_of_toNat_eq; rw [ofInt32, ofInt32]; omega
    unfold bits
    simp only [IntKind.bits]
    rw [e a, e b]
  rw [h1, u32_xor_nat _ _ (by omega) (by omega)]; rfl
theorem wa (a b : Nat) : bits BinOp.and IntKind.u32 (a : Int) (b : Int) = ((an32 a b : Nat) : Int) := by
  have h1 : bits BinOp.and IntKind.u32 (a : Int) (b : Int) = bits BinOp.and IntKind.u32 ((a % 4294967296 : Nat) : Int) ((b % 4294967296 : Nat) : Int) := by
    have e : ∀ c : Nat, BitVec.ofInt 32 (c : Int) = BitVec.ofInt 32 ((c % 4294967296 : Nat) : Int) := fun c => by apply BitVec.eq_of_toNat_eq; rw [ofInt32, ofInt32]; omega
    unfold bits
    simp only [IntKind.bits]
    rw [e a, e b]
  rw [h1, u32_and_nat _ _ (by omega) (by omega)]; rfl
theorem wo (a b : Nat) : bits BinOp.or IntKind.u32 (a : Int) (b : Int) = ((o32 a b : Nat) : Int) := by
  have h1 : bits BinOp.or IntKind.u32 (a : Int) (b : Int) = bits BinOp.or IntKind.u32 ((a % 4294967296 : Nat) : Int) ((b % 4294967296 : Nat) : Int) := by
    have e : ∀ c : Nat, BitVec.ofInt 32 (c : Int) = BitVec.ofInt 32 ((c % 4294967296 : Nat) : Int) := fun c => by apply BitVec.eq_of_toNat_eq; rw [ofInt32, ofInt32]; omega
    unfold bits
    simp only [IntKind.bits]
    rw [e a, e b]
  rw [h1, u32_or_nat _ _ (by omega) (by omega)]; rfl
theorem wn (a : Nat) : bits BinOp.xor IntKind.u32 IntKind.u32.max (a : Int) = ((n32 a : Nat) : Int) := by
  rw [show IntKind.u32.max = ((4294967295 : Nat) : Int) from by decide, wx]; rfl
theorem wn' (a : Nat) : bits BinOp.xor IntKind.u32 (if IntKind.u32.signed = true then -1 else IntKind.u32.max) (a : Int) = ((n32 a : Nat) : Int) := wn a
theorem wadd (a b : Nat) : ((a : Int) + (b : Int)) % 4294967296 = ((a32 a b : Nat) : Int) := by unfold a32; omega

set_option maxRecDepth 100000 in
theorem round_any (x n : Nat) (w : World) (hn : n < 32) (h0 : 0 < n) : Calls Tryd.prog 72 #[.int .u32 (x : Int), .int .u64 (n : Int)] w fun e w' => e = .returned (.int .u32 ((rot x n : Nat) : Int)) ∧ w' = w := by
  have HE : Hid (bits BinOp.or IntKind.u32 ((x : Int) / 2 ^ n) ((x : Int) * 2 ^ (32 - n) % 4294967296) = ((rot x n : Nat) : Int)) := by
    show _ = _
    rw [show ((x : Int) / 2 ^ n) = ((x / 2 ^ n : Nat) : Int) by simp, show ((x : Int) * 2 ^ (32 - n) % 4294967296) = ((x * 2 ^ (32 - n) % 4294967296 : Nat) : Int) by simp, wo]; rfl
  go_enter Tryd.func72, Tryd.ntmps72
  go_wp2
  go_ret
  exact ⟨by rw [← HE.out]; rfl, rfl⟩
set_option maxRecDepth 100000 in
theorem refRound_any (x n : Nat) (w : World) (hn : n < 32) (h0 : 0 < n) : Calls Tryd.prog 73 #[.int .u32 (x : Int), .int .i64 (n : Int)] w fun e w' => e = .returned (.int .u32 ((rot x n : Nat) : Int)) ∧ w' = w := by
  have HE : Hid (bits BinOp.or IntKind.u32 ((x : Int) / 2 ^ n) ((x : Int) * 2 ^ (32 - n) % 4294967296) = ((rot x n : Nat) : Int)) := by
    show _ = _
    rw [show ((x : Int) / 2 ^ n) = ((x / 2 ^ n : Nat) : Int) by simp, show ((x : Int) * 2 ^ (32 - n) % 4294967296) = ((x * 2 ^ (32 - n) % 4294967296 : Nat) : Int) by simp, wo]; rfl
  go_enter Tryd.func73, Tryd.ntmps73
  go_wp2
  go_ret
  exact ⟨by rw [← HE.out]; rfl, rfl⟩

theorem or4b (x0 x1 x2 x3 : Nat) (h0 : x0 < 256) (h1 : x1 < 256) (h2 : x2 < 256) (h3 : x3 < 256) :
    bits BinOp.or IntKind.u32 (bits BinOp.or IntKind.u32 (bits BinOp.or IntKind.u32 ((x0 : Int) * 16777216) ((x1 : Int) * 65536)) ((x2 : Int) * 256)) (x3 : Int) = ((be4 x0 x1 x2 x3 : Nat) : Int) := by
  have e1 : bits BinOp.or IntKind.u32 ((x0 : Int) * 16777216) ((x1 : Int) * 65536) = ((16777216 * x0 + 65536 * x1 : Nat) : Int) := by
    rw [show ((x0 : Int) * 16777216) = ((16777216 * x0 : Nat) : Int) from by omega, show ((x1 : Int) * 65536) = ((65536 * x1 : Nat) : Int) from by omega, u32_or_nat _ _ (by omega) (by omega), nat_join 24 _ _ (by omega) (by omega)]
  have e2 : bits BinOp.or IntKind.u32 ((16777216 * x0 + 65536 * x1 : Nat) : Int) ((x2 : Int) * 256) = ((16777216 * x0 + 65536 * x1 + 256 * x2 : Nat) : Int) := by
    rw [show ((x2 : Int) * 256) = ((256 * x2 : Nat) : Int) from by omega, u32_or_nat _ _ (by omega) (by omega), nat_join 16 _ _ (by omega) (by omega)]
  rw [e1, e2, u32_or_nat _ _ (by omega) (by omega), nat_join 8 _ _ (by omega) (by omega)]
  unfold be4; omega
def word4 (xs : List Nat) : Nat := be4 (xs.getD 0 0) (xs.getD 1 0) (xs.getD 2 0) (xs.getD 3 0)
set_option maxHeartbeats 400000 in
set_option maxRecDepth 100000 in
theorem word_any (n cap b off : Nat) (xs : List Nat) (w : World) (h4 : 4 ≤ xs.length) (hn : n = xs.length) (hx : ∀ x ∈ xs, x < 256) (hr : Row w (some ⟨b, off, none⟩) xs) :
    Calls Tryd.prog 74 #[.slice (some ⟨b, off, none⟩) n cap] w fun e w' => e = .returned (.int .u32 ((word4 xs : Nat) : Int)) ∧ ∃ m, w' = w.drewN m := by
  obtain ⟨hc⟩ : Nonempty (∀ i, i < xs.length → w.cell? ⟨b, off + i, none⟩ = some (.int .u8 ((xs.getD i 0 : Nat) : Int))) := by
    rcases hr with h | ⟨b', off', h, hc⟩
    · subst h; simp at h4
    · cases h; exact ⟨hc⟩
  have c0 : w.cell? ⟨b, off, none⟩ = some (.int .u8 ((xs.getD 0 0 : Nat) : Int)) := hc 0 (by omega)
  have c1 := hc 1 (by omega)
  have c2 := hc 2 (by omega)
  have c3 := hc 3 (by omega)
  have g0 := lt_get hx 0
  have g1 := lt_get hx 1
  have g2 := lt_get hx 2
  have g3 := lt_get hx 3
  have HN : Hid (word4 xs = be4 (xs.getD 0 0) (xs.getD 1 0) (xs.getD 2 0) (xs.getD 3 0)) := rfl
  clear hc hr hx
  generalize word4 xs = N at *
  generalize xs.getD 0 0 = x0 at *
  generalize xs.getD 1 0 = x1 at *
  generalize xs.getD 2 0 = x2 at *
  generalize xs.getD 3 0 = x3 at *
  have l0 : (0 : Int) < (n : Int) := by omega
  have l1 : (1 : Int) < (n : Int) := by omega
  have l2 : (2 : Int) < (n : Int) := by omega
  have l3 : (3 : Int) < (n : Int) := by omega
  clear hn h4
  go_enter Tryd.func74, Tryd.ntmps74
  go_wp2
  go_quiet (fail)
  go_wp2
  go_ret
  exact ⟨by rw [HN.out, ← or4b x0 x1 x2 x3 g0 g1 g2 g3]; rfl, nq, rfl⟩
end Go.Proofs.YtonnnolnkjahgaaDoor
