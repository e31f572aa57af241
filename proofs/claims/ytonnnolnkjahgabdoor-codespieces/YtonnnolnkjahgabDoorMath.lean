/- Plain facts of numbers and lists for the frame layer: the sum bit by bit is the sum by half bytes; no condition but those typed at each fact. -/
namespace Go.Proofs.YtonnnolnkjahgabDoor

def poly : Nat := 3988292384
def bit1 (r : Nat) : Nat := if r % 2 = 1 then (r / 2) ^^^ poly else r / 2
def bit4 (r : Nat) : Nat := bit1 (bit1 (bit1 (bit1 r)))
def tab : List Nat := [0, 498536548, 997073096, 651767980, 1994146192, 1802195444, 1303535960, 1342533948, 3988292384, 4027552580, 3604390888, 3412177804, 2607071920, 2262029012, 2685067896, 3183342108]
def byteStep (r x : Nat) : Nat := bit4 (bit4 (r ^^^ x))
def crcReg (r : Nat) (p : List Nat) : Nat := p.foldl byteStep r
def crcOn (c : Nat) (p : List Nat) : Nat := 4294967295 - crcReg (4294967295 - c) p

theorem bit1_testBit (r i : Nat) : (bit1 r).testBit i = (r.testBit (i + 1) ^^ (r.testBit 0 && poly.testBit i)) := by
  unfold bit1
  have h0 : r.testBit 0 = decide (r % 2 = 1) := by simp [Nat.testBit_zero]
  rw [h0]
  by_cases h : r % 2 = 1
  · simp [h, Nat.testBit_xor, Nat.testBit_add_one]
  · simp [h, Nat.testBit_add_one]

theorem bit1_xor (a b : Nat) : bit1 (a ^^^ b) = bit1 a ^^^ bit1 b := by
  apply Nat.eq_of_testBit_eq
  intro i
  simp only [bit1_testBit, Nat.testBit_xor]
  cases a.testBit (i + 1) <;> cases b.testBit (i + 1) <;> cases a.testBit 0 <;> cases b.testBit 0 <;> cases poly.testBit i <;> rfl

theorem bit4_xor (a b : Nat) : bit4 (a ^^^ b) = bit4 a ^^^ bit4 b := by simp [bit4, bit1_xor]

theorem bit4_high (q : Nat) : bit4 (16 * q) = q := by
  have e1 : bit1 (16 * q) = 8 * q := by unfold bit1; rw [if_neg (by omega)]; omega
  have e2 : bit1 (8 * q) = 4 * q := by unfold bit1; rw [if_neg (by omega)]; omega
  have e3 : bit1 (4 * q) = 2 * q := by unfold bit1; rw [if_neg (by omega)]; omega
  have e4 : bit1 (2 * q) = q := by unfold bit1; rw [if_neg (by omega)]; omega
  simp [bit4, e1, e2, e3, e4]

theorem bit4_low : ∀ l, l < 16 → bit4 l = tab.getD l 0 := by decide

theorem split16 (r : Nat) : r = (16 * (r / 16)) ^^^ (r % 16) := by
  apply Nat.eq_of_testBit_eq
  intro i
  rw [Nat.testBit_xor, show 16 * (r / 16) = (r / 2 ^ 4) * 2 ^ 4 by omega, show r % 16 = r % 2 ^ 4 by rfl, Nat.testBit_mul_two_pow, Nat.testBit_mod_two_pow, Nat.testBit_div_two_pow]
  by_cases h : 4 ≤ i
  · simp [h, show ¬ i < 4 by omega, show i - 4 + 4 = i by omega]
  · simp [h, show i < 4 by omega]

theorem bit4_eq (r : Nat) : bit4 r = (r / 16) ^^^ tab.getD (r % 16) 0 := by
  conv => lhs; rw [split16 r]
  rw [bit4_xor, bit4_high, bit4_low _ (Nat.mod_lt _ (by decide))]

theorem bit1_lt {r : Nat} (h : r < 4294967296) : bit1 r < 4294967296 := by
  unfold bit1
  split
  · exact Nat.xor_lt_two_pow (n := 32) (by omega) (by decide)
  · omega
theorem bit4_lt {r : Nat} (h : r < 4294967296) : bit4 r < 4294967296 := bit1_lt (bit1_lt (bit1_lt (bit1_lt h)))
theorem xor32_lt {a b : Nat} (ha : a < 4294967296) (hb : b < 4294967296) : a ^^^ b < 4294967296 := Nat.xor_lt_two_pow (n := 32) ha hb
theorem byteStep_lt {r x : Nat} (h : r < 4294967296) (hx : x < 4294967296) : byteStep r x < 4294967296 := bit4_lt (bit4_lt (xor32_lt h hx))
theorem crcReg_lt : ∀ (p : List Nat) (r : Nat), r < 4294967296 → (∀ x ∈ p, x < 256) → crcReg r p < 4294967296
  | [], r, h, _ => h
  | x :: p, r, h, hp => crcReg_lt p _ (byteStep_lt h (by have := hp x (by simp); omega)) (fun y hy => hp y (by simp [hy]))
theorem crcReg_append (r : Nat) (p q : List Nat) : crcReg r (p ++ q) = crcReg (crcReg r p) q := by simp [crcReg]
theorem crcOn_lt (c : Nat) (p : List Nat) : crcOn c p < 4294967296 := by unfold crcOn; omega
theorem crcOn_append (c : Nat) (p q : List Nat) (hp : ∀ x ∈ p, x < 256) : crcOn (crcOn c p) q = crcOn c (p ++ q) := by
  have := crcReg_lt p (4294967295 - c) (by omega) hp
  unfold crcOn
  rw [crcReg_append, show 4294967295 - (4294967295 - crcReg (4294967295 - c) p) = crcReg (4294967295 - c) p by omega]
end Go.Proofs.YtonnnolnkjahgabDoor
