/- Bits of a frame that are turned: the sum of bytes as one number that is shifted down; turned bits within 32 neighbouring ones of kind and load, or any of the sum, make the error 12; plain facts of numbers and lists. -/
import Derived.Test.YtmgppjfohabdmabDoorOpenFn
namespace Go.Proofs.YtmgppjfohabdmabDoor
open Go.RowKit

def leN : List Nat → Nat
  | [] => 0
  | x :: l => x + 256 * leN l

theorem bits1_xor (k a b : Nat) : bits1 k (a ^^^ b) = bits1 k a ^^^ bits1 k b := by
  induction k with
  | zero => rfl
  | succ k ih => simp only [bits1, ih, bit1_xor]
theorem bits1_add (a b r : Nat) : bits1 (a + b) r = bits1 a (bits1 b r) := by
  induction a with
  | zero => rw [Nat.zero_add]; rfl
  | succ a ih => rw [Nat.succ_add]; simp only [bits1, ih]
theorem bit1_even (q : Nat) : bit1 (2 * q) = q := by unfold bit1; rw [if_neg (by omega)]; omega
theorem bits1_pow (k q : Nat) : bits1 k (2 ^ k * q) = q := by
  induction k generalizing q with
  | zero => simp [bits1]
  | succ k ih =>
    rw [bits1, show 2 ^ (k + 1) * q = 2 ^ k * (2 * q) by rw [Nat.pow_succ, Nat.mul_assoc], ih, bit1_even]
theorem poly_top : poly.testBit 31 = true := by decide
theorem bit1_pos {r : Nat} (h : r < 4294967296) (h0 : r ≠ 0) : bit1 r ≠ 0 := by
  unfold bit1
  split
  · intro e
    have h31 : (r / 2 ^^^ poly).testBit 31 = false := by rw [e]; simp
    rw [Nat.testBit_xor, poly_top, Nat.testBit_lt_two_pow (show r / 2 < 2 ^ 31 by omega)] at h31
    cases h31
  · omega
theorem bits1_pos (k : Nat) {r : Nat} (h : r < 4294967296) (h0 : r ≠ 0) : bits1 k r ≠ 0 := by
  induction k with
  | zero => exact h0
  | succ k ih => exact bit1_pos (bits1_lt k h) ih

theorem xor_add {x : Nat} (h : x < 256) (n : Nat) : x ^^^ (256 * n) = x + 256 * n := by
  apply Nat.eq_of_testBit_eq
  intro i
  rw [Nat.testBit_xor, Nat.add_comm, show 256 * n + x = 2 ^ 8 * n + x by rfl, Nat.testBit_two_pow_mul_add n (show x < 2 ^ 8 from h) i, show 256 * n = 2 ^ 8 * n by rfl, Nat.testBit_two_pow_mul]
  by_cases hi : i < 8
  · simp [hi, show ¬ 8 ≤ i by omega]
  · simp [hi, show 8 ≤ i by omega, Nat.testBit_lt_two_pow (show x < 2 ^ i from Nat.lt_of_lt_of_le h (Nat.pow_le_pow_right (show 0 < 2 by decide) (show 8 ≤ i by omega)))]

theorem crcReg_bits : ∀ (p : List Nat) (r : Nat), (∀ x ∈ p, x < 256) → crcReg r p = bits1 (8 * p.length) (r ^^^ leN p)
  | [], r, _ => by simp [crcReg, bits1, leN]
  | x :: p, r, h => by
    have hx : x < 256 := h x (by simp)
    show crcReg (byteStep r x) p = _
    rw [crcReg_bits p _ (fun y hy => h y (by simp [hy])), ← bits1_8]
    have e : leN p = bits1 8 (256 * leN p) := (bits1_pow 8 (leN p)).symm
    conv => lhs; rw [e]
    rw [← bits1_xor, ← bits1_add, leN, ← xor_add hx, Nat.xor_assoc, List.length_cons, Nat.mul_succ]

theorem pow_xor (j a b : Nat) : 2 ^ j * (a ^^^ b) = 2 ^ j * a ^^^ 2 ^ j * b := by
  apply Nat.eq_of_testBit_eq
  intro i
  simp only [Nat.testBit_xor, Nat.testBit_two_pow_mul]
  by_cases h : j ≤ i <;> simp [h]

/-- Bit i of a row of bytes, turned. -/
def flip (xs : List Nat) (i : Nat) : List Nat := xs.set (i / 8) (xs.getD (i / 8) 0 ^^^ 2 ^ (i % 8))
theorem flip_length (xs : List Nat) (i : Nat) : (flip xs i).length = xs.length := by simp [flip]
theorem two_lt {i : Nat} (h : i < 8) : 2 ^ i < 256 := Nat.pow_lt_pow_right (show 1 < 2 by decide) h
theorem pow8_lt (j : Nat) : 2 ^ (j % 8) < 256 := two_lt (Nat.mod_lt j (show 0 < 8 by decide))
theorem flip_lt {xs : List Nat} (h : ∀ x ∈ xs, x < 256) (i : Nat) : ∀ x ∈ flip xs i, x < 256 := by
  intro x hx
  rcases List.mem_or_eq_of_mem_set hx with hx | rfl
  · exact h x hx
  · exact Nat.xor_lt_two_pow (n := 8) (lt_get h _) (pow8_lt i)
theorem flip_cons_lo (x : Nat) (l : List Nat) (i : Nat) (h : i < 8) : flip (x :: l) i = (x ^^^ 2 ^ i) :: l := by
  unfold flip
  rw [show i / 8 = 0 by omega, show i % 8 = i by omega]
  simp
theorem flip_cons_hi (x : Nat) (l : List Nat) (i : Nat) : flip (x :: l) (8 + i) = x :: flip l i := by
  unfold flip
  rw [show (8 + i) / 8 = i / 8 + 1 by omega, show (8 + i) % 8 = i % 8 by omega]
  simp
theorem leN_flip : ∀ (xs : List Nat) (i : Nat), (∀ x ∈ xs, x < 256) → i < 8 * xs.length → leN (flip xs i) = leN xs ^^^ 2 ^ i
  | [], i, _, h => by simp at h
  | x :: l, i, hx, h => by
    have h0 : x < 256 := hx x (by simp)
    by_cases hi : i < 8
    · have hp : 2 ^ i < 256 := two_lt hi
      rw [flip_cons_lo x l i hi, leN, leN, ← xor_add (Nat.xor_lt_two_pow (n := 8) h0 hp), ← xor_add h0, Nat.xor_assoc, Nat.xor_assoc, Nat.xor_comm (2 ^ i)]
    · obtain ⟨j, rfl⟩ : ∃ j, i = 8 + j := ⟨i - 8, by omega⟩
      have ih := leN_flip l j (fun y hy => hx y (by simp [hy])) (by rw [List.length_cons] at h; omega)
      rw [flip_cons_hi, leN, leN, ih, ← xor_add h0, ← xor_add h0, show (256 : Nat) = 2 ^ 8 by rfl, pow_xor, Nat.xor_assoc, ← Nat.pow_add]

/-- The bits from f on that a pattern's first k bits name, turned. -/
def turnK (xs : List Nat) (f pat : Nat) : Nat → List Nat
  | 0 => xs
  | k + 1 => if pat.testBit k then flip (turnK xs f pat k) (f + k) else turnK xs f pat k
def cntK (pat : Nat) : Nat → Nat
  | 0 => 0
  | k + 1 => if pat.testBit k then cntK pat k + 1 else cntK pat k
theorem turnK_length (xs : List Nat) (f pat k : Nat) : (turnK xs f pat k).length = xs.length := by
  induction k with
  | zero => rfl
  | succ k ih => unfold turnK; split <;> simp [flip_length, ih]
theorem turnK_lt {xs : List Nat} (h : ∀ x ∈ xs, x < 256) (f pat k : Nat) : ∀ x ∈ turnK xs f pat k, x < 256 := by
  induction k with
  | zero => exact h
  | succ k ih =>
    unfold turnK
    split
    · exact flip_lt ih _
    · exact ih
theorem cntK_le (pat k : Nat) : cntK pat k ≤ k := by
  induction k with
  | zero => exact Nat.le_refl _
  | succ k ih => unfold cntK; split <;> omega
theorem turnK_none {xs : List Nat} {f pat k : Nat} (h : cntK pat k = 0) : turnK xs f pat k = xs := by
  induction k with
  | zero => rfl
  | succ k ih =>
    unfold cntK at h
    unfold turnK
    split at h
    · omega
    · rename_i hb; rw [if_neg hb]; exact ih h
theorem mod_bit (pat k : Nat) : pat % 2 ^ (k + 1) = (pat % 2 ^ k) ^^^ (if pat.testBit k then 2 ^ k else 0) := by
  apply Nat.eq_of_testBit_eq
  intro i
  rw [Nat.testBit_xor, Nat.testBit_mod_two_pow, Nat.testBit_mod_two_pow]
  by_cases hb : pat.testBit k = true
  · rw [if_pos hb, Nat.testBit_two_pow]
    by_cases hi : i < k
    · simp [hi, show i < k + 1 by omega, show ¬ k = i by omega]
    · by_cases he : i = k
      · subst he; simp [hb]
      · simp [hi, show ¬ i < k + 1 by omega, show ¬ k = i by omega]
  · rw [if_neg hb, Nat.zero_testBit]
    by_cases hi : i < k
    · simp [hi, show i < k + 1 by omega]
    · by_cases he : i = k
      · subst he; simpa using hb
      · simp [hi, show ¬ i < k + 1 by omega]
theorem cntK_mod {pat k : Nat} (h : pat % 2 ^ k = 0) : cntK pat k = 0 := by
  induction k with
  | zero => rfl
  | succ k ih =>
    rw [mod_bit] at h
    unfold cntK
    by_cases hb : pat.testBit k = true
    · rw [if_pos hb] at h
      have := congrArg (Nat.testBit · k) h
      simp [Nat.testBit_mod_two_pow] at this
    · rw [if_neg hb] at h ⊢
      exact ih (by simpa using h)
theorem leN_turnK {xs : List Nat} (h : ∀ x ∈ xs, x < 256) (f pat k : Nat) (hk : f + k ≤ 8 * xs.length) : leN (turnK xs f pat k) = leN xs ^^^ 2 ^ f * (pat % 2 ^ k) := by
  induction k with
  | zero => simp [turnK, Nat.mod_one]
  | succ k ih =>
    have ih := ih (by omega)
    rw [mod_bit, pow_xor, ← Nat.xor_assoc, ← ih]
    show leN (if pat.testBit k then flip (turnK xs f pat k) (f + k) else turnK xs f pat k) = _
    by_cases hb : pat.testBit k = true
    · rw [if_pos hb, if_pos hb, leN_flip _ _ (turnK_lt h f pat k) (by rw [turnK_length]; omega), ← Nat.pow_add]
    · rw [if_neg hb, if_neg hb]; simp
theorem flip_append (a b : List Nat) (i : Nat) : flip (a ++ b) (8 * a.length + i) = a ++ flip b i := by
  induction a with
  | nil => simp
  | cons x a ih =>
    rw [List.cons_append, List.length_cons, show 8 * (a.length + 1) + i = 8 + (8 * a.length + i) by omega, flip_cons_hi, ih, List.cons_append]
theorem flip_front (a b : List Nat) (i : Nat) (h : i < 8 * a.length) : flip (a ++ b) i = flip a i ++ b := by
  unfold flip
  rw [List.set_append_left _ _ (by omega)]
  congr 2
  simp only [List.getD_eq_getElem?_getD]
  rw [List.getElem?_append_left (by omega)]
theorem turnK_append (a b : List Nat) (f pat k : Nat) : turnK (a ++ b) (8 * a.length + f) pat k = a ++ turnK b f pat k := by
  induction k with
  | zero => rfl
  | succ k ih => unfold turnK; split <;> simp [ih, Nat.add_assoc, flip_append]
theorem turnK_front (a b : List Nat) (f pat k : Nat) (h : f + k ≤ 8 * a.length) : turnK (a ++ b) f pat k = turnK a f pat k ++ b := by
  induction k with
  | zero => rfl
  | succ k ih =>
    unfold turnK
    rw [ih (by omega)]
    split
    · rw [flip_front _ _ _ (by rw [turnK_length]; omega)]
    · rfl

theorem num4_leN {s : List Nat} (h : s.length = 4) : num4 s = leN s := by
  match s, h with
  | [a, b, c, d], _ => simp [num4, leN]; omega
theorem num4_append {s : List Nat} (h : s.length = 4) (t : List Nat) : num4 (s ++ t) = num4 s := by
  match s, h with
  | [a, b, c, d], _ => rfl
theorem num4_four {v : Nat} (h : v < 4294967296) : num4 (four v) = v := by
  simp only [num4, four, byteAt, List.getD_cons_zero, List.getD_cons_succ]
  omega
theorem fsumOf_lt' (kind : Nat) (load : List Nat) : fsumOf kind load < 4294967296 := crcOn_lt _ _
theorem openErr_parts (n : Nat) (s b : List Nat) (hn : n ≤ 2097152) (hs : s.length = 4) (hb : b.length = 1 + n) :
    openErr (four n ++ (s ++ b)) = if num4 s ≠ crcOn (crcOn 0 (four n)) b then 12 else if b.getD 0 0 = 0 then 13 else 0 := by
  have h1 : num4 (four n ++ (s ++ b)) = n := by rw [num4_append (four_length n), num4_four (by omega)]
  have hl : (four n ++ (s ++ b)).length = 9 + n := by simp [four_length, hs, hb]; omega
  have h2 : (four n ++ (s ++ b)).drop 4 = s ++ b := by rw [← four_length n, List.drop_left]
  have h3 : (four n ++ (s ++ b)).take 4 = four n := by rw [← four_length n, List.take_left]
  have h4 : (four n ++ (s ++ b)).drop 8 = b := by rw [← List.append_assoc, show 8 = (four n ++ s).length by simp [four_length, hs], List.drop_left]
  have h5 : (four n ++ (s ++ b)).getD 8 0 = b.getD 0 0 := by
    have := congrArg (fun l : List Nat => l.getD 0 0) h4
    simpa [List.getD_eq_getElem?_getD, List.getElem?_drop] using this
  unfold openErr
  rw [h1, hl, h2, num4_append hs, h5, List.take_of_length_le (by omega), fsum, h3, h4, if_neg (by omega), if_neg (by omega), if_neg (by omega)]
theorem sealed_open {kind : Nat} {load : List Nat} (hk : 0 < kind) (hl : load.length ≤ 2097152) : openErr (sealed kind load) = 0 := by
  unfold sealed
  rw [openErr_parts _ _ _ hl (four_length _) (by simp; omega), num4_four (fsumOf_lt' _ _), if_neg (by rw [fsumOf]; simp), if_neg (by simp; omega)]

theorem crcOn_turned {c : Nat} {b : List Nat} {at' pat k : Nat} (hb : ∀ x ∈ b, x < 256) (hc : c < 4294967296) (hk : k ≤ 32) (hr : at' + k ≤ 8 * b.length) (h0 : pat % 2 ^ k ≠ 0) : crcOn c (turnK b at' pat k) ≠ crcOn c b := by
  intro e
  have hb' := turnK_lt hb at' pat k
  have l1 := crcReg_lt b (4294967295 - c) (by omega) hb
  have l2 := crcReg_lt (turnK b at' pat k) (4294967295 - c) (by omega) hb'
  unfold crcOn at e
  have e2 : crcReg (4294967295 - c) (turnK b at' pat k) = crcReg (4294967295 - c) b := by omega
  rw [crcReg_bits _ _ hb', crcReg_bits _ _ hb, turnK_length, leN_turnK hb _ _ _ hr, ← Nat.xor_assoc, bits1_xor] at e2
  have e3 : bits1 (8 * b.length) (2 ^ at' * (pat % 2 ^ k)) = 0 := by
    have h := congrArg (fun n => bits1 (8 * b.length) (4294967295 - c ^^^ leN b) ^^^ n) e2
    simp only [← Nat.xor_assoc, Nat.xor_self, Nat.zero_xor] at h
    exact h
  rw [show 8 * b.length = (8 * b.length - at') + at' by omega, bits1_add, bits1_pow] at e3
  exact bits1_pos _ (Nat.lt_of_lt_of_le (Nat.mod_lt _ (Nat.two_pow_pos k)) (Nat.pow_le_pow_right (show 0 < 2 by decide) hk)) h0 e3

theorem turned_load {kind : Nat} {load : List Nat} {at' pat k : Nat} (hkd : kind < 256) (hx : ∀ x ∈ load, x < 256) (hl : load.length ≤ 2097152) (hk : k ≤ 32) (hr : at' + k ≤ 8 * (1 + load.length)) (h0 : pat % 2 ^ k ≠ 0) :
    openErr (turnK (sealed kind load) (64 + at') pat k) = 12 := by
  have hb : ∀ x ∈ kind :: load, x < 256 := fun x h => by
    rcases List.mem_cons.1 h with rfl | h
    · exact hkd
    · exact hx x h
  have hl2 : (kind :: load).length = 1 + load.length := by simp; omega
  rw [sealed, ← List.append_assoc, show 64 + at' = 8 * (four load.length ++ four (fsumOf kind load)).length + at' by simp [four_length], turnK_append, List.append_assoc,
    openErr_parts _ _ _ hl (four_length _) (by rw [turnK_length]; exact hl2), num4_four (fsumOf_lt' _ _), if_pos]
  exact fun e => crcOn_turned hb (crcOn_lt _ _) hk (by rw [hl2]; exact hr) h0 e.symm
theorem turned_sum {kind : Nat} {load : List Nat} {at' pat k : Nat} (hl : load.length ≤ 2097152) (hr : at' + k ≤ 32) (h0 : pat % 2 ^ k ≠ 0) :
    openErr (turnK (sealed kind load) (32 + at') pat k) = 12 := by
  rw [sealed, show 32 + at' = 8 * (four load.length).length + at' by simp [four_length], turnK_append, turnK_front _ _ _ _ _ (by rw [four_length]; exact hr),
    openErr_parts _ _ _ hl (by rw [turnK_length, four_length]) (by simp; omega), if_pos]
  intro e
  rw [num4_leN (by rw [turnK_length, four_length]), leN_turnK (four_lt _) _ _ _ (by rw [four_length]; exact hr), ← num4_leN (four_length _), num4_four (fsumOf_lt' _ _)] at e
  have e3 : 2 ^ at' * (pat % 2 ^ k) = 0 := by
    have h := congrArg (fun n => fsumOf kind load ^^^ n) e
    simp only [← Nat.xor_assoc, Nat.xor_self, Nat.zero_xor, fsumOf] at h
    exact h
  rcases Nat.mul_eq_zero.1 e3 with h | h
  · exact absurd h (Nat.pos_iff_ne_zero.1 (Nat.two_pow_pos _))
  · exact h0 h
end Go.Proofs.YtmgppjfohabdmabDoor
