/- Plain mathematics of the reference of texts: bit by bit, tied to the groups. -/
import Derived.Test.YtonnnolnkjahgabDoorCodeMath
namespace Go.Proofs.YtonnnolnkjahgabDoor

/-- The i-th bit of bytes, 0 behind their end. -/
def bitAt (p : List Nat) (i : Nat) : Nat := p.getD (i / 8) 0 / 2 ^ (7 - i % 8) % 2
/-- The number of six bits from a place on. -/
def six (p : List Nat) (i : Nat) : Nat := 2 * (2 * (2 * (2 * (2 * (2 * 0 + bitAt p i) + bitAt p (i + 1)) + bitAt p (i + 2)) + bitAt p (i + 3)) + bitAt p (i + 4)) + bitAt p (i + 5)
theorem six_lt (p : List Nat) (i : Nat) : six p i < 64 := by unfold six bitAt; omega
/-- The text's numbers, bit by bit. -/
def r64 (p : List Nat) : List Nat := (List.range ((8 * p.length + 5) / 6)).map fun j => six p (6 * j)
theorem bitAt_skip (x y z : Nat) (r : List Nat) (i : Nat) : bitAt (x :: y :: z :: r) (i + 24) = bitAt r i := by
  unfold bitAt
  rw [show (i + 24) / 8 = i / 8 + 3 by omega, show (i + 24) % 8 = i % 8 by omega]
  simp [List.getD]
theorem six_skip (x y z : Nat) (r : List Nat) (i : Nat) : six (x :: y :: z :: r) (i + 24) = six r i := by
  unfold six
  rw [bitAt_skip, show i + 24 + 1 = i + 1 + 24 by omega, bitAt_skip, show i + 24 + 2 = i + 2 + 24 by omega, bitAt_skip, show i + 24 + 3 = i + 3 + 24 by omega, bitAt_skip, show i + 24 + 4 = i + 4 + 24 by omega, bitAt_skip, show i + 24 + 5 = i + 5 + 24 by omega, bitAt_skip]
theorem six0 (x : Nat) (r : List Nat) (hx : x < 256) : six (x :: r) 0 = x / 4 := by simp [six, bitAt]; omega
theorem six6 (x y : Nat) (r : List Nat) (hy : y < 256) : six (x :: y :: r) 6 = x % 4 * 16 + y / 16 := by simp [six, bitAt]; omega
theorem six6' (x : Nat) : six [x] 6 = x % 4 * 16 := by simp [six, bitAt]; omega
theorem six12 (x y z : Nat) (r : List Nat) (hz : z < 256) : six (x :: y :: z :: r) 12 = y % 16 * 4 + z / 64 := by simp [six, bitAt]; omega
theorem six12' (x y : Nat) : six [x, y] 12 = y % 16 * 4 := by simp [six, bitAt]; omega
theorem six18 (x y z : Nat) (r : List Nat) : six (x :: y :: z :: r) 18 = z % 64 := by simp [six, bitAt]; omega
theorem r64_g64 : ∀ (l : List Nat) (_ : ∀ x ∈ l, x < 256), r64 l = g64 l
  | x :: y :: z :: r, h => by
    have hx := h x (by simp)
    have hy := h y (by simp)
    have hz := h z (by simp)
    have ih := r64_g64 r (fun b hb => h b (by simp [hb]))
    unfold r64 at ih ⊢
    rw [show (8 * (x :: y :: z :: r).length + 5) / 6 = (8 * r.length + 5) / 6 + 4 by simp only [List.length_cons]; omega]
    simp only [List.range_succ_eq_map, List.map_cons, List.map_map, g64, Function.comp_def, Nat.succ_eq_add_one, Nat.mul_zero]
    rw [← ih]
    simp only [List.cons.injEq]
    refine ⟨six0 x _ hx, six6 x y _ hy, six12 x y z _ hz, six18 x y z _, ?_⟩
    apply List.map_congr_left
    intro j _
    rw [show 6 * (j + 1 + 1 + 1 + 1) = 6 * j + 24 by omega, six_skip]
  | [x, y], h => by
    have hx := h x (by simp)
    have hy := h y (by simp)
    rw [show r64 [x, y] = [six [x, y] 0, six [x, y] 6, six [x, y] 12] by simp [r64, List.range_succ_eq_map], six0 x _ hx, six6 x y _ hy, six12' x y]
    simp [g64]
  | [x], h => by
    have hx := h x (by simp)
    rw [show r64 [x] = [six [x] 0, six [x] 6] by simp [r64, List.range_succ_eq_map], six0 x _ hx, six6' x]
    simp [g64]
  | [], _ => by simp [r64, g64]
/-- What the reference's Base64 spells: the letters of the numbers. -/
theorem b64of_ref (l : List Nat) (h : ∀ x ∈ l, x < 256) : (List.range ((8 * l.length + 5) / 6)).map (fun j => lt64 (six l (6 * j))) = b64of l := by
  rw [b64of_g l h, ← r64_g64 l h]
  unfold r64
  rw [List.map_map]
  rfl
/-- A number's bits, the highest first. -/
def bitsOf (W n : Nat) : List Nat := (List.range W).map fun k => n / 2 ^ (W - 1 - k) % 2
def allBits (W : Nat) (v : List Nat) : List Nat := v.flatMap (bitsOf W)
theorem allBits_length (W : Nat) (v : List Nat) : (allBits W v).length = W * v.length := by
  unfold allBits
  induction v with
  | nil => rfl
  | cons n r ih => rw [List.flatMap_cons, List.length_append, ih]; simp [bitsOf, Nat.mul_add]; omega
/-- The number of eight bits of a list from a place on. -/
def eightAt (b : List Nat) (i : Nat) : Nat := 2 * (2 * (2 * (2 * (2 * (2 * (2 * (2 * 0 + b.getD i 0) + b.getD (i + 1) 0) + b.getD (i + 2) 0) + b.getD (i + 3) 0) + b.getD (i + 4) 0) + b.getD (i + 5) 0) + b.getD (i + 6) 0) + b.getD (i + 7) 0
def octs (b : List Nat) : List Nat := (List.range (b.length / 8)).map fun j => eightAt b (8 * j)
theorem bits6 (n : Nat) : bitsOf 6 n = [n / 32 % 2, n / 16 % 2, n / 8 % 2, n / 4 % 2, n / 2 % 2, n % 2] := by
  show [n / 2 ^ 5 % 2, n / 2 ^ 4 % 2, n / 2 ^ 3 % 2, n / 2 ^ 2 % 2, n / 2 ^ 1 % 2, n / 2 ^ 0 % 2] = _
  simp
theorem bits4 (n : Nat) : bitsOf 4 n = [n / 8 % 2, n / 4 % 2, n / 2 % 2, n % 2] := by
  show [n / 2 ^ 3 % 2, n / 2 ^ 2 % 2, n / 2 ^ 1 % 2, n / 2 ^ 0 % 2] = _
  simp
theorem eight_skip (u b : List Nat) (i m : Nat) (hu : u.length = m) : eightAt (u ++ b) (i + m) = eightAt b i := by
  unfold eightAt
  have e : ∀ k, (u ++ b).getD (k + m) 0 = b.getD k 0 := fun k => by simp only [List.getD]; rw [List.getElem?_append_right (by omega), show k + m - u.length = k by omega]
  rw [e, show i + m + 1 = i + 1 + m by omega, e, show i + m + 2 = i + 2 + m by omega, e, show i + m + 3 = i + 3 + m by omega, e, show i + m + 4 = i + 4 + m by omega, e, show i + m + 5 = i + 5 + m by omega, e, show i + m + 6 = i + 6 + m by omega, e, show i + m + 7 = i + 7 + m by omega, e]
theorem octs_d64 : ∀ (v : List Nat) (_ : ∀ x ∈ v, x < 64), octs (allBits 6 v) = d64 v
  | a :: b :: c :: d :: r, h => by
    have ha := h a (by simp)
    have hb := h b (by simp)
    have hc := h c (by simp)
    have hd := h d (by simp)
    have ih := octs_d64 r (fun x hx => h x (by simp [hx]))
    have e : allBits 6 (a :: b :: c :: d :: r) = [a / 32 % 2, a / 16 % 2, a / 8 % 2, a / 4 % 2, a / 2 % 2, a % 2, b / 32 % 2, b / 16 % 2, b / 8 % 2, b / 4 % 2, b / 2 % 2, b % 2, c / 32 % 2, c / 16 % 2, c / 8 % 2, c / 4 % 2, c / 2 % 2, c % 2, d / 32 % 2, d / 16 % 2, d / 8 % 2, d / 4 % 2, d / 2 % 2, d % 2] ++ allBits 6 r := by
      simp [allBits, bits6]
    rw [e]
    unfold octs at ih ⊢
    rw [List.length_append, show ([a / 32 % 2, a / 16 % 2, a / 8 % 2, a / 4 % 2, a / 2 % 2, a % 2, b / 32 % 2, b / 16 % 2, b / 8 % 2, b / 4 % 2, b / 2 % 2, b % 2, c / 32 % 2, c / 16 % 2, c / 8 % 2, c / 4 % 2, c / 2 % 2, c % 2, d / 32 % 2, d / 16 % 2, d / 8 % 2, d / 4 % 2, d / 2 % 2, d % 2].length) = 24 from rfl, show (24 + (allBits 6 r).length) / 8 = (allBits 6 r).length / 8 + 3 by omega]
    simp only [List.range_succ_eq_map, List.map_cons, List.map_map, d64, Function.comp_def, Nat.succ_eq_add_one, Nat.mul_zero]
    rw [← ih]
    simp only [List.cons.injEq]
    refine ⟨?_, ?_, ?_, ?_⟩
    · simp [eightAt]; omega
    · simp [eightAt]; omega
    · simp [eightAt]; omega
    · apply List.map_congr_left
      intro j _
      rw [show 8 * (j + 1 + 1 + 1) = 8 * j + 24 by omega, eight_skip _ _ _ 24 rfl]
  | [a, b, c], h => by
    have ha := h a (by simp)
    have hb := h b (by simp)
    have hc := h c (by simp)
    simp [octs, allBits, bits6, d64, eightAt, List.range_succ_eq_map]
    omega
  | [a, b], h => by
    have ha := h a (by simp)
    have hb := h b (by simp)
    simp [octs, allBits, bits6, d64, eightAt, List.range_succ_eq_map]
    omega
  | [a], _ => by simp [octs, allBits, bits6, d64]
  | [], _ => by simp [octs, allBits, d64]
theorem octs_d16 : ∀ (v : List Nat) (_ : ∀ x ∈ v, x < 16), octs (allBits 4 v) = d16 v
  | a :: b :: r, h => by
    have ha := h a (by simp)
    have hb := h b (by simp)
    have ih := octs_d16 r (fun x hx => h x (by simp [hx]))
    have e : allBits 4 (a :: b :: r) = [a / 8 % 2, a / 4 % 2, a / 2 % 2, a % 2, b / 8 % 2, b / 4 % 2, b / 2 % 2, b % 2] ++ allBits 4 r := by
      simp [allBits, bits4]
    rw [e]
    unfold octs at ih ⊢
    rw [List.length_append, show ([a / 8 % 2, a / 4 % 2, a / 2 % 2, a % 2, b / 8 % 2, b / 4 % 2, b / 2 % 2, b % 2].length) = 8 from rfl, show (8 + (allBits 4 r).length) / 8 = (allBits 4 r).length / 8 + 1 by omega]
    simp only [List.range_succ_eq_map, List.map_cons, List.map_map, d16, Function.comp_def, Nat.succ_eq_add_one, Nat.mul_zero]
    rw [← ih]
    simp only [List.cons.injEq]
    refine ⟨?_, ?_⟩
    · simp [eightAt]; omega
    · apply List.map_congr_left
      intro j _
      rw [show 8 * (j + 1) = 8 * j + 8 by omega, eight_skip _ _ _ 8 rfl]
  | [a], _ => by simp [octs, allBits, bits4, d16]
  | [], _ => by simp [octs, allBits, d16]
/-- Are all bits behind the whole bytes 0? -/
def restZero (b : List Nat) : Prop := ∀ i, 8 * (b.length / 8) ≤ i → i < b.length → b.getD i 0 = 0
theorem restZero_skip (u b : List Nat) (m : Nat) (hu : u.length = m) (hm : m % 8 = 0) : restZero (u ++ b) ↔ restZero b := by
  unfold restZero
  rw [List.length_append, hu]
  have e : ∀ k, (u ++ b).getD (k + m) 0 = b.getD k 0 := fun k => by simp only [List.getD]; rw [List.getElem?_append_right (by omega), show k + m - u.length = k by omega]
  constructor
  · intro h i h1 h2
    rw [← e i]
    exact h _ (by omega) (by omega)
  · intro h i h1 h2
    obtain ⟨j, rfl⟩ : ∃ j, i = j + m := ⟨i - m, by omega⟩
    rw [e j]
    exact h _ (by omega) (by omega)
theorem rest64 : ∀ (v : List Nat) (_ : ∀ x ∈ v, x < 64) (_ : v.length % 4 ≠ 1), restZero (allBits 6 v) ↔ left64 v = 0
  | a :: b :: c :: d :: r, h, hl => by
    simp only [List.length_cons] at hl
    have ih := rest64 r (fun x hx => h x (by simp [hx])) (by omega)
    have e : allBits 6 (a :: b :: c :: d :: r) = [a / 32 % 2, a / 16 % 2, a / 8 % 2, a / 4 % 2, a / 2 % 2, a % 2, b / 32 % 2, b / 16 % 2, b / 8 % 2, b / 4 % 2, b / 2 % 2, b % 2, c / 32 % 2, c / 16 % 2, c / 8 % 2, c / 4 % 2, c / 2 % 2, c % 2, d / 32 % 2, d / 16 % 2, d / 8 % 2, d / 4 % 2, d / 2 % 2, d % 2] ++ allBits 6 r := by
      simp [allBits, bits6]
    rw [e, restZero_skip _ _ 24 rfl (by decide), ih]
    rfl
  | [a, b, c], h, _ => by
    have hl : (allBits 6 [a, b, c]).length = 18 := allBits_length 6 _
    have e : allBits 6 [a, b, c] = [a / 32 % 2, a / 16 % 2, a / 8 % 2, a / 4 % 2, a / 2 % 2, a % 2, b / 32 % 2, b / 16 % 2, b / 8 % 2, b / 4 % 2, b / 2 % 2, b % 2, c / 32 % 2, c / 16 % 2, c / 8 % 2, c / 4 % 2, c / 2 % 2, c % 2] := by simp [allBits, bits6]
    unfold restZero
    rw [hl]
    simp only [left64]
    constructor
    · intro hz
      have h1 := hz 16 (by decide) (by decide)
      have h2 := hz 17 (by decide) (by decide)
      rw [e] at h1 h2
      simp at h1 h2
      omega
    · intro hz i h1 h2
      rw [e]
      rcases (show i = 16 ∨ i = 17 by omega) with rfl | rfl <;> simp <;> omega
  | [a, b], h, _ => by
    have hl : (allBits 6 [a, b]).length = 12 := allBits_length 6 _
    have e : allBits 6 [a, b] = [a / 32 % 2, a / 16 % 2, a / 8 % 2, a / 4 % 2, a / 2 % 2, a % 2, b / 32 % 2, b / 16 % 2, b / 8 % 2, b / 4 % 2, b / 2 % 2, b % 2] := by simp [allBits, bits6]
    unfold restZero
    rw [hl]
    simp only [left64]
    constructor
    · intro hz
      have h1 := hz 8 (by decide) (by decide)
      have h2 := hz 9 (by decide) (by decide)
      have h3 := hz 10 (by decide) (by decide)
      have h4 := hz 11 (by decide) (by decide)
      rw [e] at h1 h2 h3 h4
      simp at h1 h2 h3 h4
      omega
    · intro hz i h1 h2
      rw [e]
      rcases (show i = 8 ∨ i = 9 ∨ i = 10 ∨ i = 11 by omega) with rfl | rfl | rfl | rfl <;> simp <;> omega
  | [a], _, hl => by simp at hl
  | [], _, _ => by simp [restZero, allBits, left64]
theorem rest16 (v : List Nat) (hl : v.length % 2 = 0) : restZero (allBits 4 v) := by
  intro i h1 h2
  rw [allBits_length] at h1 h2
  omega
end Go.Proofs.YtonnnolnkjahgabDoor
