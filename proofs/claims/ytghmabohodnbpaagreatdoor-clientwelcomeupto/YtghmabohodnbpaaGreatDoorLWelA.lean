/- The contract of the law's base64: for every row of bytes. -/
import Derived.Test.YtghmabohodnbpaaGreatDoorLWelM
import Derived.BigQuiet
namespace Go.Proofs.YtghmabohodnbpaaGreatDoor
open Go.RowKit

theorem bstr_app2 (x y : List Nat) : bstr x ++ bstr y = bstr (x ++ y) := by
  apply ByteArray.ext
  rw [ByteArray.data_append]
  simp [bstr]
theorem add_run2 {x y : List Nat} {w : World} (h : x.length + y.length ≤ 4611686018427387904) : (binOp .add 9 (.string (bstr x)) (.string (bstr y))).run Tryz.prog w = .ok (.string (bstr (x ++ y))) w := by
  have := run_string_add_sum (P := Tryz.prog) (w := w) (bstr x) (bstr y) (by rw [bstr_size, bstr_size]; omega)
  rw [binOp_string_add, ← bstr_app2]
  exact this
theorem add_str2 {x y : List Nat} (h : x.length + y.length ≤ 4611686018427387904) : ∀ w, (Op.stringOp .add (bstr x) (bstr y)).run Tryz.prog w = .ok (.string (bstr (x ++ y))) w := fun w => by
  have := add_run2 (w := w) h
  rw [binOp_string_add] at this
  exact this

theorem bcOf_app : ∀ (a b : List Nat), a.length % 3 = 0 → bcOf (a ++ b) = bcOf a ++ bcOf b
  | x :: y :: z :: r, b, h => by
    simp only [List.cons_append, bcOf]
    rw [bcOf_app r b (by simp only [List.length_cons] at h; omega)]
  | [_, _], _, h => by simp at h
  | [_], _, h => by simp at h
  | [], _, _ => rfl
/-- The first of three bytes, taken as one number. -/
def v3 (xs : List Nat) (i : Nat) : Nat → Nat
  | 0 => 0
  | k + 1 => v3 xs i k * 256 + xs.getD (i + k) 0
theorem v3_lt {xs : List Nat} (h : ∀ x ∈ xs, x < 256) (i : Nat) : ∀ k, v3 xs i k < 256 ^ k
  | 0 => by show 0 < 1; omega
  | k + 1 => by
    have h1 := v3_lt h i k
    have h2 : xs.getD (i + k) 0 < 256 := lt_get h (i + k)
    rw [Nat.pow_succ]
    simp only [v3]
    omega
def d4 (V k : Nat) : Nat := if k = 0 then V / 262144 else if k = 1 then V / 4096 % 64 else if k = 2 then V / 64 % 64 else V % 64
theorem d4_0 (V : Nat) : d4 V 0 = V / 262144 := rfl
theorem d4_1 (V : Nat) : d4 V 1 = V / 4096 % 64 := rfl
theorem d4_2 (V : Nat) : d4 V 2 = V / 64 % 64 := rfl
theorem d4_3 (V : Nat) : d4 V 3 = V % 64 := rfl
theorem d4_lt {V : Nat} (h : V < 16777216) (k : Nat) : d4 V k < 64 := by
  unfold d4
  split
  · omega
  · split
    · omega
    · split <;> omega
def let4 (xs : List Nat) (i k : Nat) : Nat := if xs.length < i + k then 61 else ltC (d4 (v3 xs i 3) k)
set_option maxRecDepth 100000 in
theorem bcOf_step {xs : List Nat} (h : ∀ x ∈ xs, x < 256) {i : Nat} (h3 : i % 3 = 0) (hi : i < xs.length) : bcOf (xs.take (i + 3)) = bcOf (xs.take i) ++ [let4 xs i 0, let4 xs i 1, let4 xs i 2, let4 xs i 3] := by
  obtain ⟨a, r, rfl, rfl⟩ : ∃ a r, xs = a ++ r ∧ i = a.length := ⟨xs.take i, xs.drop i, (List.take_append_drop i xs).symm, by rw [List.length_take]; omega⟩
  have hg : ∀ j, (a ++ r).getD (a.length + j) 0 = r.getD j 0 := fun j => by
    simp [List.getD, List.getElem?_append_right]
  have hv : v3 (a ++ r) a.length 3 = ((0 * 256 + r.getD 0 0) * 256 + r.getD 1 0) * 256 + r.getD 2 0 := by
    simp only [v3, hg]
  rw [List.take_length_add_append, List.take_left' rfl, bcOf_app _ _ h3]
  congr 1
  unfold let4
  rw [hv, List.length_append]
  clear hv hg
  have hb : ∀ x ∈ r, x < 256 := fun x hx => h x (by simp [hx])
  match r, hi, hb with
  | [], hi, _ => simp at hi
  | [x], _, hb =>
    have hx := hb x (by simp)
    simp only [List.take, bcOf, List.getD_cons_zero, List.getD_cons_succ, List.getD_nil, List.length_cons, List.length_nil, d4_0, d4_1, d4_2, d4_3]
    rw [if_neg (by omega), if_neg (by omega), if_pos (by omega), if_pos (by omega)]
    refine cons_eq (congrArg ltC (by omega)) (cons_eq (congrArg ltC (by omega)) rfl)
  | [x, y], _, hb =>
    have hx := hb x (by simp)
    have hy := hb y (by simp)
    simp only [List.take, bcOf, List.getD_cons_zero, List.getD_cons_succ, List.getD_nil, List.length_cons, List.length_nil, d4_0, d4_1, d4_2, d4_3]
    rw [if_neg (by omega), if_neg (by omega), if_neg (by omega), if_pos (by omega)]
    refine cons_eq (congrArg ltC (by omega)) (cons_eq (congrArg ltC (by omega)) (cons_eq (congrArg ltC (by omega)) rfl))
  | x :: y :: z :: r, _, hb =>
    have hx := hb x (by simp)
    have hy := hb y (by simp)
    have hz := hb z (by simp)
    simp only [List.take, bcOf, List.getD_cons_zero, List.getD_cons_succ, List.length_cons, d4_0, d4_1, d4_2, d4_3]
    rw [if_neg (by omega), if_neg (by omega), if_neg (by omega), if_neg (by omega)]
    refine cons_eq (congrArg ltC (by omega)) (cons_eq (congrArg ltC (by omega)) (cons_eq (congrArg ltC (by omega)) (cons_eq (congrArg ltC (by omega)) rfl)))
theorem ltC_get : ∀ n : Fin 64, letsC.getD n.val 0 = ltC n.val := fun _ => rfl
theorem all_mid {a : Nat} (ha : a < 64) (i j : Int) (hi : i = (a : Int)) (hj : j = (a : Int) + 1) (w : World) : (Instr.slice 9 (.string (bstr letsC)) (some (.int .i64 i)) (some (.int .i64 j)) none).run Tryz.prog w = .ok (.string (bstr [ltC a])) w := by
  rw [str_mid (bstr letsC) a (a + 1) i j hi (by omega) (by omega) (by rw [bstr_size]; show _ ≤ 64; omega)]
  rw [sbytes_bstr (by decide)]
  have : ∀ a : Fin 64, (letsC.take (a.val + 1)).drop a.val = [ltC a.val] := by decide
  rw [this ⟨a, ha⟩]
set_option maxRecDepth 100000 in
theorem letsC_str : ({ data := #[65, 66, 67, 68, 69, 70, 71, 72, 73, 74, 75, 76, 77, 78, 79, 80, 81, 82, 83, 84, 85, 86, 87, 88, 89, 90, 97, 98, 99, 100, 101, 102, 103, 104, 105, 106, 107, 108, 109, 110, 111, 112, 113, 114, 115, 116, 117, 118, 119, 120, 121, 122, 48, 49, 50, 51, 52, 53, 54, 55, 56, 57, 43, 47] } : ByteArray) = bstr letsC := by
  simp [bstr, letsC]
end Go.Proofs.YtghmabohodnbpaaGreatDoor
