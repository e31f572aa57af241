/- Two arrays of bytes, of words, compared. -/
import Derived.Test.YtjdglpfjemoodaaDoorHashFn
import Derived.ChangeKeysEq
namespace Go.Proofs.YtjdglpfjemoodaaDoor
open Go.RowKit

theorem cellsOf8 : Tryd.prog.cellsOf 5 = 1 := by kernel_rfl
theorem cellsOf32 : Tryd.prog.cellsOf 36 = 1 := by kernel_rfl
theorem isAgg8 (w : World) : (isAgg 5).run Tryd.prog w = .ok false w := by
  unfold isAgg
  rw [Sem.run_bind, run_underlying Tryd.underlying5 w]
  rfl
theorem isAgg32 (w : World) : (isAgg 36).run Tryd.prog w = .ok false w := by
  unfold isAgg
  rw [Sem.run_bind, run_underlying Tryd.underlying36 w]
  rfl
theorem part8 (xs : List Nat) (i : Nat) (hi : i < xs.length) (w : World) : (part 5 (xs.map bv).toArray (i * 1)).run Tryd.prog w = .ok (bv (xs.getD i 0)) w := by
  unfold part
  rw [Sem.run_bind, isAgg8]
  simp [hi, List.getD]
theorem part32 (xs : List Nat) (i : Nat) (hi : i < xs.length) (w : World) : (part 36 (xs.map wv).toArray (i * 1)).run Tryd.prog w = .ok (wv (xs.getD i 0)) w := by
  unfold part
  rw [Sem.run_bind, isAgg32]
  simp [hi, List.getD]
theorem items8 (d : Nat) (xs ys : List Nat) (w : World) : ∀ (is : List Nat), (∀ i ∈ is, i < xs.length ∧ i < ys.length) → (Op.eqItems (d + 1) 5 (Tryd.prog.cellsOf 5) (xs.map bv).toArray (ys.map bv).toArray is).run Tryd.prog w = .ok (is.all fun i => xs.getD i 0 == ys.getD i 0) w
  | [], _ => by simp [Op.eqItems]
  | i :: is, h => by
    have hi := h i (by simp)
    have ih := items8 d xs ys w is (fun j hj => h j (by simp [hj]))
    rw [cellsOf8] at ih ⊢
    simp only [Op.eqItems, Sem.run_bind, part8 xs i hi.1, part8 ys i hi.2, Result.andThen_ok]
    have he : (Op.equalIn (d + 1) 5 (bv (xs.getD i 0)) (bv (ys.getD i 0))).run Tryd.prog w = .ok (((xs.getD i 0 : Nat) : Int) == ((ys.getD i 0 : Nat) : Int)) w := run_equalIn_int w d 5 .u8 .u8 _ _ Tryd.underlying5
    have hc : (((xs.getD i 0 : Nat) : Int) == ((ys.getD i 0 : Nat) : Int)) = (xs.getD i 0 == ys.getD i 0) := by rw [Bool.eq_iff_iff]; simp only [beq_iff_eq]; omega
    rw [he, hc]
    simp only [Result.andThen_ok, List.all_cons]
    cases hq : (xs.getD i 0 == ys.getD i 0)
    · simp
    · simpa using ih
theorem items32 (d : Nat) (xs ys : List Nat) (w : World) : ∀ (is : List Nat), (∀ i ∈ is, i < xs.length ∧ i < ys.length) → (Op.eqItems (d + 1) 36 (Tryd.prog.cellsOf 36) (xs.map wv).toArray (ys.map wv).toArray is).run Tryd.prog w = .ok (is.all fun i => xs.getD i 0 == ys.getD i 0) w
  | [], _ => by simp [Op.eqItems]
  | i :: is, h => by
    have hi := h i (by simp)
    have ih := items32 d xs ys w is (fun j hj => h j (by simp [hj]))
    rw [cellsOf32] at ih ⊢
    simp only [Op.eqItems, Sem.run_bind, part32 xs i hi.1, part32 ys i hi.2, Result.andThen_ok]
    have he : (Op.equalIn (d + 1) 36 (wv (xs.getD i 0)) (wv (ys.getD i 0))).run Tryd.prog w = .ok (((xs.getD i 0 : Nat) : Int) == ((ys.getD i 0 : Nat) : Int)) w := run_equalIn_int w d 36 .u32 .u32 _ _ Tryd.underlying36
    have hc : (((xs.getD i 0 : Nat) : Int) == ((ys.getD i 0 : Nat) : Int)) = (xs.getD i 0 == ys.getD i 0) := by rw [Bool.eq_iff_iff]; simp only [beq_iff_eq]; omega
    rw [he, hc]
    simp only [Result.andThen_ok, List.all_cons]
    cases hq : (xs.getD i 0 == ys.getD i 0)
    · simp
    · simpa using ih
theorem all_eq (n : Nat) (xs ys : List Nat) (hx : xs.length = n) (hy : ys.length = n) : ((List.range n).all fun i => xs.getD i 0 == ys.getD i 0) = decide (xs = ys) := by
  rw [Bool.eq_iff_iff]
  simp only [List.all_eq_true, List.mem_range, beq_iff_eq, decide_eq_true_eq]
  constructor
  · intro h
    apply List.ext_getElem (by omega)
    intro i h1 h2
    have := h i (by omega)
    simpa [List.getD, List.getElem?_eq_getElem h1, List.getElem?_eq_getElem h2] using this
  · intro h i _
    rw [h]
theorem arr32_eq (xs ys : List Nat) (w : World) (hx : xs.length = 32) (hy : ys.length = 32) : (Op.equalIn 10000 24 (.agg (xs.map bv).toArray) (.agg (ys.map bv).toArray)).run Tryd.prog w = .ok (decide (xs = ys)) w := by
  obtain ⟨i0, hi, _, _, _⟩ := info_parts info8
  rw [run_equalIn_array w 9999 _ _ Tryd.underlying24 hi, items8 9998 xs ys w _ (fun i h => by have := List.mem_range.1 h; omega), all_eq 32 xs ys hx hy]
end Go.Proofs.YtjdglpfjemoodaaDoor
