/- Two arrays of five numbers, compared. -/
import Derived.Test.YtmngmkbiibhmkaaVBase
import Derived.ChangeKeysEq
namespace Go.Proofs.Ytmngmkbiibhmkaa
open Go.RowKit

def nv (n : Nat) : Value := .int .i64 (n : Int)
theorem infoI : (Try.prog.info? 3).map (fun i => (i.zero, i.size, i.bytes)) = some (some (.int .i64 0), 1, 8) := by kernel_rfl
theorem cellsOfI : Try.prog.cellsOf 3 = 1 := by kernel_rfl
theorem isAggI (w : World) : (isAgg 3).run Try.prog w = .ok false w := by
  unfold isAgg
  rw [Sem.run_bind, run_underlying Try.underlying3 w]
  rfl
theorem partI (xs : List Nat) (i : Nat) (hi : i < xs.length) (w : World) : (part 3 (xs.map nv).toArray (i * 1)).run Try.prog w = .ok (nv (xs.getD i 0)) w := by
  unfold part
  rw [Sem.run_bind, isAggI]
  simp [hi, List.getD]
theorem itemsI (d : Nat) (xs ys : List Nat) (w : World) : ∀ (is : List Nat), (∀ i ∈ is, i < xs.length ∧ i < ys.length) → (Op.eqItems (d + 1) 3 (Try.prog.cellsOf 3) (xs.map nv).toArray (ys.map nv).toArray is).run Try.prog w = .ok (is.all fun i => xs.getD i 0 == ys.getD i 0) w
  | [], _ => by simp [Op.eqItems]
  | i :: is, h => by
    have hi := h i (by simp)
    have ih := itemsI d xs ys w is (fun j hj => h j (by simp [hj]))
    rw [cellsOfI] at ih ⊢
    simp only [Op.eqItems, Sem.run_bind, partI xs i hi.1, partI ys i hi.2, Result.andThen_ok]
    have he : (Op.equalIn (d + 1) 3 (nv (xs.getD i 0)) (nv (ys.getD i 0))).run Try.prog w = .ok (((xs.getD i 0 : Nat) : Int) == ((ys.getD i 0 : Nat) : Int)) w := run_equalIn_int w d 3 .i64 .i64 _ _ Try.underlying3
    have hc : (((xs.getD i 0 : Nat) : Int) == ((ys.getD i 0 : Nat) : Int)) = (xs.getD i 0 == ys.getD i 0) := by rw [Bool.eq_iff_iff]; simp only [beq_iff_eq]; omega
    rw [he, hc]
    simp only [Result.andThen_ok, List.all_cons]
    cases hq : (xs.getD i 0 == ys.getD i 0)
    · simp
    · simpa using ih
theorem all_eq (n : Nat) (xs ys : List Nat) (hx : xs.length = n) (hy : ys.length = n) : ((List.range n).all fun i => xs.getD i 0 == ys.getD i 0) = decide (xs = ys) := by
  rw [Bool.eq_iff_iff]
  simp only [List.all_eq_true, List.mem_range, beq_iff_eq, decide_eq_true_eq]
  constructor
  · intro h
    apply List.ext_getElem (by omega)
    intro i h1 h2
    have := h i (by omega)
    simpa [List.getD, List.getElem?_eq_getElem h1, List.getElem?_eq_getElem h2] using this
  · intro h i _
    rw [h]
theorem arr5_eq (xs ys : List Nat) (w : World) (hx : xs.length = 5) (hy : ys.length = 5) : (Op.equalIn 10000 46 (.agg (xs.map nv).toArray) (.agg (ys.map nv).toArray)).run Try.prog w = .ok (decide (xs = ys)) w := by
  obtain ⟨i0, hi, _, _, _⟩ := info_parts infoI
  rw [run_equalIn_array w 9999 _ _ Try.underlying46 hi, itemsI 9998 xs ys w _ (fun i h => by have := List.mem_range.1 h; omega), all_eq 5 xs ys hx hy]
end Go.Proofs.Ytmngmkbiibhmkaa
