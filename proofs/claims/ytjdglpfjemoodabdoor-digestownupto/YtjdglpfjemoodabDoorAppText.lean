/- A text appended to bytes of the call's own, under a guard that says yes. -/
import Derived.Test.YtjdglpfjemoodabDoorB64Fn
import Derived.Test.YtjdglpfjemoodabDoorGuarded
import Derived.Lib.AppendStr
namespace Go.Proofs.YtjdglpfjemoodabDoor
open Go.RowKit

theorem strCells_eq (s : ByteArray) : Lib.strCells s = (sbytes s).map bv := by
  simp [Lib.strCells, sbytes, bv]
theorem wpList_append_text_g {w : World} {ops : Array Oper} {rest : List Oper} {o : Oper} {a : Act} {Q : Exit → Act → World → Prop} (hw : Region.wanted o (yielded ops a.tmps) = true) (sl x : Operand)
    (ho : o.op = .call { callee := .builtin .append, args := #[sl, x], argTypes := #[22, 9] }) (B : Nat) (v : Value) (xs : List Nat) (hs : a.eval sl = v) (hown : Own w B v xs)
    (s : ByteArray) (hx : a.eval x = .string s) (hsz : xs.length + s.size ≤ 140737488355328) (hB : B ≤ w.heap.size)
    (h : ∀ v' w', Own w' B v' (xs ++ sbytes s) → w.grownBy w' v.ownBlock → wpList Tryd.prog ops Q rest (a.put o.dst v') w') : wpList Tryd.prog ops Q (o :: rest) a w := by
  obtain ⟨i0, hi, hz0, hz1, hz2⟩ := info_parts info8
  refine BigFrame.wpList_want hw fun K hK => ?_
  obtain ⟨v', w', hrun, h1, h2, _⟩ := Lib.run_append_own_string (P := Tryd.prog) w B 22 9 o.type 5 i0 Tryd.underlying22 Tryd.underlying9 hi hz0 hz1 hz2 v xs.length (xs.map bv) hown s (by unfold maxLen; omega) hsz hB
  unfold Oper.wp
  simp [execOp, ho, resolve, invoke, builtin, hs, hx, hrun, Result.andThen]
  refine hK _ _ (h v' w' ?_ h2)
  unfold Own
  rw [List.length_append, sbytes_length, List.map_append, ← strCells_eq]
  exact h1
end Go.Proofs.YtjdglpfjemoodabDoor
