/- Several slices of the call's own beside one another: what is appended to one leaves the others as they are. -/
import Derived.Test.YtjdglpfjemoodaaDoorRowsG
import Derived.Maps.AppendAt
namespace Go.Proofs.YtjdglpfjemoodaaDoor
open Go.RowKit

/-- No one block bears both. -/
def Aside (u v : Value) : Prop := u.ownBlock = none ∨ u.ownBlock ≠ v.ownBlock
theorem Aside.symm {u v : Value} (h : Aside u v) : Aside v u := by
  unfold Aside at *
  cases hu : u.ownBlock with
  | none =>
    cases hv : v.ownBlock with
    | none => exact .inl rfl
    | some k => exact .inr (by simp)
  | some j =>
    rw [hu] at h
    rcases h with h | h
    · cases h
    · exact .inr (fun e => h e.symm)
theorem apart_nil (v : Value) : Aside (.slice none 0 0) v := .inl rfl
theorem Own.other {w w' : World} {B : Nat} {u v : Value} {xs : List Nat} (h : Own w B u xs) (hg : w.grownBy w' v.ownBlock) (ha : Aside u v) : Own w' B u xs := World.ownsRow.kept h hg ha
theorem Aside.grow {w : World} {B : Nat} {u v v' : Value} {xs : List Nat} (h : Own w B u xs) (ha : Aside u v) (hv : v'.ownBlock = v.ownBlock ∨ v'.ownBlock = some w.heap.size) : Aside u v' := by
  rcases hv with hv | hv
  · unfold Aside at *; rw [hv]; exact ha
  · cases hu : u.ownBlock with
    | none => exact .inl hu
    | some k =>
      have := (World.ownsRow.lt h k hu).2
      exact .inr (by rw [hu, hv]; intro e; cases e; omega)
theorem Aside.grow' {w : World} {B m : Nat} {u v v' : Value} {xs : List Nat} (h : Own w B u xs) (ha : Aside u v) (hv : v'.ownBlock = v.ownBlock ∨ v'.ownBlock = some m) (hm : w.heap.size ≤ m) : Aside u v' := by
  rcases hv with hv | hv
  · unfold Aside at *; rw [hv]; exact ha
  · cases hu : u.ownBlock with
    | none => exact .inl hu
    | some k =>
      have := (World.ownsRow.lt h k hu).2
      exact .inr (by rw [hu, hv]; intro e; cases e; omega)
theorem run_append_bytes_at {w : World} {B : Nat} {v : Value} {xs ys : List Nat} (hown : Own w B v xs) (ao : Option Addr) (c : Nat) (hy : Row w ao ys) (hsz : xs.length + ys.length ≤ 140737488355328) (hB : B ≤ w.heap.size) (ty : TypeId) :
    ∃ v' w', (Builtin.append_ #[26, 26] ty #[v, .slice ao ys.length c]).run Tryd.prog w = .ok v' w' ∧ Own w' B v' (xs ++ ys) ∧ w.grownBy w' v.ownBlock ∧ (v'.ownBlock = v.ownBlock ∨ v'.ownBlock = some w.heap.size) := by
  obtain ⟨i0, hi, hz0, hz1, hz2⟩ := info_parts info8
  cases ao with
  | none =>
    rcases hy with rfl | ⟨b, off, h, _⟩
    · refine ⟨v, w, ?_, by rw [List.append_nil]; exact hown, World.grownBy.refl _ _, .inl rfl⟩
      have hc0 : ∀ c', (Builtin.append_ #[26, 26] ty #[v, .slice none 0 c']).run Tryd.prog w = (Builtin.append_ #[26, 26] ty #[v, .slice none 0 0]).run Tryd.prog w := fun c' => rfl
      rw [List.length_nil, hc0]
      exact run_append_owned_none (P := Tryd.prog) (w := w) B 26 ty 5 i0 1 Tryd.underlying26 hi v _ _ hown
    · cases h
  | some a =>
    obtain ⟨v', w', h1, h2, h3, _, h5⟩ := run_append_own_at (P := Tryd.prog) (w := w) B 26 ty 5 i0 (.int .u8 0) 1 1 Tryd.underlying26 hi hz0 hz1 hz2 rfl (by decide) v xs.length (xs.map bv) hown a ys.length c (ys.map bv) (by simp) hy.cells (bv_one ys) (by unfold maxLen; omega) (by omega) hB
    exact ⟨v', w', h1, by unfold Own; rw [List.length_append, List.map_append]; exact h2, h3, h5⟩
theorem wpList_append_at {w : World} {ops : Array Oper} {rest : List Oper} {o : Oper} {a : Act} {Q : Exit → Act → World → Prop} (hgd : o.guard = none) (s x : Operand)
    (ho : o.op = .call { callee := .builtin .append, args := #[s, x], argTypes := #[26, 26] }) (B : Nat) (v : Value) (xs : List Nat) (hs : a.eval s = v) (hown : Own w B v xs)
    (ao : Option Addr) (n c : Nat) (ys : List Nat) (hn : n = ys.length) (hx : a.eval x = .slice ao n c) (hy : Row w ao ys) (hsz : xs.length + ys.length ≤ 140737488355328) (hB : B ≤ w.heap.size)
    (h : ∀ v' w', Own w' B v' (xs ++ ys) → w.grownBy w' v.ownBlock → (v'.ownBlock = v.ownBlock ∨ v'.ownBlock = some w.heap.size) → wpList Tryd.prog ops Q rest (a.put o.dst v') w') : wpList Tryd.prog ops Q (o :: rest) a w := by
  refine wpList_plain hgd fun K hK => ?_
  obtain ⟨v', w', hrun, h1, h2, h3⟩ := run_append_bytes_at hown ao c hy hsz hB o.type
  subst hn
  unfold Oper.wp
  simp [execOp, ho, resolve, invoke, builtin, hs, hx, hrun, Result.andThen]
  exact hK _ _ (h v' w' h1 h2 h3)
end Go.Proofs.YtjdglpfjemoodaaDoor
