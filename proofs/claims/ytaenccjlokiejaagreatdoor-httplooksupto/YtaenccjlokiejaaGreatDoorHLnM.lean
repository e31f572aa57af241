/- The lines of a head, one behind the other. -/
import Derived.Test.YtaenccjlokiejaaGreatDoorHCut
namespace Go.Proofs.YtaenccjlokiejaaGreatDoor
open Go.RowKit

/-- Each line from a place on, and the place behind its end. -/
def linesR : Nat → U → Nat → List (U × Nat)
  | 0, _, _ => []
  | n + 1, l, k => match cutR l with
    | none => []
    | some (a, r) => (a, k + a.length + 2) :: linesR n r (k + a.length + 2)
def hdL : List (U × Nat) → Hd → Nat → Except (Nat × Nat) (Hd × Nat)
  | [], _, k => .error (153, k)
  | (a, j) :: r, h, k => if a = [] then .ok (h, j) else match addR h a with
    | .error e => .error (e, k)
    | .ok h' => hdL r h' j
/-- The state behind lines of which none is the last. -/
def goL : List (U × Nat) → Hd → Nat → Option (Hd × Nat)
  | [], h, k => some (h, k)
  | (a, j) :: r, h, _ => if a = [] then none else match addR h a with
    | .error _ => none
    | .ok h' => goL r h' j
theorem hdL_go : ∀ (p r : List (U × Nat)) (h : Hd) (k : Nat) (s : Hd × Nat), goL p h k = some s → hdL (p ++ r) h k = hdL r s.1 s.2
  | [], r, h, k, s, e => by
    simp only [goL, Option.some.injEq] at e
    subst e; rfl
  | (a, j) :: p, r, h, k, s, e => by
    simp only [goL] at e
    rw [List.cons_append, hdL]
    by_cases ha : a = []
    · rw [if_pos ha] at e; cases e
    · rw [if_neg ha] at e ⊢
      cases hr : addR h a with
      | error x => rw [hr] at e; cases e
      | ok h' => rw [hr] at e; exact hdL_go p r h' j s e
theorem goL_snoc : ∀ (p : List (U × Nat)) (a : U) (j : Nat) (h : Hd) (k : Nat) (s : Hd × Nat) (h' : Hd), goL p h k = some s → a ≠ [] → addR s.1 a = .ok h' → goL (p ++ [(a, j)]) h k = some (h', j)
  | [], a, j, h, k, s, h', e, ha, hr => by
    simp only [goL, Option.some.injEq] at e
    subst e
    simp only [List.nil_append, goL, if_neg ha, hr]
  | (b, i) :: p, a, j, h, k, s, h', e, ha, hr => by
    simp only [goL] at e
    rw [List.cons_append, goL]
    by_cases hb : b = []
    · rw [if_pos hb] at e; cases e
    · rw [if_neg hb] at e ⊢
      cases hr2 : addR h b with
      | error x => rw [hr2] at e; cases e
      | ok h2 => rw [hr2] at e; exact goL_snoc p a j h2 i s h' e ha hr
theorem linesR_len : ∀ (n : Nat) (l : U) (k : Nat), 2 * (linesR n l k).length ≤ l.length
  | 0, _, _ => Nat.zero_le _
  | n + 1, l, k => by
    unfold linesR
    cases h : cutR l with
    | none => exact Nat.zero_le _
    | some x =>
      obtain ⟨a, r⟩ := x
      have h2 := (cutR_some h).2
      have ih := linesR_len n r (k + a.length + 2)
      have := congrArg List.length h2
      simp at this
      simp only [List.length_cons]
      omega
theorem headR_lines : ∀ (n : Nat) (l : U) (k : Nat) (h : Hd), l.length < n → (match hdL (linesR n l k) h k with
    | .error e => headR n l k h = .error e
    | .ok (h', j) => headR n l k h = .ok (h', l.drop (j - k), j) ∧ k + 2 ≤ j ∧ j ≤ k + l.length)
  | 0, l, k, h, hl => by omega
  | n + 1, l, k, h, hl => by
    unfold linesR headR
    cases hc : cutR l with
    | none => rfl
    | some x =>
      obtain ⟨a, r⟩ := x
      have h2 := (cutR_some hc).2
      have hz := congrArg List.length h2
      simp at hz
      simp only [hdL]
      by_cases ha : a = []
      · rw [if_pos ha, if_pos ha]
        subst ha
        simp only [List.length_nil] at hz ⊢
        refine ⟨?_, by omega, by omega⟩
        rw [show k + 0 + 2 - k = 2 by omega, h2]
        rfl
      · rw [if_neg ha, if_neg ha]
        cases hr : addR h a with
        | error e => rfl
        | ok h' =>
          simp only
          have ih := headR_lines n r (k + a.length + 2) h' (by omega)
          cases hd : hdL (linesR n r (k + a.length + 2)) h' (k + a.length + 2) with
          | error e => rw [hd] at ih; exact ih
          | ok y =>
            obtain ⟨h3, j⟩ := y
            rw [hd] at ih
            obtain ⟨i1, i2, i3⟩ := ih
            refine ⟨?_, by omega, by omega⟩
            rw [i1, h2]
            have e : j - k = (a ++ [13, 10]).length + (j - (k + a.length + 2)) := by simp; omega
            rw [e, show a ++ 13 :: 10 :: r = (a ++ [13, 10]) ++ r by simp, ← List.drop_drop, List.drop_left]
end Go.Proofs.YtaenccjlokiejaaGreatDoor
