/- A field appended to a list of the call's own. -/
import Derived.Test.YtaenccjlokiejaaGreatDoorHRow
import Derived.Laws.AppendOwnNone
import Derived.Deep.RegionHeldLaw
import Derived.Deep.RegionHeld3
import Derived.OrdersHeld
namespace Go.Proofs.YtaenccjlokiejaaGreatDoor
open Go.RowKit Go.Shelf

theorem FRow.cells {w : World} {a : Addr} {l : List Fl} (h : FRow w (some a) l) : ∀ j u, (flat2 l)[j]? = some u → w.cell? (a.add j) = some u := by
  intro j u hu
  rcases h with rfl | ⟨b, off, ha, hc⟩
  · simp [flat2] at hu
  · cases ha
    have hj : j < 2 * l.length := by
      have := (List.getElem?_eq_some_iff.1 hu).1
      rw [flat2_len] at this
      exact this
    obtain ⟨q, hq⟩ : ∃ q, l[j / 2]? = some q := ⟨_, List.getElem?_eq_getElem (by omega)⟩
    obtain ⟨h1, h2⟩ := flat2_get l (j / 2) q hq
    obtain ⟨c1, c2⟩ := hc (j / 2) q hq
    rw [add_none]
    rcases (show j = 2 * (j / 2) ∨ j = 2 * (j / 2) + 1 by omega) with e | e
    · rw [e] at hu ⊢
      rw [h1] at hu
      rw [c1, hu]
    · rw [e] at hu ⊢
      rw [h2] at hu
      rw [← Nat.add_assoc, c2, hu]

theorem run_append_fs {w : World} {B : Nat} {v : Value} {l r : List Fl} {t st : TypeId} {i0 : TypeInfo} (hst : Tryz.prog.underlying st = some (.slice t)) (hi : Tryz.prog.info? t = some i0) (hz0 : i0.zero = some (.agg #[.string { data := #[] }, .string { data := #[] }])) (hz1 : i0.size = 2) (hz2 : i0.bytes = 32)
    (hown : FOwn t w B v l) (ao : Option Addr) (c : Nat) (hr : FRow w ao r) (hsz : (l.length + r.length) * 32 ≤ 140737488355328) (hB : B ≤ w.heap.size) (ty : TypeId) :
    ∃ v' w', (Builtin.append_ #[st, st] ty #[v, .slice ao r.length c]).run Tryz.prog w = .ok v' w' ∧ FOwn t w' B v' (l ++ r) ∧ w.grownBy w' v.ownBlock := by
  cases ao with
  | none =>
    rcases hr with rfl | ⟨b, off, h, _⟩
    · refine ⟨v, w, ?_, by rw [List.append_nil]; exact hown, World.grownBy.refl _ _⟩
      have hc0 : ∀ c', (Builtin.append_ #[st, st] ty #[v, .slice none 0 c']).run Tryz.prog w = (Builtin.append_ #[st, st] ty #[v, .slice none 0 0]).run Tryz.prog w := fun c' => rfl
      rw [List.length_nil, hc0]
      exact run_append_owned_none (P := Tryz.prog) (w := w) B st ty t i0 2 hst hi v _ _ hown
    · cases h
  | some a =>
    obtain ⟨v', w', h1, h2, h3, _⟩ := run_append_own (P := Tryz.prog) w B st ty t i0 (.agg #[.string { data := #[] }, .string { data := #[] }]) 2 32 hst hi hz0 hz1 hz2 rfl (by decide) v l.length (flat2 l) hown a r.length c (flat2 r) (by rw [flat2_len]; omega) hr.cells (flat2_one r) (by unfold maxLen; omega) (by omega) hB
    refine ⟨v', w', h1, ?_, h3⟩
    unfold FOwn
    rw [List.length_append, show flat2 (l ++ r) = flat2 l ++ flat2 r by simp [flat2]]
    exact h2
theorem wpList_append_fs {w : World} {ops : Array Oper} {rest : List Oper} {o : Oper} {a : Act} {Q : Exit → Act → World → Prop} {t st : TypeId} {i0 : TypeInfo} (hgd : o.guard = none) (s x : Operand)
    (ho : o.op = .call { callee := .builtin .append, args := #[s, x], argTypes := #[st, st] }) (hst : Tryz.prog.underlying st = some (.slice t)) (hi : Tryz.prog.info? t = some i0) (hz0 : i0.zero = some (.agg #[.string { data := #[] }, .string { data := #[] }])) (hz1 : i0.size = 2) (hz2 : i0.bytes = 32)
    (B : Nat) (v : Value) (l r : List Fl) (hs : a.eval s = v) (hown : FOwn t w B v l)
    (ao : Option Addr) (n c : Nat) (hn : n = r.length) (hx : a.eval x = .slice ao n c) (hr : FRow w ao r) (hsz : (l.length + r.length) * 32 ≤ 140737488355328) (hB : B ≤ w.heap.size)
    (h : ∀ v' w', FOwn t w' B v' (l ++ r) → w.grownBy w' v.ownBlock → wpList Tryz.prog ops Q rest (a.put o.dst v') w') : wpList Tryz.prog ops Q (o :: rest) a w := by
  refine wpList_plain hgd fun K hK => ?_
  obtain ⟨v', w', hrun, h1, h2⟩ := run_append_fs hst hi hz0 hz1 hz2 hown ao c hr hsz hB o.type
  subst hn
  unfold Oper.wp
  simp [execOp, ho, resolve, invoke, builtin, hs, hx, hrun, Result.andThen]
  exact hK _ _ (h v' w' h1 h2)
/-- An empty slice that was just made. -/
theorem fown_new (t : TypeId) (w : World) (B : Nat) (hB : B ≤ w.heap.size) : FOwn t (w.alloc (.cells #[] t)) B (.slice (some ⟨w.heap.size, 0, none⟩) 0 0) [] := by
  refine ⟨rfl, .inr ⟨w.heap.size, 0, #[], rfl, hB, heap_alloc_new w _, Nat.le_refl _, Nat.zero_le _, rfl, rfl⟩⟩
theorem law_appF {w : World} {ops : Array Oper} {o : Oper} {a : Act} {K : Act → World → Prop} {Q : Exit → Act → World → Prop} {E : Prop} {i0 : TypeInfo} (hgd : o.guard = none) (s x : Operand)
    (ho : o.op = .call { callee := .builtin .append, args := #[s, x], argTypes := #[25, 25] }) (hi : Tryz.prog.info? 78 = some i0) (hz0 : i0.zero = some (.agg #[.string { data := #[] }, .string { data := #[] }])) (hz1 : i0.size = 2) (hz2 : i0.bytes = 32)
    (B : Nat) (v : Value) (l : List Fl) (q : Fl) (hs : a.eval s = v) (hown : FOwn 78 w B v l)
    (ad : Addr) (hx : a.eval x = .slice (some ad) 1 1) (hr : FRow w (some ad) [q]) (hsz : (l.length + 1) * 32 ≤ 140737488355328) (hB : B ≤ w.heap.size)
    (h : ∀ fo fc w', FOwn 78 w' B (.slice fo (l.length + 1) fc) (l ++ [q]) → w.grownBy w' v.ownBlock → K (a.put o.dst (.slice fo (l.length + 1) fc)) w') : if Region.wanted o (yielded ops a.tmps) = true then Oper.wp Tryz.prog o a w K Q else E := by
  rw [if_pos (by simp [Region.wanted, hgd])]
  obtain ⟨v', w', hrun, h1, h2⟩ := run_append_fs (l := l) (r := [q]) Tryz.underlying25 hi hz0 hz1 hz2 hown (some ad) 1 hr (by simpa using hsz) hB o.type
  obtain ⟨fo, fc, e2, _⟩ := h1.shape
  rw [List.length_append] at e2
  subst e2
  have hrun2 : (Builtin.append_ #[25, 25] o.type #[v, .slice (some ad) 1 1]).run Tryz.prog w = .ok (.slice fo (l.length + [q].length) fc) w' := hrun
  unfold Oper.wp
  simp [execOp, ho, resolve, invoke, builtin, hs, hx, hrun2, Result.andThen]
  exact h fo fc w' h1 h2
theorem frow_one (w : World) (t : TypeId) (f : Fl) : FRow (w.alloc (.cells #[.string (str f.1), .string (str f.2)] t)) (some ⟨w.heap.size, 0, none⟩) [f] := by
  refine .inr ⟨_, _, rfl, fun i q hi => ?_⟩
  match i, hi with
  | 0, hi =>
    simp at hi
    subst hi
    have h := heap_alloc_new w (.cells #[.string (str f.1), .string (str f.2)] t)
    exact ⟨by rw [cell_of_row _ _ _ _ _ _ h]; rfl, by rw [cell_of_row _ _ _ _ _ _ h]; rfl⟩
end Go.Proofs.YtaenccjlokiejaaGreatDoor
