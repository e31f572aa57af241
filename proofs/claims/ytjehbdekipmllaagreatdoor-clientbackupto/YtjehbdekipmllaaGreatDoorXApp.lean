/- append(own, l...): whatever list of pairs is laid behind a slice of the call's own. append(own, l...): whatever list of texts is laid behind a slice of the call's own. -/
import Derived.Test.YtjehbdekipmllaaGreatDoorXCut
import Derived.Test.YtjehbdekipmllaaGreatDoorXStr
import Derived.Laws.AppendOwnNone
namespace Go.Proofs.YtjehbdekipmllaaGreatDoor
open Go.RowKit

theorem PRow.cells {w : World} {a : Addr} {l : List Two} (h : PRow w (some a) l) : ∀ j u, (flat2 l)[j]? = some u → w.cell? (a.add j) = some u := by
  intro j u hu
  rcases h with rfl | ⟨b, off, ha, hc⟩
  · simp [flat2] at hu
  · cases ha
    have hj : j < 2 * l.length := by
      have := (List.getElem?_eq_some_iff.1 hu).1
      rw [flat2_len] at this
      exact this
    obtain ⟨q, hq⟩ : ∃ q, l[j / 2]? = some q := ⟨_, List.getElem?_eq_getElem (by omega)⟩
    obtain ⟨h1, h2⟩ := flat2_get l (j / 2) q hq
    obtain ⟨c1, c2⟩ := hc (j / 2) q hq
    rw [add_none]
    rcases (show j = 2 * (j / 2) ∨ j = 2 * (j / 2) + 1 by omega) with e | e
    · rw [e] at hu ⊢
      rw [h1] at hu
      rw [c1, hu]
    · rw [e] at hu ⊢
      rw [h2] at hu
      rw [← Nat.add_assoc, c2, hu]
theorem run_append_pairs {w : World} {B : Nat} {v : Value} {l r : List Two} {t st : TypeId} {i0 : TypeInfo} (hst : Tryz.prog.underlying st = some (.slice t)) (hi : Tryz.prog.info? t = some i0) (hz0 : i0.zero = some (.agg #[.string { data := #[] }, .string { data := #[] }])) (hz1 : i0.size = 2) (hz2 : i0.bytes = 32)
    (hown : POwn t w B v l) (ao : Option Addr) (c : Nat) (hr : PRow w ao r) (hsz : (l.length + r.length) * 32 ≤ 140737488355328) (hB : B ≤ w.heap.size) (ty : TypeId) :
    ∃ v' w', (Builtin.append_ #[st, st] ty #[v, .slice ao r.length c]).run Tryz.prog w = .ok v' w' ∧ POwn t w' B v' (l ++ r) ∧ w.grownBy w' v.ownBlock := by
  cases ao with
  | none =>
    rcases hr with rfl | ⟨b, off, h, _⟩
    · refine ⟨v, w, ?_, by rw [List.append_nil]; exact hown, World.grownBy.refl _ _⟩
      have hc0 : ∀ c', (Builtin.append_ #[st, st] ty #[v, .slice none 0 c']).run Tryz.prog w = (Builtin.append_ #[st, st] ty #[v, .slice none 0 0]).run Tryz.prog w := fun c' => rfl
      rw [List.length_nil, hc0]
      exact run_append_owned_none (P := Tryz.prog) (w := w) B st ty t i0 2 hst hi v _ _ hown
    · cases h
  | some a =>
    obtain ⟨v', w', h1, h2, h3, _⟩ := run_append_own (P := Tryz.prog) w B st ty t i0 (.agg #[.string { data := #[] }, .string { data := #[] }]) 2 32 hst hi hz0 hz1 hz2 rfl (by decide) v l.length (flat2 l) hown a r.length c (flat2 r) (by rw [flat2_len]; omega) hr.cells (flat2_one r) (by unfold maxLen; omega) (by omega) hB
    refine ⟨v', w', h1, ?_, h3⟩
    unfold POwn
    rw [List.length_append, show flat2 (l ++ r) = flat2 l ++ flat2 r by simp [flat2]]
    exact h2
theorem wpList_append_pairs {w : World} {ops : Array Oper} {rest : List Oper} {o : Oper} {a : Act} {Q : Exit → Act → World → Prop} {t st : TypeId} {i0 : TypeInfo} (hgd : o.guard = none) (s x : Operand)
    (ho : o.op = .call { callee := .builtin .append, args := #[s, x], argTypes := #[st, st] }) (hst : Tryz.prog.underlying st = some (.slice t)) (hi : Tryz.prog.info? t = some i0) (hz0 : i0.zero = some (.agg #[.string { data := #[] }, .string { data := #[] }])) (hz1 : i0.size = 2) (hz2 : i0.bytes = 32)
    (B : Nat) (v : Value) (l r : List Two) (hs : a.eval s = v) (hown : POwn t w B v l)
    (ao : Option Addr) (n c : Nat) (hn : n = r.length) (hx : a.eval x = .slice ao n c) (hr : PRow w ao r) (hsz : (l.length + r.length) * 32 ≤ 140737488355328) (hB : B ≤ w.heap.size)
    (h : ∀ v' w', POwn t w' B v' (l ++ r) → w.grownBy w' v.ownBlock → wpList Tryz.prog ops Q rest (a.put o.dst v') w') : wpList Tryz.prog ops Q (o :: rest) a w := by
  refine wpList_plain hgd fun K hK => ?_
  obtain ⟨v', w', hrun, h1, h2⟩ := run_append_pairs hst hi hz0 hz1 hz2 hown ao c hr hsz hB o.type
  subst hn
  unfold Oper.wp
  simp [execOp, ho, resolve, invoke, builtin, hs, hx, hrun, Result.andThen]
  exact hK _ _ (h v' w' h1 h2)
/-- An empty slice that was just made. -/
theorem pown_new (t : TypeId) (w : World) (B : Nat) (hB : B ≤ w.heap.size) : POwn t (w.alloc (.cells #[] t)) B (.slice (some ⟨w.heap.size, 0, none⟩) 0 0) [] := by
  refine ⟨rfl, .inr ⟨w.heap.size, 0, #[], rfl, hB, heap_alloc_new w _, Nat.le_refl _, Nat.zero_le _, rfl, rfl⟩⟩
end Go.Proofs.YtjehbdekipmllaaGreatDoor
namespace Go.Proofs.YtjehbdekipmllaaGreatDoor
open Go.RowKit

theorem SRow.cells {w : World} {a : Addr} {l : List U} (h : SRow w (some a) l) : ∀ j u, (l.map encStr)[j]? = some u → w.cell? (a.add j) = some u := by
  intro j u hu
  rcases h with rfl | ⟨b, off, ha, hc⟩
  · simp at hu
  · cases ha
    rw [List.getElem?_map] at hu
    obtain ⟨x, hx, rfl⟩ := Option.map_eq_some_iff.1 hu
    rw [add_none]
    exact hc j x hx
theorem encStr_one (l : List U) : ∀ u ∈ l.map encStr, u.oneCell' = true := by
  intro u hu
  obtain ⟨x, _, rfl⟩ := List.mem_map.1 hu
  rfl
theorem run_append_strs {w : World} {B : Nat} {v : Value} {l r : List U} {i0 : TypeInfo} (hi : Tryz.prog.info? 9 = some i0) (hz0 : i0.zero = some (.string { data := #[] })) (hz1 : i0.size = 1) (hz2 : i0.bytes = 16)
    (hown : SOwn w B v l) (ao : Option Addr) (c : Nat) (hr : SRow w ao r) (hsz : (l.length + r.length) * 16 ≤ 140737488355328) (hB : B ≤ w.heap.size) (ty : TypeId) :
    ∃ v' w', (Builtin.append_ #[44, 44] ty #[v, .slice ao r.length c]).run Tryz.prog w = .ok v' w' ∧ SOwn w' B v' (l ++ r) ∧ w.grownBy w' v.ownBlock := by
  cases ao with
  | none =>
    rcases hr with rfl | ⟨b, off, h, _⟩
    · refine ⟨v, w, ?_, by rw [List.append_nil]; exact hown, World.grownBy.refl _ _⟩
      have hc0 : ∀ c', (Builtin.append_ #[44, 44] ty #[v, .slice none 0 c']).run Tryz.prog w = (Builtin.append_ #[44, 44] ty #[v, .slice none 0 0]).run Tryz.prog w := fun c' => rfl
      rw [List.length_nil, hc0]
      exact run_append_owned_none (P := Tryz.prog) (w := w) B 44 ty 9 i0 1 Tryz.underlying44 hi v _ _ hown
    · cases h
  | some a =>
    obtain ⟨v', w', h1, h2, h3, _⟩ := run_append_own (P := Tryz.prog) w B 44 ty 9 i0 (.string { data := #[] }) 1 16 Tryz.underlying44 hi hz0 hz1 hz2 rfl (by decide) v l.length (l.map encStr) hown a r.length c (r.map encStr) (by simp) hr.cells (encStr_one r) (by unfold maxLen; omega) (by omega) hB
    refine ⟨v', w', h1, ?_, h3⟩
    unfold SOwn
    rw [List.length_append, List.map_append]
    exact h2
theorem wpList_append_strs {w : World} {ops : Array Oper} {rest : List Oper} {o : Oper} {a : Act} {Q : Exit → Act → World → Prop} {i0 : TypeInfo} (hgd : o.guard = none) (s x : Operand)
    (ho : o.op = .call { callee := .builtin .append, args := #[s, x], argTypes := #[44, 44] }) (hi : Tryz.prog.info? 9 = some i0) (hz0 : i0.zero = some (.string { data := #[] })) (hz1 : i0.size = 1) (hz2 : i0.bytes = 16)
    (B : Nat) (v : Value) (l r : List U) (hs : a.eval s = v) (hown : SOwn w B v l)
    (ao : Option Addr) (n c : Nat) (hn : n = r.length) (hx : a.eval x = .slice ao n c) (hr : SRow w ao r) (hsz : (l.length + r.length) * 16 ≤ 140737488355328) (hB : B ≤ w.heap.size)
    (h : ∀ v' w', SOwn w' B v' (l ++ r) → w.grownBy w' v.ownBlock → wpList Tryz.prog ops Q rest (a.put o.dst v') w') : wpList Tryz.prog ops Q (o :: rest) a w := by
  refine wpList_plain hgd fun K hK => ?_
  obtain ⟨v', w', hrun, h1, h2⟩ := run_append_strs hi hz0 hz1 hz2 hown ao c hr hsz hB o.type
  subst hn
  unfold Oper.wp
  simp [execOp, ho, resolve, invoke, builtin, hs, hx, hrun, Result.andThen]
  exact hK _ _ (h v' w' h1 h2)
/-- An empty slice that was just made. -/
theorem sown_new (w : World) (B : Nat) (hB : B ≤ w.heap.size) : SOwn (w.alloc (.cells #[] 9)) B (.slice (some ⟨w.heap.size, 0, none⟩) 0 0) [] := by
  refine ⟨rfl, .inr ⟨w.heap.size, 0, #[], rfl, hB, heap_alloc_new w _, Nat.le_refl _, Nat.zero_le _, rfl, rfl⟩⟩
end Go.Proofs.YtjehbdekipmllaaGreatDoor
