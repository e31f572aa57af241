/- The document's Try. -/
import Derived.Test.YtbhlciaigadlkaaQRefB
import Derived.Test.YtbhlciaigadlkaaQMade
namespace Go.Proofs.Ytbhlciaigadlkaa
open Go.RowKit Go.Maps

def wcs (p : Win) : List Value := [.string (str p.1), .int .u64 (p.2.1 : Int), .int .i64 (p.2.2 : Int)]
def flat3 (L : Tab) : List Value := L.flatMap wcs
theorem flat3_len (L : Tab) : (flat3 L).length = L.length * 3 := by
  induction L with
  | nil => rfl
  | cons x r ih => rw [flat3, List.flatMap_cons, List.length_append, show (r.flatMap wcs).length = r.length * 3 from ih, List.length_cons]; show 3 + _ = _; omega
theorem flat3_append (A B : Tab) : flat3 (A ++ B) = flat3 A ++ flat3 B := by unfold flat3; rw [List.flatMap_append]
theorem flat3_get : ∀ (L : Tab) (i : Nat) (x : Win), L[i]? = some x → (flat3 L)[i * 3]? = some (.string (str x.1)) ∧ (flat3 L)[i * 3 + 1]? = some (.int .u64 (x.2.1 : Int)) ∧ (flat3 L)[i * 3 + 2]? = some (.int .i64 (x.2.2 : Int))
  | [], _, _, h => by simp at h
  | y :: r, 0, x, h => by
    simp only [List.getElem?_cons_zero, Option.some.injEq] at h
    subst h
    exact ⟨rfl, rfl, rfl⟩
  | y :: r, i + 1, x, h => by
    rw [List.getElem?_cons_succ] at h
    have ih := flat3_get r i x h
    have e : ∀ k, (flat3 (y :: r))[k + 3]? = (flat3 r)[k]? := fun k => by
      show (wcs y ++ flat3 r)[k + 3]? = _
      rw [List.getElem?_append_right (by show 3 ≤ _; omega)]
      congr 1
    rw [show (i + 1) * 3 = i * 3 + 3 by omega, show i * 3 + 3 + 1 = (i * 3 + 1) + 3 by omega, show i * 3 + 3 + 2 = (i * 3 + 2) + 3 by omega, e, e, e]
    exact ih
theorem flat3_set (c' : Nat) : ∀ (L : Tab) (i : Nat) (x : Win), L[i]? = some x → (flat3 L).set (i * 3 + 2) (.int .i64 (c' : Int)) = flat3 (L.set i (x.1, (x.2.1, c')))
  | [], _, _, h => by simp at h
  | y :: r, 0, x, h => by
    simp only [List.getElem?_cons_zero, Option.some.injEq] at h
    subst h
    rfl
  | y :: r, i + 1, x, h => by
    rw [List.getElem?_cons_succ] at h
    have ih := flat3_set c' r i x h
    show (wcs y ++ flat3 r).set _ _ = wcs y ++ flat3 (r.set i _)
    rw [List.set_append_right _ _ (by show 3 ≤ _; omega), ← ih]
    congr 2
    show (i + 1) * 3 + 2 - 3 = i * 3 + 2
    omega
theorem flat3_one (L : Tab) : ∀ u ∈ flat3 L, u.oneCell' = true := by
  intro u hu
  obtain ⟨x, _, hx⟩ := List.mem_flatMap.1 hu
  simp only [wcs, List.mem_cons, List.not_mem_nil, or_false] at hx
  rcases hx with rfl | rfl | rfl <;> rfl
/-- A list of windows of the call's own. -/
def WOwn (w : World) (B : Nat) (v : Value) (L : Tab) : Prop := w.ownsRow B 79 3 v L.length (flat3 L)
theorem infoW : (Try.prog.info? 79).map (fun i => (i.zero, i.size, i.bytes)) = some (some (.agg #[.string { data := #[] }, .int .u64 0, .int .i64 0]), 3, 32) := by kernel_rfl
theorem VSee.cells {w : World} {a : Addr} {L : Tab} (h : VSee w (some a) L) : ∀ j u, (flat3 L)[j]? = some u → w.cell? (a.add j) = some u := by
  intro j u hu
  rcases h with rfl | ⟨b, off, ha, hc⟩
  · simp [flat3] at hu
  · cases ha
    have hj : j < L.length * 3 := by
      have := (List.getElem?_eq_some_iff.1 hu).1
      rw [flat3_len] at this
      exact this
    obtain ⟨q, hq⟩ : ∃ q, L[j / 3]? = some q := ⟨_, List.getElem?_eq_getElem (by omega)⟩
    obtain ⟨h0, h1, h2⟩ := flat3_get L (j / 3) q hq
    obtain ⟨c0, c1, c2⟩ := hc (j / 3) q hq
    rw [add_none]
    rcases (show j = j / 3 * 3 ∨ j = j / 3 * 3 + 1 ∨ j = j / 3 * 3 + 2 by omega) with e | e | e
    · rw [e] at hu ⊢; rw [h0] at hu; rw [c0, hu]
    · rw [e] at hu ⊢; rw [h1] at hu; rw [← Nat.add_assoc, c1, hu]
    · rw [e] at hu ⊢; rw [h2] at hu; rw [← Nat.add_assoc, c2, hu]
theorem WOwn.see {w : World} {B g n c : Nat} {L : Tab} (h : WOwn w B (.slice (some ⟨g, 0, none⟩) n c) L) : VSee w (some ⟨g, 0, none⟩) L := by
  refine .inr ⟨g, 0, rfl, fun i x hx => ?_⟩
  obtain ⟨h0, h1, h2⟩ := flat3_get L i x hx
  have hc := World.ownsRow.cells h (g := g) rfl
  have a0 := hc _ _ h0
  have a1 := hc _ _ h1
  have a2 := hc _ _ h2
  rw [add_none] at a0 a1 a2
  rw [← Nat.add_assoc] at a1 a2
  exact ⟨a0, a1, a2⟩
theorem WOwn.form {w : World} {B : Nat} {v : Value} {L : Tab} (h : WOwn w B v L) : ∃ ao c, v = .slice ao L.length c ∧ VSee w ao L ∧ (∀ a, ao = some a → B ≤ a.block ∧ a.block < w.heap.size) ∧ (∀ a, ao = some a → ∃ g, a = ⟨g, 0, none⟩) := by
  have hlt := World.ownsRow.lt h
  have h' := h
  rcases h.2 with ⟨rfl, hn⟩ | ⟨g, cap, cur, rfl, h0, h1, r⟩
  · exact ⟨none, 0, by rw [hn], .inl (List.length_eq_zero_iff.1 hn), fun a e => (by cases e), fun a e => (by cases e)⟩
  · exact ⟨_, cap, rfl, WOwn.see h', fun a e => (by cases e; exact hlt g rfl), fun a e => (by cases e; exact ⟨g, rfl⟩)⟩
theorem run_append_wins {w : World} {B : Nat} {v : Value} {l r : Tab} (hown : WOwn w B v l) (ao : Option Addr) (c : Nat) (hr : VSee w ao r) (hsz : (l.length + r.length) * 32 ≤ 140737488355328) (hB : B ≤ w.heap.size) (ty : TypeId) :
    ∃ v' w', (Builtin.append_ #[30, 30] ty #[v, .slice ao r.length c]).run Try.prog w = .ok v' w' ∧ WOwn w' B v' (l ++ r) ∧ w.grownBy w' v.ownBlock := by
  obtain ⟨i0, hi, hz0, hz1, hz2⟩ := info_parts infoW
  cases ao with
  | none =>
    rcases hr with rfl | ⟨b, off, h, _⟩
    · refine ⟨v, w, ?_, by rw [List.append_nil]; exact hown, World.grownBy.refl _ _⟩
      have hc0 : ∀ c', (Builtin.append_ #[30, 30] ty #[v, .slice none 0 c']).run Try.prog w = (Builtin.append_ #[30, 30] ty #[v, .slice none 0 0]).run Try.prog w := fun c' => rfl
      rw [List.length_nil, hc0]
      exact run_append_owned_none (P := Try.prog) (w := w) B 30 ty 79 i0 3 Try.underlying30 hi v _ _ hown
    · cases h
  | some a =>
    obtain ⟨v', w', h1, h2, h3, _⟩ := run_append_own_at (P := Try.prog) w B 30 ty 79 i0 _ 3 32 Try.underlying30 hi hz0 hz1 hz2 rfl (by decide) v l.length (flat3 l) hown a r.length c (flat3 r) (by rw [flat3_len]) hr.cells (flat3_one r) (by unfold maxLen; omega) (by omega) hB
    refine ⟨v', w', h1, ?_, h3⟩
    unfold WOwn
    rw [List.length_append, flat3_append]
    exact h2
theorem wpList_append_wins {w : World} {ops : Array Oper} {rest : List Oper} {o : Oper} {a : Act} {Q : Exit → Act → World → Prop} (hgd : o.guard = none) (s x : Operand)
    (ho : o.op = .call { callee := .builtin .append, args := #[s, x], argTypes := #[30, 30] })
    (B : Nat) (v : Value) (l r : Tab) (hs : a.eval s = v) (hown : WOwn w B v l)
    (ao : Option Addr) (n c : Nat) (hn : n = r.length) (hx : a.eval x = .slice ao n c) (hr : VSee w ao r) (hsz : (l.length + r.length) * 32 ≤ 140737488355328) (hB : B ≤ w.heap.size)
    (h : ∀ v' w', WOwn w' B v' (l ++ r) → w.grownBy w' v.ownBlock → wpList Try.prog ops Q rest (a.put o.dst v') w') : wpList Try.prog ops Q (o :: rest) a w := by
  refine wpList_plain hgd fun K hK => ?_
  obtain ⟨v', w', hrun, h1, h2⟩ := run_append_wins hown ao c hr hsz hB o.type
  subst hn
  unfold Oper.wp
  simp [execOp, ho, resolve, invoke, builtin, hs, hx, hrun, Result.andThen]
  exact hK _ _ (h v' w' h1 h2)
theorem wown_new (w : World) (B : Nat) (hB : B ≤ w.heap.size) : WOwn (w.alloc (.cells #[] 79)) B (.slice (some ⟨w.heap.size, 0, none⟩) 0 0) [] := by
  refine ⟨rfl, .inr ⟨w.heap.size, 0, #[], rfl, hB, heap_alloc_new w _, Nat.le_refl _, Nat.zero_le _, rfl, rfl⟩⟩
theorem WOwn.set {w : World} {B g n c : Nat} {L : Tab} (h : WOwn w B (.slice (some ⟨g, 0, none⟩) n c) L) {i : Nat} {x : Win} (hx : L[i]? = some x) (c' : Nat) : WOwn (w.setCell ⟨g, i * 3 + 2, none⟩ (.int .i64 (c' : Int))) B (.slice (some ⟨g, 0, none⟩) n c) (L.set i (x.1, (x.2.1, c'))) := by
  have hn : n = L.length := by
    rcases h.2 with ⟨e, _⟩ | ⟨g', cap, cur, e, _⟩
    · cases e
    · injection e
  subst hn
  have h2 := World.ownsRow.stored h (i * 3 + 2) (.int .i64 (c' : Int))
  rw [flat3_set c' L i x hx] at h2
  unfold WOwn
  rw [List.length_set]
  exact h2.1
theorem WOwn.frozen {w : World} {B g n c : Nat} {L : Tab} (h : WOwn w B (.slice (some ⟨g, 0, none⟩) n c) L) (j : Nat) : w.frozen? ⟨g, j, none⟩ = false := by
  have hn : n = L.length := by
    rcases h.2 with ⟨e, _⟩ | ⟨g', cap, cur, e, _⟩
    · cases e
    · injection e
  subst hn
  exact World.ownsRow.frozenAt h j
theorem WOwn.keep {w w' : World} {B : Nat} {v : Value} {L : Tab} (h : WOwn w B v L) (hb : Below w.heap.size w w') : WOwn w' B v L := owns_same h fun g hg => hb.block g (World.ownsRow.lt h g hg).2
theorem WOwn.apart {w w' : World} {B g n c M : Nat} {L : Tab} (h : WOwn w B (.slice (some ⟨g, 0, none⟩) n c) L) (hf : Fr [M] w w') (hg : g ≠ M) : WOwn w' B (.slice (some ⟨g, 0, none⟩) n c) L := owns_same h fun k hk => by
  cases hk
  exact hf.block g (World.ownsRow.lt h g rfl).2 (fun e => hg (List.mem_singleton.1 e))
/-- What a call of the document's limit leaves. -/
structure RPost (w w' : World) (ao : Option Addr) (L : Tab) (S' : LS) (ao' : Option Addr) (n' : Nat) (L' : Tab) : Prop where
  len : n' = L'.length
  see : VSee w' ao' L'
  ri : RI S' L'
  more : L'.length ≤ L.length + 1
  bel : Below w.heap.size w w'
  blk : ∀ a, ao' = some a → ao' = ao ∨ (w.heap.size ≤ a.block ∧ a.block < w'.heap.size)
theorem rpost_own {w w' : World} {ao : Option Addr} {L L' : Tab} {S' : LS} {B g n c : Nat} (h : WOwn w' B (.slice (some ⟨g, 0, none⟩) n c) L') (hB : w.heap.size ≤ g) (hn : n = L'.length) (hr : RI S' L') (hm : L'.length ≤ L.length + 1) (hb : Below w.heap.size w w') : RPost w w' ao L S' (some ⟨g, 0, none⟩) n L' :=
  ⟨hn, h.see, hr, hm, hb, fun a e => by cases e; exact .inr ⟨hB, (World.ownsRow.lt h g rfl).2⟩⟩
theorem WOwn.drew {w : World} {B : Nat} {v : Value} {L : Tab} (h : WOwn w B v L) : WOwn w.drew B v L := h
theorem below_drew {B : Nat} {a w : World} (h : Below B a w) : Below B a w.drew := h.trans ⟨rfl, rfl, rfl, Nat.le_refl _, fun _ _ => rfl⟩
/-- What the document's Try leaves. -/
def TPost (w : World) (ao : Option Addr) (L : Tab) (r : LS × (Nat × Nat)) (e : Ending) (w' : World) : Prop := ∃ (ao' : Option Addr) (n' c' : Nat), e = .returned (.tuple #[.agg (rcl r.1 (.slice ao' n' c')).toArray, .int .i64 (r.2.1 : Int), .int .i64 (r.2.2 : Int)]) ∧ ∃ L', RPost w w' ao L r.1 ao' n' L'
theorem tpost_mk {w w' : World} {ao ao' : Option Addr} {L L' : Tab} {S' : LS} {ln en n' c' : Nat} (h : RPost w w' ao L S' ao' n' L') : TPost w ao L (S', (ln, en)) (.returned (.tuple #[.agg (rcl S' (.slice ao' n' c')).toArray, .int .i64 (ln : Int), .int .i64 (en : Int)])) w' := ⟨ao', n', c', rfl, L', h⟩
theorem goTo_max (S : LS) (now : Nat) : S.goTo now = S.goTo (max now S.clock) := by
  by_cases hn : now ≤ S.clock
  · rw [show max now S.clock = S.clock by omega]
    unfold LS.goTo
    rw [if_pos hn, if_pos (Nat.le_refl _)]
  · rw [show max now S.clock = now by omega]
theorem try_max (S : LS) (nm : Nm) (now : Nat) : S.try nm now = S.try nm (max now S.clock) := by
  unfold LS.try
  rw [goTo_max S now]
end Go.Proofs.Ytbhlciaigadlkaa
