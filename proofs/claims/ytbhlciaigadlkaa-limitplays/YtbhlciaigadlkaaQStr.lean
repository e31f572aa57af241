/- Rows of texts: the law's texts; append of texts. -/
import Derived.Test.YtbhlciaigadlkaaQOps
import Derived.Test.YtbhlciaigadlkaaQLeft
namespace Go.Proofs.Ytbhlciaigadlkaa
open Go.RowKit Go.Maps

/-- Texts in memory. -/
def TSee (w : World) (ao : Option Addr) (s : List Nm) : Prop := s = [] ∨ ∃ b off, ao = some ⟨b, off, none⟩ ∧ ∀ (i : Nat) (x : Nm), s[i]? = some x → w.cell? ⟨b, off + i, none⟩ = some (.string (str x))
theorem TSee.at {w : World} {ao : Option Addr} {s : List Nm} (h : TSee w ao s) {i : Nat} {x : Nm} (hx : s[i]? = some x) : ∃ b off, ao = some ⟨b, off, none⟩ ∧ w.cell? ⟨b, off + i, none⟩ = some (.string (str x)) := by
  rcases h with rfl | ⟨b, off, rfl, hc⟩
  · simp at hx
  · exact ⟨b, off, rfl, hc i x hx⟩
theorem TSee.keep {w w' : World} {ao : Option Addr} {s : List Nm} (h : TSee w ao s) (hb : Below w.heap.size w w') : TSee w' ao s := by
  rcases h with h | ⟨b, off, rfl, hc⟩
  · exact .inl h
  · exact .inr ⟨b, off, rfl, fun i x hx => cell_kept (hc i x hx) hb⟩
def TOwn (w : World) (B : Nat) (v : Value) (s : List Nm) : Prop := w.ownsRow B 9 1 v s.length (s.map encStr)
theorem infoT : (Try.prog.info? 9).map (fun i => (i.zero, i.size, i.bytes)) = some (some (.string { data := #[] }), 1, 16) := by kernel_rfl
theorem encStr_one (s : List Nm) : ∀ u ∈ s.map encStr, u.oneCell' = true := by
  intro u hu
  obtain ⟨n, _, rfl⟩ := List.mem_map.1 hu
  rfl
theorem TSee.cells {w : World} {a : Addr} {s : List Nm} (h : TSee w (some a) s) : ∀ j u, (s.map encStr)[j]? = some u → w.cell? (a.add j) = some u := by
  intro j u hu
  rcases h with rfl | ⟨b, off, ha, hc⟩
  · simp at hu
  · cases ha
    rw [List.getElem?_map] at hu
    obtain ⟨x, hx, rfl⟩ := Option.map_eq_some_iff.1 hu
    rw [add_none, hc j x hx, encStr_str]
theorem TOwn.see {w : World} {B g n c : Nat} {s : List Nm} (h : TOwn w B (.slice (some ⟨g, 0, none⟩) n c) s) : TSee w (some ⟨g, 0, none⟩) s := by
  refine .inr ⟨g, 0, rfl, fun i x hx => ?_⟩
  have := World.ownsRow.cells h (g := g) rfl i (encStr x) (by rw [List.getElem?_map, hx]; rfl)
  rw [add_none] at this
  exact this
theorem TOwn.form {w : World} {B : Nat} {v : Value} {s : List Nm} (h : TOwn w B v s) : ∃ ao c, v = .slice ao s.length c ∧ s.length ≤ c ∧ TSee w ao s ∧ (∀ a, ao = some a → B ≤ a.block ∧ a.block < w.heap.size) ∧ (∀ a, ao = some a → ∃ g, a = ⟨g, 0, none⟩) := by
  have hlt := World.ownsRow.lt h
  have h' := h
  rcases h.2 with ⟨rfl, hn⟩ | ⟨g, cap, cur, rfl, h0, h1, h2, r⟩
  · exact ⟨none, 0, by rw [hn], by omega, .inl (List.length_eq_zero_iff.1 hn), fun a e => (by cases e), fun a e => (by cases e)⟩
  · exact ⟨_, cap, rfl, h2, TOwn.see h', fun a e => (by cases e; exact hlt g rfl), fun a e => (by cases e; exact ⟨g, rfl⟩)⟩
theorem TOwn.keep {w w' : World} {B : Nat} {v : Value} {s : List Nm} (h : TOwn w B v s) (hb : Below w.heap.size w w') : TOwn w' B v s := owns_same h fun g hg => hb.block g (World.ownsRow.lt h g hg).2
theorem run_append_texts {w : World} {B : Nat} {v : Value} {l r : List Nm} (hown : TOwn w B v l) (ao : Option Addr) (c : Nat) (hr : TSee w ao r) (hsz : (l.length + r.length) * 16 ≤ 140737488355328) (hB : B ≤ w.heap.size) (ty : TypeId) :
    ∃ v' w', (Builtin.append_ #[50, 50] ty #[v, .slice ao r.length c]).run Try.prog w = .ok v' w' ∧ TOwn w' B v' (l ++ r) ∧ w.grownBy w' v.ownBlock := by
  obtain ⟨i0, hi, hz0, hz1, hz2⟩ := info_parts infoT
  cases ao with
  | none =>
    rcases hr with rfl | ⟨b, off, h, _⟩
    · refine ⟨v, w, ?_, by rw [List.append_nil]; exact hown, World.grownBy.refl _ _⟩
      have hc0 : ∀ c', (Builtin.append_ #[50, 50] ty #[v, .slice none 0 c']).run Try.prog w = (Builtin.append_ #[50, 50] ty #[v, .slice none 0 0]).run Try.prog w := fun c' => rfl
      rw [List.length_nil, hc0]
      exact run_append_owned_none (P := Try.prog) (w := w) B 50 ty 9 i0 1 Try.underlying50 hi v _ _ hown
    · cases h
  | some a =>
    obtain ⟨v', w', h1, h2, h3, _⟩ := run_append_own_at (P := Try.prog) w B 50 ty 9 i0 _ 1 16 Try.underlying50 hi hz0 hz1 hz2 rfl (by decide) v l.length (l.map encStr) hown a r.length c (r.map encStr) (by simp) hr.cells (encStr_one r) (by unfold maxLen; omega) (by omega) hB
    refine ⟨v', w', h1, ?_, h3⟩
    unfold TOwn
    rw [List.length_append, List.map_append]
    exact h2
theorem wpList_append_texts {w : World} {ops : Array Oper} {rest : List Oper} {o : Oper} {a : Act} {Q : Exit → Act → World → Prop} (hgd : o.guard = none) (s x : Operand)
    (ho : o.op = .call { callee := .builtin .append, args := #[s, x], argTypes := #[50, 50] })
    (B : Nat) (v : Value) (l r : List Nm) (hs : a.eval s = v) (hown : TOwn w B v l)
    (ao : Option Addr) (n c : Nat) (hn : n = r.length) (hx : a.eval x = .slice ao n c) (hr : TSee w ao r) (hsz : (l.length + r.length) * 16 ≤ 140737488355328) (hB : B ≤ w.heap.size)
    (h : ∀ v' w', TOwn w' B v' (l ++ r) → w.grownBy w' v.ownBlock → wpList Try.prog ops Q rest (a.put o.dst v') w') : wpList Try.prog ops Q (o :: rest) a w := by
  refine wpList_plain hgd fun K hK => ?_
  obtain ⟨v', w', hrun, h1, h2⟩ := run_append_texts hown ao c hr hsz hB o.type
  subst hn
  unfold Oper.wp
  simp [execOp, ho, resolve, invoke, builtin, hs, hx, hrun, Result.andThen]
  exact hK _ _ (h v' w' h1 h2)
theorem town_new (w : World) (B : Nat) (hB : B ≤ w.heap.size) : TOwn (w.alloc (.cells #[] 9)) B (.slice (some ⟨w.heap.size, 0, none⟩) 0 0) [] := by
  refine ⟨rfl, .inr ⟨w.heap.size, 0, #[], rfl, hB, heap_alloc_new w _, Nat.le_refl _, Nat.zero_le _, rfl, rfl⟩⟩
theorem town_nil (w : World) (B : Nat) : TOwn w B (.slice none 0 0) [] := World.ownsRow_nil _ _ _ _
theorem tsee_one (w : World) (x : Nm) : TSee (w.alloc (.cells #[.string (str x)] 9)) (some ⟨w.heap.size, 0, none⟩) [x] := by
  refine .inr ⟨_, _, rfl, fun i y hy => ?_⟩
  have hi : i = 0 := by
    have := (List.getElem?_eq_some_iff.1 hy).1
    simpa using this
  subst hi
  simp only [List.getElem?_cons_zero, Option.some.injEq] at hy
  subst hy
  exact (Bl.new w #[.string (str x)] 9).cell 0
set_option maxHeartbeats 1000000 in
set_option maxRecDepth 100000 in
/-- The law's texts: whether two rows are one. -/
theorem texts_any (ao bo : Option Addr) (n m c d : Nat) (s : List Nm) (w : World) (ha : TSee w ao s) (hb : TSee w bo s) (hn : n = s.length) (hm : m = s.length) (hl : n ≤ 1000000000) :
    Calls Try.prog 27 #[.slice ao n c, .slice bo m d] w fun e w' => e = .returned (.bool true) ∧ Below w.heap.size w w' := by
  have HA := hide ha
  have HB := hide hb
  have HN := hide hn
  obtain rfl : m = n := by omega
  clear ha hb hn hm
  have hnn : ((m : Int) != (m : Int)) = false := by simp
  go_enter Try.func27, Try.ntmps27
  go_wp2
  go_loopw [5] (fun a5 wr => ∃ i : Nat, a5 = .int .i64 (i : Int) ∧ i ≤ m ∧ Hid (Below w.heap.size w wr))
    (fun a5 _ => m - (match a5 with | .int _ x => x.toNat | _ => 0))
  case atStart => exact ⟨0, rfl, Nat.zero_le _, hide (Below.refl _ _)⟩
  case round =>
    obtain ⟨i, rfl, hi, HQ⟩ := hrel
    by_cases hin : i < m
    · have hin' : (i : Int) < (m : Int) := by omega
      obtain ⟨x, hx⟩ : ∃ x, s[i]? = some x := ⟨_, List.getElem?_eq_getElem (by rw [← HN.out]; exact hin)⟩
      obtain ⟨b1, o1, hao, q1⟩ := HA.out.at hx
      obtain ⟨b2, o2, hbo, q2⟩ := HB.out.at hx
      subst hao
      subst hbo
      have q1' : wr.cell? ⟨b1, o1 + i, none⟩ = some (.string (str x)) := cell_kept q1 HQ.out
      have q2' : wr.cell? ⟨b2, o2 + i, none⟩ = some (.string (str x)) := cell_kept q2 HQ.out
      have HIN := hide hin
      have hwri : IntKind.i64.wrap ((i : Int) + 1) = ((i + 1 : Nat) : Int) := by rw [IntKind.wrap_i64]; omega
      clear hi hx hin q1 q2
      go_wp2
      go_quiet (fail)
      go_wp2
      go_roundw
      case rel => exact ⟨i + 1, by first | rfl | simp, HIN.out, hide (below_drewN HQ.out _)⟩
      case measure => have := HIN.out; simp; omega
    · have hin' : ¬ (i : Int) < (m : Int) := by omega
      clear hi hin
      go_wp2
      go_ret
      exact ⟨rfl, HQ.out⟩
end Go.Proofs.Ytbhlciaigadlkaa
