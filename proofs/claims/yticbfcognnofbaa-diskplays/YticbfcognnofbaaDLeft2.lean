/- Lists of files that the call has made; slices of changes; the walk's laws for them. -/
import Derived.Test.YticbfcognnofbaaDList
namespace Go.Proofs.Yticbfcognnofbaa
open Go.RowKit Go.Maps

def fcells (l : List (Nm × List Nat)) (us : List Value) : List Value := (l.zip us).flatMap fun q => [.string (str q.1.1), q.2]
/-- A list of files that the call has made from block B on. -/
structure FOwn (w : World) (B : Nat) (v : Value) (l : List (Nm × List Nat)) (us : List Value) : Prop where
  len : us.length = l.length
  row : w.ownsRow B 54 2 v l.length (fcells l us)
  own : ∀ (i : Nat) u x, us[i]? = some u → l[i]? = some x → Own w 0 u x.2
  new : ∀ (i : Nat) u g, us[i]? = some u → u.ownBlock = some g → B ≤ g ∧ v.ownBlock ≠ some g
theorem fown_nil (w : World) (B : Nat) : FOwn w B (.slice none 0 0) [] [] := ⟨rfl, World.ownsRow_nil _ _ _ _, fun i u x h _ => by simp at h, fun i u g h _ => by simp at h⟩
theorem infoF : (Try.prog.info? 54).map (fun i => (i.zero, i.size, i.bytes)) = some (some (.agg #[.string ⟨#[]⟩, .slice none 0 0]), 2, 40) := by kernel_rfl
theorem fcells_snoc {l : List (Nm × List Nat)} {us : List Value} (h : us.length = l.length) (x : Nm × List Nat) (u : Value) : fcells (l ++ [x]) (us ++ [u]) = fcells l us ++ [.string (str x.1), u] := by
  unfold fcells
  rw [List.zip_append (by omega), List.flatMap_append]
  simp
theorem fcells_length {l : List (Nm × List Nat)} {us : List Value} (h : us.length = l.length) : (fcells l us).length = l.length * 2 := by
  induction l generalizing us with
  | nil => simp [fcells]
  | cons x l ih =>
    cases us with
    | nil => simp at h
    | cons u us =>
      have := ih (us := us) (by simpa using h)
      unfold fcells at this ⊢
      simp only [List.zip_cons_cons, List.flatMap_cons, List.length_append, this, List.length_cons, List.length_nil]
      omega
theorem fcells_get : ∀ {l : List (Nm × List Nat)} {us : List Value} (i : Nat) {x : Nm × List Nat} {u : Value}, l[i]? = some x → us[i]? = some u → (fcells l us)[i * 2]? = some (.string (str x.1)) ∧ (fcells l us)[i * 2 + 1]? = some u
  | [], _, i, _, _, h, _ => by simp at h
  | _ :: _, [], i, _, _, _, h => by simp at h
  | y :: l, c :: us, 0, x, u, h1, h2 => by
    have e1 : y = x := by simpa using h1
    have e2 : c = u := by simpa using h2
    subst e1; subst e2
    simp [fcells]
  | y :: l, c :: us, i + 1, x, u, h1, h2 => by
    have := fcells_get (l := l) (us := us) i (x := x) (u := u) (by simpa using h1) (by simpa using h2)
    have e : fcells (y :: l) (c :: us) = [.string (str y.1), c] ++ fcells l us := by simp [fcells]
    rw [e, show (i + 1) * 2 = 2 + i * 2 by omega, show 2 + i * 2 + 1 = 2 + (i * 2 + 1) by omega, List.getElem?_append_right (by simp), List.getElem?_append_right (by simp)]
    simpa using this
/-- append of one file, as a step of a region that draws. -/
theorem law_appF {w : World} {ops : Array Oper} {o : Oper} {a : Act} {K : Act → World → Prop} {Q : Exit → Act → World → Prop} {E : Prop} (hgd : o.guard = none) (s x : Operand)
    (ho : o.op = .call { callee := .builtin .append, args := #[s, x], argTypes := #[25, 25] }) (B : Nat) (v : Value) (n : Nat) (xs cs : List Value) (hs : a.eval s = v) (hown : w.ownsRow B 54 2 v n xs)
    (b : Nat) (hx : a.eval x = .slice (some ⟨b, 0, none⟩) 1 1) (hy : Bl w b cs 54) (hcl : cs.length = 2) (hc1 : ∀ u ∈ cs, u.oneCell' = true) (hsz : (n + 1) * 40 ≤ 140737488355328) (hB : B ≤ w.heap.size)
    (h : ∀ ao cap w', w'.ownsRow B 54 2 (.slice ao (n + 1) cap) (n + 1) (xs ++ cs) → w.grownBy w' v.ownBlock → (Value.ownBlock (.slice ao (n + 1) cap) = v.ownBlock ∨ Value.ownBlock (.slice ao (n + 1) cap) = some w.heap.size) → K (a.put o.dst (.slice ao (n + 1) cap)) w') : if Region.wanted o (yielded ops a.tmps) = true then Oper.wp Try.prog o a w K Q else E := by
  obtain ⟨i0, hi, hz0, hz1, hz2⟩ := info_parts infoF
  rw [if_pos (by simp [Region.wanted, hgd])]
  obtain ⟨v', w', hrun, h1, h2, h3, h4⟩ := run_append_own_at (P := Try.prog) w B 25 o.type 54 i0 _ 2 40 Try.underlying25 hi hz0 hz1 hz2 rfl (by decide) v n xs hown ⟨b, 0, none⟩ 1 1 cs (by rw [hcl]) (fun j u hu => by rw [add_none, Nat.zero_add, hy.cell]; exact hu) hc1 (by unfold maxLen; omega) (by omega) hB
  unfold Oper.wp
  simp [execOp, ho, resolve, invoke, builtin, hs, hx, hrun, Result.andThen]
  obtain ⟨ao, cap, rfl⟩ := ownsRow_slice h1
  exact h ao cap w' h1 h2 h4
/-- One file more. -/
theorem fown_step {wr W w' : World} {B : Nat} {v u : Value} {l : List (Nm × List Nat)} {us : List Value} {x : Nm × List Nat} {o : Obj} {ao : Option Addr} {cap : Nat} (h : FOwn wr B v l us) (hB : B ≤ wr.heap.size) (hb : Below wr.heap.size wr W) (hu : Own W 0 u x.2) (hn : ∀ g, u.ownBlock = some g → wr.heap.size ≤ g)
    (hrow : w'.ownsRow B 54 2 (.slice ao (l.length + 1) cap) (l.length + 1) (fcells l us ++ [.string (str x.1), u])) (hg : (W.alloc o).grownBy w' v.ownBlock) (hl : Value.ownBlock (.slice ao (l.length + 1) cap) = v.ownBlock ∨ Value.ownBlock (.slice ao (l.length + 1) cap) = some (W.alloc o).heap.size) :
    FOwn w' B (.slice ao (l.length + 1) cap) (l ++ [x]) (us ++ [u]) ∧ Below B wr w' := by
  have hz : (W.alloc o).heap.size = W.heap.size + 1 := by simp
  have hvb : ∀ g, v.ownBlock = some g → B ≤ g ∧ g < wr.heap.size := fun g hgv => World.ownsRow.lt h.row g hgv
  have hbs := hb.size
  have same : ∀ b, b < W.heap.size → v.ownBlock ≠ some b → w'.heap[b]? = W.heap[b]? := fun b hlt hne => by
    rw [hg.block b (by omega) (fun e => hne e.symm), Below.heap_alloc W o b hlt]
  refine ⟨⟨by simp [h.len], ?_, fun i c y h1 h2 => ?_, fun i c g h1 h2 => ?_⟩, hg.os.trans hb.os, hg.tape.trans hb.tape, hg.output.trans hb.output, ?_, fun k hk => ?_⟩
  · rw [fcells_snoc h.len, List.length_append]; exact hrow
  · by_cases hi : i < l.length
    · rw [List.getElem?_append_left (by rw [h.len]; exact hi)] at h1
      rw [List.getElem?_append_left hi] at h2
      refine owns_same (h.own i c y h1 h2) fun g hgv => ?_
      have hlt := (World.ownsRow.lt (h.own i c y h1 h2) g hgv).2
      have hne := (h.new i c g h1 hgv).2
      rw [same g (by omega) hne, hb.block g hlt]
    · have hil : i = l.length := by
        rcases Nat.lt_or_ge i (l ++ [x]).length with h3 | h3
        · simp at h3; omega
        · rw [List.getElem?_eq_none h3] at h2; cases h2
      subst hil
      rw [← h.len, List.getElem?_concat_length] at h1
      rw [List.getElem?_concat_length] at h2
      injection h1 with h1
      injection h2 with h2
      subst h1; subst h2
      refine owns_same hu fun g hgv => same g (World.ownsRow.lt hu g hgv).2 (fun e => ?_)
      have := hn g hgv
      have := (hvb g e).2
      omega
  · by_cases hi : i < l.length
    · rw [List.getElem?_append_left (by rw [h.len]; exact hi)] at h1
      obtain ⟨y, hy⟩ : ∃ y, l[i]? = some y := ⟨_, List.getElem?_eq_getElem hi⟩
      have hlt := (World.ownsRow.lt (h.own i c y h1 hy) g h2).2
      have hne := h.new i c g h1 h2
      refine ⟨hne.1, ?_⟩
      rcases hl with e | e
      · rw [e]; exact hne.2
      · rw [e]; intro e2; injection e2 with e2; omega
    · have hil : i = us.length := by
        rcases Nat.lt_or_ge i (us ++ [u]).length with h3 | h3
        · simp at h3; have := h.len; omega
        · rw [List.getElem?_eq_none h3] at h1; cases h1
      subst hil
      rw [List.getElem?_concat_length] at h1
      injection h1 with h1
      subst h1
      have hgu := hn g h2
      have hlu := (World.ownsRow.lt hu g h2).2
      refine ⟨by omega, ?_⟩
      rcases hl with e | e
      · rw [e]; intro e2; have := (hvb g e2).2; omega
      · rw [e]; intro e2; injection e2 with e2; omega
  · have := hg.size; omega
  · rw [same k (by omega) (fun e => by have := (hvb k e).1; omega), hb.block k (by omega)]
theorem FOwn.keep {w w' : World} {B : Nat} {v : Value} {l : List (Nm × List Nat)} {us : List Value} (h : FOwn w B v l us) (hb : Below w.heap.size w w') : FOwn w' B v l us :=
  ⟨h.len, owns_same h.row fun g hg => hb.block g (World.ownsRow.lt h.row g hg).2, fun i u x h1 h2 => (h.own i u x h1 h2).keep hb, h.new⟩
theorem FOwn.lower {w : World} {B B' : Nat} {v : Value} {l : List (Nm × List Nat)} {us : List Value} (h : FOwn w B v l us) (hb : B' ≤ B) : FOwn w B' v l us := by
  refine ⟨h.len, ⟨h.row.1, ?_⟩, h.own, fun i u g h1 h2 => ⟨Nat.le_trans hb (h.new i u g h1 h2).1, (h.new i u g h1 h2).2⟩⟩
  rcases h.row.2 with h2 | ⟨g, cap, cur, e, hg, r⟩
  · exact .inl h2
  · exact .inr ⟨g, cap, cur, e, Nat.le_trans hb hg, r⟩
theorem elemC : Try.prog.elem 85 = 94 := by kernel_rfl
theorem underC : Try.prog.underlying 85 = some (.slice (Try.prog.elem 85)) := by rw [elemC]; exact Try.underlying85
theorem sizeC (w : World) : (sizeOf (Try.prog.elem 85)).run Try.prog w = .ok 3 w := by
  obtain ⟨i0, hi, hz0, hz1, hz2⟩ := info_parts infoCh
  rw [elemC]
  simp [sizeOf, typeInfo, hi, hz1]
theorem slice_chg (ao : Option Addr) (n cap m : Nat) (ha : ao = none ∧ n = 0 ∧ cap = 0 ∨ ∃ g, ao = some ⟨g, 0, none⟩) (hm : m ≤ n) (hn : n ≤ cap) : ∀ w, (Instr.slice 85 (.slice ao n cap) none (some (.int .i64 (m : Int))) none).run Try.prog w = .ok (.slice ao m cap) w := fun w => by
  rw [run_slice_h w 85 ao n cap underC .i64 (m : Int) (by omega) (by omega), sizeC]
  rcases ha with ⟨rfl, rfl, rfl⟩ | ⟨g, rfl⟩
  · obtain rfl : m = 0 := by omega
    simp [Result.andThen, sliced]
  · simp [Result.andThen, sliced, add_none]
theorem kept_shape {w : World} {n : Nat} {v : Value} {xs : List Value} (h : w.ownsRow 0 94 3 v n xs) : ∃ ao cap, v = .slice ao n cap ∧ (ao = none ∧ n = 0 ∧ cap = 0 ∨ ∃ g, ao = some ⟨g, 0, none⟩) ∧ n ≤ cap := by
  rcases h.2 with ⟨rfl, rfl⟩ | ⟨g, cap, cur, rfl, _, _, h3, _⟩
  · exact ⟨none, 0, rfl, .inl ⟨rfl, rfl, rfl⟩, Nat.le_refl _⟩
  · exact ⟨_, cap, rfl, .inr ⟨g, rfl⟩, h3⟩
end Go.Proofs.Yticbfcognnofbaa
