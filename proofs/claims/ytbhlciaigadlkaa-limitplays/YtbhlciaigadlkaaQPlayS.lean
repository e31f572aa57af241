/- The rows of names that the law's played holds beside the two limits. -/
import Derived.Test.YtbhlciaigadlkaaQPlayB
namespace Go.Proofs.Ytbhlciaigadlkaa
open Go.RowKit Go.Maps Go.Shelf

theorem TSee.blk {w w' : World} {ao : Option Addr} {s : List Nm} (h : TSee w ao s) (hb : ∀ a, ao = some a → w'.heap[a.block]? = w.heap[a.block]?) : TSee w' ao s := by
  rcases h with h | ⟨b, off, rfl, hc⟩
  · exact .inl h
  · exact .inr ⟨b, off, rfl, fun i x hx => (World.cell?_of_block (a := ⟨b, off + i, none⟩) (hb ⟨b, off, none⟩ rfl)).trans (hc i x hx)⟩
/-- A row of one's own that is written over, beside two that are only read. -/
structure SI (u W : World) (v : Value) (s : List Nm) (a2 a3 : Option Addr) (ns : List Nm) : Prop where
  bel : Below u.heap.size u W
  own : TOwn W u.heap.size v s
  b : TSee W a2 ns
  want : TSee W a3 ns
  ap2 : ∀ a, a2 = some a → v.ownBlock ≠ some a.block ∧ a.block < W.heap.size
  ap3 : ∀ a, a3 = some a → v.ownBlock ≠ some a.block ∧ a.block < W.heap.size
theorem SI.below {u W W' : World} {v : Value} {s ns : List Nm} {a2 a3 : Option Addr} (h : SI u W v s a2 a3 ns) (hb : Below W.heap.size W W') : SI u W' v s a2 a3 ns :=
  ⟨h.bel.trans (hb.mono h.bel.size), h.own.keep hb, h.b.keep hb, h.want.keep hb, fun a ha => ⟨(h.ap2 a ha).1, Nat.lt_of_lt_of_le (h.ap2 a ha).2 hb.size⟩, fun a ha => ⟨(h.ap3 a ha).1, Nat.lt_of_lt_of_le (h.ap3 a ha).2 hb.size⟩⟩
theorem own_moved {v v' : Value} {W : World} {b : Nat} (hl : v'.ownBlock = v.ownBlock ∨ v'.ownBlock = some W.heap.size) (h : v.ownBlock ≠ some b ∧ b < W.heap.size) : v'.ownBlock ≠ some b := by
  rcases hl with e | e
  · rw [e]; exact h.1
  · rw [e]; intro k; injection k with k; have := h.2; omega
theorem SI.grow {u W W' : World} {v v' : Value} {s s' ns : List Nm} {a2 a3 : Option Addr} (h : SI u W v s a2 a3 ns) (hg : W.grownBy W' v.ownBlock) (h' : TOwn W' u.heap.size v' s') (hl : v'.ownBlock = v.ownBlock ∨ v'.ownBlock = some W.heap.size) : SI u W' v' s' a2 a3 ns :=
  ⟨h.bel.grown hg h.bel.size (fun k hk => (World.ownsRow.lt h.own k hk).1), h', h.b.blk (fun a ha => hg.block a.block (h.ap2 a ha).2 (Ne.symm (h.ap2 a ha).1)), h.want.blk (fun a ha => hg.block a.block (h.ap3 a ha).2 (Ne.symm (h.ap3 a ha).1)), fun a ha => ⟨own_moved hl (h.ap2 a ha), Nat.lt_of_lt_of_le (h.ap2 a ha).2 hg.size⟩, fun a ha => ⟨own_moved hl (h.ap3 a ha), Nat.lt_of_lt_of_le (h.ap3 a ha).2 hg.size⟩⟩
theorem TOwn.len {w : World} {B g n c : Nat} {s : List Nm} (h : TOwn w B (.slice (some ⟨g, 0, none⟩) n c) s) : n = s.length := by
  rcases h.2 with ⟨e, _⟩ | ⟨g', cap, cur, e, _⟩
  · cases e
  · injection e
theorem TOwn.set {w : World} {B g n c : Nat} {s : List Nm} (h : TOwn w B (.slice (some ⟨g, 0, none⟩) n c) s) (i : Nat) (x : Nm) : TOwn (w.setCell ⟨g, i, none⟩ (.string (str x))) B (.slice (some ⟨g, 0, none⟩) n c) (s.set i x) := by
  have hn := h.len
  subst hn
  have h2 := World.ownsRow.stored h i (encStr x)
  rw [← List.map_set] at h2
  unfold TOwn
  rw [List.length_set]
  rw [encStr_str] at h2
  exact h2.1
theorem SI.set {u W : World} {g n c : Nat} {s ns : List Nm} {a2 a3 : Option Addr} (h : SI u W (.slice (some ⟨g, 0, none⟩) n c) s a2 a3 ns) (i : Nat) (x : Nm) : SI u (W.setCell ⟨g, i, none⟩ (.string (str x))) (.slice (some ⟨g, 0, none⟩) n c) (s.set i x) a2 a3 ns := by
  have hf := Fr.setCell [g] W g i (.string (str x)) (by simp)
  have hk : ∀ b, b < W.heap.size → (Value.slice (some ⟨g, 0, none⟩) n c).ownBlock ≠ some b → (W.setCell ⟨g, i, none⟩ (.string (str x))).heap[b]? = W.heap[b]? := fun b hb hne => hf.block b hb (fun e => hne (by rw [List.mem_singleton.1 e]; rfl))
  exact ⟨below_set h.bel (World.ownsRow.lt h.own g rfl).1 i _, h.own.set i x, h.b.blk (fun a ha => hk _ (h.ap2 a ha).2 (h.ap2 a ha).1), h.want.blk (fun a ha => hk _ (h.ap3 a ha).2 (h.ap3 a ha).1), fun a ha => ⟨(h.ap2 a ha).1, Nat.lt_of_lt_of_le (h.ap2 a ha).2 hf.size⟩, fun a ha => ⟨(h.ap3 a ha).1, Nat.lt_of_lt_of_le (h.ap3 a ha).2 hf.size⟩⟩
/-- append(v, x) of one text that was just laid. -/
theorem wpList_append_t1 {w : World} {ops : Array Oper} {rest : List Oper} {o : Oper} {a : Act} {Q : Exit → Act → World → Prop} (hgd : o.guard = none) (s x : Operand)
    (ho : o.op = .call { callee := .builtin .append, args := #[s, x], argTypes := #[50, 50] }) (B : Nat) (v : Value) (l : List Nm) (hs : a.eval s = v) (hown : TOwn w B v l)
    (g : Nat) (t : Nm) (hx : a.eval x = .slice (some ⟨g, 0, none⟩) 1 1) (hc0 : w.cell? ⟨g, 0, none⟩ = some (.string (str t))) (hsz : l.length ≤ 1000000) (hB : B ≤ w.heap.size)
    (h : ∀ v' w', TOwn w' B v' (l ++ [t]) → w.grownBy w' v.ownBlock → (v'.ownBlock = v.ownBlock ∨ v'.ownBlock = some w.heap.size) → wpList Try.prog ops Q rest (a.put o.dst v') w') : wpList Try.prog ops Q (o :: rest) a w := by
  obtain ⟨i0, hi, hz0, hz1, hz2⟩ := info_parts infoT
  refine wpList_append_own_at w hgd s x 50 ho B 9 i0 _ 1 16 Try.underlying50 hi hz0 hz1 hz2 rfl (by decide) v l.length (l.map encStr) hs hown ⟨g, 0, none⟩ 1 1 [encStr t] hx rfl ?_ (fun u hu => encStr_one [t] u (by simpa using hu)) (by unfold maxLen; omega) (by omega) hB ?_
  · intro j u hu
    rw [add_none, Nat.zero_add]
    match j, hu with
    | 0, hu => cases hu; rw [hc0, encStr_str]
  · intro v' w' h1 h2 _ h3
    refine h v' w' ?_ h2 h3
    unfold TOwn
    rw [List.length_append, List.map_append]
    exact h1
end Go.Proofs.Ytbhlciaigadlkaa
