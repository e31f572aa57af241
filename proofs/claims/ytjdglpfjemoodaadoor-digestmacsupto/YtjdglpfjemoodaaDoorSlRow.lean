/- Rows of slices that the call itself has made: append of one, reading. -/
import Derived.Test.YtjdglpfjemoodaaDoorApart
namespace Go.Proofs.YtjdglpfjemoodaaDoor
open Go.RowKit

def OwnS (w : World) (B : Nat) (v : Value) (vs : List Value) : Prop := w.ownsRow B 26 1 v vs.length vs
theorem infoS : (Tryd.prog.info? 26).map (fun i => (i.zero, i.size, i.bytes)) = some (some (.slice none 0 0), 1, 24) := by kernel_rfl
theorem ownS_nil (w : World) (B : Nat) : OwnS w B (.slice none 0 0) [] := World.ownsRow_nil _ _ _ _
theorem OwnS.alloc {w : World} {B : Nat} {v : Value} {vs : List Value} (h : OwnS w B v vs) (o : Obj) : OwnS (w.alloc o) B v vs := World.ownsRow.alloc h o
theorem OwnS.ge {w : World} {B : Nat} {v : Value} {vs : List Value} (h : OwnS w B v vs) : ∀ k, v.ownBlock = some k → B ≤ k := fun k hk => (World.ownsRow.lt h k hk).1
theorem OwnS.keep {w w' : World} {B : Nat} {v : Value} {vs : List Value} (h : OwnS w B v vs) (hb : Below w.heap.size w w') : OwnS w' B v vs := by
  refine ⟨h.1, ?_⟩
  rcases h.2 with h2 | ⟨g, cap, cur, e, hg, hh, r⟩
  · exact .inl h2
  · exact .inr ⟨g, cap, cur, e, hg, (hb.block g (Array.getElem?_eq_some_iff.1 hh).1).trans hh, r⟩
theorem OwnS.other {w w' : World} {B : Nat} {u v : Value} {vs : List Value} (h : OwnS w B u vs) (hg : w.grownBy w' v.ownBlock) (ha : Aside u v) : OwnS w' B u vs := World.ownsRow.kept h hg ha
theorem OwnS.aside {w : World} {B m : Nat} {u v v' : Value} {vs : List Value} (h : OwnS w B u vs) (ha : Aside u v) (hv : v'.ownBlock = v.ownBlock ∨ v'.ownBlock = some m) (hm : w.heap.size ≤ m) : Aside u v' := by
  rcases hv with hv | hv
  · unfold Aside at *; rw [hv]; exact ha
  · cases hu : u.ownBlock with
    | none => exact .inl hu
    | some k =>
      have := (World.ownsRow.lt h k hu).2
      exact .inr (by rw [hu, hv]; intro e; cases e; omega)
theorem OwnS.read {w : World} {B : Nat} {v : Value} {vs : List Value} (h : OwnS w B v vs) : ∃ ao cap, v = .slice ao vs.length cap ∧ vs.length ≤ cap ∧ (0 < vs.length → ∃ g, ao = some ⟨g, 0, none⟩ ∧ ∀ i, i < vs.length → w.cell? ⟨g, i, none⟩ = vs[i]?) := by
  rcases h.2 with ⟨rfl, hn⟩ | ⟨g, cap, cur, rfl, hb, hg, hle, _, _, ht⟩
  · exact ⟨none, 0, by rw [hn], by omega, fun h0 => by omega⟩
  · refine ⟨_, cap, rfl, hle, fun _ => ⟨g, rfl, fun i hi => ?_⟩⟩
    have := World.ownsRow.cells h (g := g) rfl i vs[i] (by simp [hi])
    have hadd : (⟨g, 0, none⟩ : Addr).add i = ⟨g, i, none⟩ := by unfold Addr.add; split <;> simp_all
    rw [hadd] at this
    rw [this, List.getElem?_eq_getElem hi]
theorem wpList_append_sl {w : World} {ops : Array Oper} {rest : List Oper} {o : Oper} {a : Act} {Q : Exit → Act → World → Prop} (hgd : o.guard = none) (s x : Operand)
    (ho : o.op = .call { callee := .builtin .append, args := #[s, x], argTypes := #[52, 52] }) (B : Nat) (v : Value) (vs : List Value) (hs : a.eval s = v) (hown : OwnS w B v vs)
    (ad : Addr) (c : Nat) (y : Value) (hx : a.eval x = .slice (some ad) 1 c) (hy : w.cell? ad = some y) (hone : y.oneCell' = true) (hsz : vs.length + 1 ≤ 17592186044) (hB : B ≤ w.heap.size)
    (h : ∀ v' w', OwnS w' B v' (vs ++ [y]) → w.grownBy w' v.ownBlock → (v'.ownBlock = v.ownBlock ∨ v'.ownBlock = some w.heap.size) → wpList Tryd.prog ops Q rest (a.put o.dst v') w') : wpList Tryd.prog ops Q (o :: rest) a w := by
  refine wpList_plain hgd fun K hK => ?_
  obtain ⟨i0, hi, hz0, hz1, hz2⟩ := info_parts infoS
  obtain ⟨v', w', hrun, h1, h2, _, h5⟩ := run_append_own_at (P := Tryd.prog) (w := w) B 52 o.type 26 i0 (.slice none 0 0) 1 24 Tryd.underlying52 hi hz0 hz1 hz2 rfl (by decide) v vs.length vs hown ad 1 c [y] (by simp)
    (fun j u hu => by
      cases j with
      | zero => simp at hu; subst hu; rw [show ad.add 0 = ad by unfold Addr.add; split <;> simp_all]; exact hy
      | succ j => simp at hu)
    (fun u hu => by simp at hu; subst hu; exact hone) (by unfold maxLen; omega) (by omega) hB
  unfold Oper.wp
  simp [execOp, ho, resolve, invoke, builtin, hs, hx, hrun, Result.andThen]
  exact hK _ _ (h v' w' (by unfold OwnS; rw [List.length_append]; exact h1) h2 h5)
end Go.Proofs.YtjdglpfjemoodaaDoor
