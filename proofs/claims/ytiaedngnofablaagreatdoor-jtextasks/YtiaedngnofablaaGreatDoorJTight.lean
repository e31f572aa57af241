/- Jsons whose texts are no longer than memory; the contract of the program's copied: the same Json as new memory. -/
import Derived.Test.YtiaedngnofablaaGreatDoorRTwin
namespace Go.Proofs.YtiaedngnofablaaGreatDoor
open Go.RowKit

def tightJ (_ : Int) (t : By) (ns : List By) (is : List J) (tights : Prop) : Prop := t.length ≤ 140737488355328 ∧ (∀ n ∈ ns, n.length ≤ 140737488355328) ∧ ns.length ≤ 140737488355328 ∧ is.length ≤ 140737488355328 ∧ tights
def tightC (_ : J) (_ : List J) (a b : Prop) : Prop := a ∧ b
/-- No text and no row is longer than memory. -/
def JTight (j : J) : Prop := @J.rec (motive_1 := fun _ => Prop) (motive_2 := fun _ => Prop) tightJ True tightC j
def JTights (js : List J) : Prop := @J.rec_1 (motive_1 := fun _ => Prop) (motive_2 := fun _ => Prop) tightJ True tightC js
theorem JTight_mk (k : Int) (t : By) (ns : List By) (is : List J) : JTight (.mk k t ns is) = (t.length ≤ 140737488355328 ∧ (∀ n ∈ ns, n.length ≤ 140737488355328) ∧ ns.length ≤ 140737488355328 ∧ is.length ≤ 140737488355328 ∧ JTights is) := rfl
theorem JTights_nil : JTights [] = True := rfl
theorem JTights_cons (j : J) (js : List J) : JTights (j :: js) = (JTight j ∧ JTights js) := rfl
theorem jtights_iff : ∀ js : List J, JTights js ↔ ∀ j ∈ js, JTight j
  | [] => by rw [JTights_nil]; simp
  | j :: js => by rw [JTights_cons, jtights_iff js]; simp
theorem JTight.fit (j : J) (h : JTight j) : JFit j :=
  (J.both (M1 := fun j => JTight j → JFit j) (M2 := fun js => JTights js → JFits js) (fun k t ns is ih h => by
      rw [JTight_mk] at h
      rw [JFit_mk]
      exact ⟨by omega, fun n hn => by have := h.2.1 n hn; omega, by omega, by omega, ih h.2.2.2.2⟩) (fun _ => by rw [JFits_nil]; trivial) (fun j js h1 h2 h => by
      rw [JTights_cons] at h
      rw [JFits_cons]
      exact ⟨h1 h.1, h2 h.2⟩)).1 j h
theorem TI.keep {L V : Nat} {k : Int} {t : ByteArray} {w w' : World} {ns : List By} {js : List J} (h : TI L V k t w ns js) (hb : Below w.heap.size w w') : TI L V k t w' ns js := by
  obtain ⟨an, ln, cn, ai, ci, vs, F, g3, g4, g5, g6, g7, g8, g9, g10⟩ := h.rows
  have hz := hb.size
  exact ⟨an, ln, cn, ai, ci, vs, F, g3.keep hb, ownsRow_stay g4 (fun g hg => hb.block g (ownsRow_own g4 hg).2), ownsRow_stay g5 (fun g hg => hb.block g (ownsRow_own g5 hg).2), JReps.stay _ _ _ g6 (fun b hF => hb.block b (g7 b hF).2.1), fun b hF => ⟨(g7 b hF).1, by have := (g7 b hF).2.1; omega, (g7 b hF).2.2⟩, g8, g9, g10⟩
/-- append of one name, as a step of a region that draws. -/
theorem law_appN1 {w : World} {ops : Array Oper} {o : Oper} {a : Act} {K : Act → World → Prop} {Q : Exit → Act → World → Prop} {E : Prop} (hgd : o.guard = none) (s x : Operand)
    (ho : o.op = .call { callee := .builtin .append, args := #[s, x], argTypes := #[22, 22] }) (B : Nat) (v : Value) (l : List By) (y : By) (hs : a.eval s = v) (hown : NOwn w B v l)
    (b : Nat) (hx : a.eval x = .slice (some ⟨b, 0, none⟩) 1 1) (hy : w.cell? ⟨b, 0, none⟩ = some (tv y)) (hsz : l.length ≤ 1000000) (hB : B ≤ w.heap.size)
    (h : ∀ ao cap w', NOwn w' B (.slice ao (l.length + 1) cap) (l ++ [y]) → w.grownBy w' v.ownBlock → (Value.ownBlock (.slice ao (l.length + 1) cap) = v.ownBlock ∨ Value.ownBlock (.slice ao (l.length + 1) cap) = some w.heap.size) → K (a.put o.dst (.slice ao (l.length + 1) cap)) w') : if Region.wanted o (yielded ops a.tmps) = true then Oper.wp Tryz.prog o a w K Q else E := by
  obtain ⟨i0, hi, hz0, hz1, hz2⟩ := info_parts infoText
  rw [if_pos (by simp [Region.wanted, hgd])]
  obtain ⟨v', w', hrun, h1, h2, h3, h4⟩ := run_append_own_at (P := Tryz.prog) w B 22 o.type 9 i0 _ 1 16 Tryz.underlying22 hi hz0 hz1 hz2 rfl (by decide) v l.length (l.map tv) hown ⟨b, 0, none⟩ 1 1 [tv y] rfl (fun j u hu => by
      rw [add_none, Nat.zero_add]
      match j, hu with
      | 0, hu => rw [hy]; simpa using hu) (by intro u hu; rw [List.mem_singleton.1 hu]; rfl) (by unfold maxLen; omega) (by omega) hB
  unfold Oper.wp
  simp [execOp, ho, resolve, invoke, builtin, hs, hx, hrun, Result.andThen]
  obtain ⟨ao, cap, rfl⟩ := ownsRow_slice h1
  refine h ao cap w' ?_ h2 h4
  show World.ownsRow _ _ _ _ _ _ _
  rw [List.map_append, List.length_append]
  exact h1
/-- While the names of a copy are made. -/
structure NI (L V : Nat) (k : Int) (t : ByteArray) (wr : World) (ns : List By) : Prop where
  rows : ∃ an cn, Jb wr V k t (.slice an ns.length cn) (.slice none 0 0) ∧ NOwn wr L (.slice an ns.length cn) ns ∧ (∀ b, Value.ownBlock (.slice an ns.length cn) = some b → b ≠ V)
theorem NI.ti {L V : Nat} {k : Int} {t : ByteArray} {w : World} {ns : List By} (h : NI L V k t w ns) : TI L V k t w ns [] := by
  obtain ⟨an, cn, h1, h2, h3⟩ := h.rows
  exact ti_base h2 h1 h3
theorem ti_stepN {L V : Nat} {k : Int} {t : ByteArray} {wr w2 w4 : World} {o : Obj} {ns : List By} {y : By} {an ao : Option Addr} {ln cn cap : Nat}
    (g3 : Jb wr V k t (.slice an ln cn) (.slice none 0 0))
    (g8 : ∀ b, Value.ownBlock (.slice an ln cn) = some b → b ≠ V)
    (hb : Below wr.heap.size wr w2) (hn : NOwn w4 L (.slice ao (ns.length + 1) cap) (ns ++ [y])) (hg : (w2.alloc o).grownBy w4 (Value.ownBlock (.slice an ln cn)))
    (ho : Value.ownBlock (.slice ao (ns.length + 1) cap) = Value.ownBlock (.slice an ln cn) ∨ Value.ownBlock (.slice ao (ns.length + 1) cap) = some (w2.alloc o).heap.size) : NI L V k t (w4.setCell ⟨V, 2, none⟩ (.slice ao (ns.length + 1) cap)) (ns ++ [y]) := by
  have hVs : V < wr.heap.size := Bl.lt g3
  have hz2 := hb.size
  have hz3 : (w2.alloc o).heap.size = w2.heap.size + 1 := by simp
  have hz4 := hg.size
  have hbs : But V w4 (w4.setCell ⟨V, 2, none⟩ (.slice ao (ns.length + 1) cap)) := But.setCell _ _ _ _
  have keep4 : ∀ b, b < w2.heap.size → Value.ownBlock (.slice an ln cn) ≠ some b → w4.heap[b]? = w2.heap[b]? := fun b h1 h2 => (hg.block b (by omega) (fun e => h2 e.symm)).trans (Below.heap_alloc w2 o b h1)
  have hnew : ∀ b, Value.ownBlock (.slice ao (ns.length + 1) cap) = some b → b ≠ V := fun b h => by
    rcases ho with e | e
    · exact g8 b (e ▸ h)
    · rw [e] at h
      have := Option.some.inj h
      omega
  have h1 : Jb w4 V k t (.slice an ln cn) (.slice none 0 0) := ((keep4 V (by omega) (fun e => g8 V e rfl)).trans (hb.block V hVs)).trans g3
  have h2 := Bl.set h1 2 (.slice ao (ns.length + 1) cap)
  have h3 := ownsRow_stay (w' := w4.setCell ⟨V, 2, none⟩ (.slice ao (ns.length + 1) cap)) hn (fun g hg2 => hbs.block g (ownsRow_own hn hg2).2 (hnew g hg2))
  refine ⟨ao, cap, ?_⟩
  rw [List.length_append]
  exact ⟨h2, h3, hnew⟩
end Go.Proofs.YtiaedngnofablaaGreatDoor
