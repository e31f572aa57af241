/- What is left as it was but for one block; a head in memory. -/
import Derived.Test.YtaenccjlokiejaaGreatDoorHApp
import Derived.Test.YtaenccjlokiejaaGreatDoorHEnv
import Derived.RangeFuncNested
namespace Go.Proofs.YtaenccjlokiejaaGreatDoor
open Go.RowKit Go.Shelf

/-- Of the blocks ahead of B one alone may have turned; whatever is no cells is as it was. -/
structure Frm (B b : Nat) (w w' : World) : Prop where
  os : w'.os = w.os
  tape : w'.tape = w.tape
  output : w'.output = w.output
  block : ∀ j, j < B → j ≠ b → w'.heap[j]? = w.heap[j]?
  oth : KeepsOthers w w'
theorem Frm.size {B b : Nat} {w w' : World} (h : Frm B b w w') : w.heap.size ≤ w'.heap.size := h.oth.size
theorem Frm.refl (B b : Nat) (w : World) : Frm B b w w := ⟨rfl, rfl, rfl, fun _ _ _ => rfl, KeepsOthers.refl w⟩
theorem Frm.trans {B b : Nat} {w1 w2 w3 : World} (h : Frm B b w1 w2) (k : Frm B b w2 w3) : Frm B b w1 w3 :=
  ⟨k.os.trans h.os, k.tape.trans h.tape, k.output.trans h.output, fun j h1 h2 => (k.block j h1 h2).trans (h.block j h1 h2), h.oth.trans k.oth⟩
theorem Frm.lower {B B' b : Nat} {w w' : World} (h : Frm B b w w') (hB : B' ≤ B) : Frm B' b w w' := ⟨h.os, h.tape, h.output, fun j h1 h2 => h.block j (by omega) h2, h.oth⟩
theorem frm_below {B b : Nat} {w w' : World} (h : Below w.heap.size w w') (hB : B ≤ w.heap.size) : Frm B b w w' :=
  ⟨h.os, h.tape, h.output, fun j h1 _ => h.block j (by omega), ⟨h.size, fun k o hk _ => (h.block k (Array.getElem?_eq_some_iff.1 hk).1).trans hk⟩⟩
theorem Frm.setCell {B b : Nat} {w w' : World} (h : Frm B b w w') (i : Nat) (v : Value) : Frm B b w (w'.setCell ⟨b, i, none⟩ v) :=
  ⟨h.os, h.tape, h.output, fun j h1 h2 => (Below.heap_setCell w' ⟨b, i, none⟩ v j h2).trans (h.block j h1 h2), h.oth.trans (KeepsOthers.setCell _ _ _)⟩
/-- A head in memory: three cells. -/
def HdB (w : World) (b : Nat) (x y z : Value) : Prop := w.heap[b]? = some (.cells #[x, y, z] 96 (0, 0))
theorem HdB.cells {w : World} {b : Nat} {x y z : Value} (h : HdB w b x y z) : w.cell? ⟨b, 0, none⟩ = some x ∧ w.cell? ⟨b, 1, none⟩ = some y ∧ w.cell? ⟨b, 2, none⟩ = some z := by
  refine ⟨?_, ?_, ?_⟩ <;> rw [Lib.cell_of_heap h] <;> rfl
theorem HdB.frozen {w : World} {b : Nat} {x y z : Value} (h : HdB w b x y z) (i : Nat) : w.frozen? ⟨b, i, none⟩ = false := Lib.frozen_of_heap h i
theorem HdB.lt {w : World} {b : Nat} {x y z : Value} (h : HdB w b x y z) : b < w.heap.size := (Array.getElem?_eq_some_iff.1 h).1
theorem HdB.keep {w w' : World} {b : Nat} {x y z : Value} (h : HdB w b x y z) (hb : Below w.heap.size w w') : HdB w' b x y z := (hb.block b h.lt).trans h
theorem HdB.set0 {w : World} {b : Nat} {x y z : Value} (h : HdB w b x y z) (u : Value) : HdB (w.setCell ⟨b, 0, none⟩ u) b u y z := by
  show _ = _
  rw [setCell_eq_setRow w b 0 _ _ _ _ h, setRow_heap w b _ _ _ _ h]
  rfl
theorem HdB.set1 {w : World} {b : Nat} {x y z : Value} (h : HdB w b x y z) (u : Value) : HdB (w.setCell ⟨b, 1, none⟩ u) b x u z := by
  show _ = _
  rw [setCell_eq_setRow w b 1 _ _ _ _ h, setRow_heap w b _ _ _ _ h]
  rfl
theorem HdB.set2 {w : World} {b : Nat} {x y z : Value} (h : HdB w b x y z) (u : Value) : HdB (w.setCell ⟨b, 2, none⟩ u) b x y u := by
  show _ = _
  rw [setCell_eq_setRow w b 2 _ _ _ _ h, setRow_heap w b _ _ _ _ h]
  rfl
theorem FOwn.setOther {t : TypeId} {w : World} {B : Nat} {v : Value} {l : List Fl} (h : FOwn t w B v l) (b i : Nat) (hb : b < B) (u : Value) : FOwn t (w.setCell ⟨b, i, none⟩ u) B v l := by
  refine ⟨h.1, ?_⟩
  rcases h.2 with h2 | ⟨g, cap, cur, e, hg, hh, r⟩
  · exact .inl h2
  · exact .inr ⟨g, cap, cur, e, hg, (Below.heap_setCell w ⟨b, i, none⟩ u g (by show g ≠ b; omega)).trans hh, r⟩
theorem fown_cells {t : TypeId} {w : World} {B : Nat} {v : Value} {l : List Fl} (h : FOwn t w B v l) : ∀ g, v.ownBlock = some g → B ≤ g ∧ ∃ cs, w.heap[g]? = some (.cells cs t (0, 0)) := by
  intro g hg
  rcases h.2 with ⟨rfl, _⟩ | ⟨g', cap, cur, e, hB, hh, _⟩
  · cases hg
  · subst e
    cases hg
    exact ⟨hB, cur, hh⟩
theorem frm_grown {t : TypeId} {B b : Nat} {w w' : World} {v : Value} {l : List Fl} (hg : w.grownBy w' v.ownBlock) (ho : FOwn t w B v l) (hB : B ≤ w.heap.size) : Frm B b w w' := by
  refine ⟨hg.os, hg.tape, hg.output, fun j h1 _ => hg.block j (by omega) (fun e => by have := (fown_cells ho j e.symm).1; omega), KeepsOthers.of_grownBy hg (fun j o e ho' => ?_)⟩
  obtain ⟨_, cs, hc⟩ := fown_cells ho j e
  rw [hc] at ho'
  injection ho' with ho'
  subst ho'
  rfl
theorem hdB_grown {t : TypeId} {B b : Nat} {w w1 w' : World} {v x y z : Value} {l : List Fl} (h : HdB w b x y z) (hb : Below w.heap.size w w1) (hg : w1.grownBy w' v.ownBlock) (ho : FOwn t w1 B v l) (hbB : b < B) : HdB w' b x y z := by
  have h1 := h.keep hb
  exact (hg.block b h1.lt (fun e => by have := (fown_cells ho b e.symm).1; omega)).trans h1
theorem pow10_at : Tryz.prog.globalNamed "internal/strconv.uint64pow10" = some 5 := by kernel_rfl
theorem g_five : 5 < 6 ∧ laysC172_ren.g 15 < 6 ∧ laysC172_ren.g 16 < 6 ∧ lays145_ren.g 1 < 6 := by decide
theorem Env.size {w : World} (h : Env w) : 5 < w.heap.size := by
  have h := h.ten
  unfold Tab10 Lib.TabIs World.var? at h
  rw [pow10_at] at h
  simp only [Option.bind_some] at h
  by_cases hl : 5 < w.heap.size
  · exact hl
  · rw [Array.getElem?_eq_none (by omega)] at h; simp at h
theorem Env.frm {B b : Nat} {w w' : World} (h : Env w) (hb : 6 ≤ b) (hB : 6 ≤ B) (f : Frm B b w w') : Env w' := by
  obtain ⟨g1, g2, g3, g4⟩ := g_five
  obtain ⟨t, ⟨v, c, c2⟩, ⟨u, d, d2⟩, ⟨m, hm⟩⟩ := h
  have hc : ∀ (g : Nat) (x : Value), g < 6 → w.cell? ⟨g, 0, none⟩ = some x → w'.cell? ⟨g, 0, none⟩ = some x := fun g x hg hx => (World.cell?_of_block (f.block g (by omega) (by omega))).trans hx
  refine ⟨?_, ⟨v, hc _ _ g2 c, c2⟩, ⟨u, hc _ _ g3 d, d2⟩, ⟨m, hc _ _ g4 hm⟩⟩
  unfold Tab10 Lib.TabIs World.var? at t ⊢
  rw [pow10_at] at t ⊢
  simp only [Option.bind_some] at t ⊢
  rw [f.block _ (by omega) (by omega)]
  exact t
end Go.Proofs.YtaenccjlokiejaaGreatDoor
