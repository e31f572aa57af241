/- Two disks of the call's own that leave given blocks alone. -/
import Derived.Test.YtmdgecjflkkhdabDDieM
namespace Go.Proofs.Ytmdgecjflkkhdab
open Go.RowKit Go.Maps

structure TwoK (K : Nat → Prop) (w0 w : World) (pa pb : Nat) (A B : DS) : Prop where
  rep : ∃ LA LB, Rep w pa A LA A.files.length ∧ Rep w pb B LB B.files.length ∧ (∀ b ∈ LA.blocks pa, w0.heap.size ≤ b ∧ ¬ K b) ∧ (∀ b ∈ LB.blocks pb, w0.heap.size ≤ b ∧ ¬ K b) ∧ ∀ b ∈ LA.blocks pa, b ∉ LB.blocks pb
  oka : Ok A
  okb : Ok B
  bel : Below w0.heap.size w0 w
  old : ∀ g, K g → g < w.heap.size
section
variable {K : Nat → Prop} {w0 w w' : World} {pa pb : Nat} {A A' B : DS}
theorem TwoK.two (h : TwoK K w0 w pa pb A B) : Two w0 w pa pb A B := by
  obtain ⟨LA, LB, h1, h2, h3, h4, h5⟩ := h.rep
  exact ⟨⟨LA, LB, h1, h2, fun b hb => (h3 b hb).1, fun b hb => (h4 b hb).1, h5⟩, h.oka, h.okb, h.bel⟩
theorem TwoK.swap (h : TwoK K w0 w pa pb A B) : TwoK K w0 w pb pa B A := by
  obtain ⟨LA, LB, h1, h2, h3, h4, h5⟩ := h.rep
  exact ⟨⟨LB, LA, h2, h1, h4, h3, fun b hb ha => h5 b ha hb⟩, h.okb, h.oka, h.bel, h.old⟩
theorem Two.box (h : Two w0 w pa pb A B) (o : Obj) : TwoK (fun g => g = w.heap.size) w0 (w.alloc o) pa pb A B := by
  obtain ⟨LA, LB, h1, h2, h3, h4, h5⟩ := h.rep
  have hb := below_new w o
  exact ⟨⟨LA, LB, h1.below hb, h2.below hb, fun b hm => ⟨h3 b hm, fun e => by have := h1.lt b hm; omega⟩, fun b hm => ⟨h4 b hm, fun e => by have := h2.lt b hm; omega⟩, h5⟩, h.oka, h.okb, (h.below hb).bel, fun g hg => by rw [hg]; simp⟩
theorem TwoK.below (h : TwoK K w0 w pa pb A B) (hb : Below w.heap.size w w') : TwoK K w0 w' pa pb A B := by
  obtain ⟨LA, LB, h1, h2, h3, h4, h5⟩ := h.rep
  exact ⟨⟨LA, LB, h1.below hb, h2.below hb, h3, h4, h5⟩, h.oka, h.okb, h.bel.trans (hb.mono h.bel.size), fun g hg => Nat.lt_of_lt_of_le (h.old g hg) hb.size⟩
theorem TwoK.on {f : FuncId} {args : Array Value} {R : Ending → Prop} (h : TwoK K w0 w pa pb A B) (hc : ∀ G, DskG G w0 w pa A → Calls Try.prog f args w fun e w' => R e ∧ DskG G w0 w' pa A' ∧ Held G w w') : Calls Try.prog f args w fun e w' => R e ∧ TwoK K w0 w' pa pb A' B ∧ Held K w w' := by
  obtain ⟨LA, LB, h1, h2, h3, h4, h5⟩ := h.rep
  refine (hc (fun b => b ∈ LB.blocks pb ∨ K b) ⟨⟨LA, h1, fun b hb => ⟨(h3 b hb).1, fun hg => hg.elim (h5 b hb) (h3 b hb).2⟩⟩, h.oka, h.bel, fun g hg => hg.elim (h2.lt g) (h.old g)⟩).mono fun e w' ⟨he, hd, hh⟩ => ⟨he, ?_, hh.1, fun g hg => hh.2 g (.inr hg)⟩
  obtain ⟨LA', k1, k2⟩ := hd.rep
  exact ⟨⟨LA', LB, k1, h2.keep hh.1 (fun b hb => hh.2 b (.inl hb)), fun b hb => ⟨(k2 b hb).1, fun hk => (k2 b hb).2 (.inr hk)⟩, h4, fun b hb hb2 => (k2 b hb).2 (.inl hb2)⟩, hd.ok, h.okb, hd.bel, fun g hg => hd.old g (.inr hg)⟩
end
theorem Held.bl {K : Nat → Prop} {w w' : World} {g : Nat} {cs : List Value} {t : TypeId} (h : Held K w w') (hb : Bl w g cs t) (hg : K g) : Bl w' g cs t := (h.2 g hg).trans hb
/-- The seven cells of an act. -/
theorem act_cells {w : World} {M : Nat} {c0 c1 c2 c3 c4 c5 c6 : Value} {t : TypeId} (h : Bl w M [c0, c1, c2, c3, c4, c5, c6] t) : w.cell? ⟨M, 0, none⟩ = some c0 ∧ w.cell? ⟨M, 1, none⟩ = some c1 ∧ w.cell? ⟨M, 2, none⟩ = some c2 ∧ w.cell? ⟨M, 3, none⟩ = some c3 ∧ w.cell? ⟨M, 4, none⟩ = some c4 ∧ w.cell? ⟨M, 5, none⟩ = some c5 ∧ w.cell? ⟨M, 6, none⟩ = some c6 := ⟨h.cell 0, h.cell 1, h.cell 2, h.cell 3, h.cell 4, h.cell 5, h.cell 6⟩
end Go.Proofs.Ytmdgecjflkkhdab
