/- The contract of the laws' alone at a literal of two and of three rows. -/
import Derived.Test.YtjdglpfjemoodabDoorAlone
namespace Go.Proofs.YtjdglpfjemoodabDoor
open Go.RowKit

/-- Nothing that was there has turned but what lies in the blocks bs. -/
structure Rest (w w' : World) (bs : List (Option Nat)) : Prop where
  os : w'.os = w.os
  tape : w'.tape = w.tape
  output : w'.output = w.output
  size : w.heap.size ≤ w'.heap.size
  block : ∀ g, g < w.heap.size → some g ∉ bs → w'.heap[g]? = w.heap[g]?
theorem Rest.below {w w' : World} {bs : List (Option Nat)} {B : Nat} (h : Rest w w' bs) (hB : B ≤ w.heap.size) (hb : ∀ g, some g ∈ bs → B ≤ g) : Below B w w' :=
  ⟨h.os, h.tape, h.output, h.size, fun g hg => h.block g (by omega) (fun hm => by have := hb g hm; omega)⟩
theorem Rest.row {w w' : World} {bs : List (Option Nat)} {ao : Option Addr} {xs : List Nat} (h : Rest w w' bs) (hr : Row w ao xs) (hb : ∀ a, ao = some a → some a.block ∉ bs) : Row w' ao xs := by
  rcases hr with h0 | ⟨b, off, rfl, hc⟩
  · exact .inl h0
  · refine .inr ⟨b, off, rfl, fun i hi => ?_⟩
    have hlt := World.block_lt_of_cell? w _ (hc i hi)
    rw [World.cell?_of_block (h.block b hlt (hb ⟨b, off, none⟩ rfl))]
    exact hc i hi
def pick2 {α : Type} (x y : α) (r : Nat) : α := match r with | 0 => x | _ => y
theorem alone_two (W : World) (B n0 c0 n1 c1 : Nat) (a0 a1 : Option Addr) (x0 x1 : List Nat) (hB : B ≤ W.heap.size) (h0 : Own W B (.slice a0 n0 c0) x0) (h1 : Own W B (.slice a1 n1 c1) x1)
    (l0 : n0 + 64 ≤ 140737488355328) (l1 : n1 + 64 ≤ 140737488355328) (hs : ∀ g, (Value.slice a0 n0 c0).ownBlock = some g → (Value.slice a1 n1 c1).ownBlock ≠ some g) :
    Calls Tryd.prog 22 #[.slice (some ⟨W.heap.size, 0, none⟩) 2 2] (W.alloc (.cells #[.slice a0 n0 c0, .slice a1 n1 c1] 22)) fun e w' => e = .returned (.bool true) ∧ Hid (Rest W w' [(Value.slice a0 n0 c0).ownBlock, (Value.slice a1 n1 c1).ownBlock]) := by
  refine (alone_true (some ⟨W.heap.size, 0, none⟩) 2 2 B (pick2 a0 a1) (pick2 n0 n1) (pick2 c0 c1) (pick2 x0 x1) _ (by decide) ?_ ?_ ⟨?_⟩ ⟨?_, ?_, Spare.refl _ _ _, by simp; omega⟩).mono ?_
  · intro r hr
    rcases (show r = 0 ∨ r = 1 by omega) with rfl | rfl
    · exact l0
    · exact l1
  · intro r hr
    rcases (show r = 0 ∨ r = 1 by omega) with rfl | rfl
    · exact h0.shape.1.symm
    · exact h1.shape.1.symm
  · intro i j hi hj hne g hg
    rcases (show (i = 0 ∧ j = 1) ∨ (i = 1 ∧ j = 0) by omega) with ⟨rfl, rfl⟩ | ⟨rfl, rfl⟩
    · exact hs g hg
    · exact fun e => hs g e hg
  · have := World.ownsRow_lit (base := B) (e := 22) (size := 1) W #[.slice a0 n0 c0, .slice a1 n1 c1] 2 hB (by decide) rfl
    exact this
  · intro r hr
    rcases (show r = 0 ∨ r = 1 by omega) with rfl | rfl
    · exact h0.alloc _
    · exact h1.alloc _
  · rintro e w' ⟨rfl, hf⟩
    refine ⟨rfl, hf.out.os, hf.out.tape, hf.out.output, by have := hf.out.size; simp at this; omega, fun g hg hn => ?_⟩
    rw [hf.out.block g (by simp; omega) ?_]
    · exact Below.heap_alloc W _ g hg
    · intro r hr e
      rcases (show r = 0 ∨ r = 1 by omega) with rfl | rfl
      · exact hn (by rw [← e]; simp [pick2])
      · exact hn (by rw [← e]; simp [pick2])

theorem alone_two' (G : Nat) (W : World) (hG : G = W.heap.size) (B n0 c0 n1 c1 : Nat) (a0 a1 : Option Addr) (x0 x1 : List Nat) (hB : B ≤ W.heap.size) (h0 : Own W B (.slice a0 n0 c0) x0) (h1 : Own W B (.slice a1 n1 c1) x1)
    (l0 : n0 + 64 ≤ 140737488355328) (l1 : n1 + 64 ≤ 140737488355328) (hs : ∀ g, (Value.slice a0 n0 c0).ownBlock = some g → (Value.slice a1 n1 c1).ownBlock ≠ some g) :
    Calls Tryd.prog 22 #[.slice (some ⟨G, 0, none⟩) 2 2] (W.alloc (.cells #[.slice a0 n0 c0, .slice a1 n1 c1] 22)) fun e w' => e = .returned (.bool true) ∧ Hid (Rest W w' [(Value.slice a0 n0 c0).ownBlock, (Value.slice a1 n1 c1).ownBlock]) := by
  subst hG; exact alone_two W B n0 c0 n1 c1 a0 a1 x0 x1 hB h0 h1 l0 l1 hs

def pick3 {α : Type} (x y z : α) (r : Nat) : α := match r with | 0 => x | 1 => y | _ => z
theorem alone_three (W : World) (B n0 c0 n1 c1 n2 c2 : Nat) (a0 a1 a2 : Option Addr) (x0 x1 x2 : List Nat) (hB : B ≤ W.heap.size) (h0 : Own W B (.slice a0 n0 c0) x0) (h1 : Own W B (.slice a1 n1 c1) x1) (h2 : Own W B (.slice a2 n2 c2) x2)
    (l0 : n0 + 64 ≤ 140737488355328) (l1 : n1 + 64 ≤ 140737488355328) (l2 : n2 + 64 ≤ 140737488355328) (hs : ∀ g, (Value.slice a0 n0 c0).ownBlock = some g → (Value.slice a1 n1 c1).ownBlock ≠ some g ∧ (Value.slice a2 n2 c2).ownBlock ≠ some g)
    (ht : ∀ g, (Value.slice a1 n1 c1).ownBlock = some g → (Value.slice a2 n2 c2).ownBlock ≠ some g) :
    Calls Tryd.prog 22 #[.slice (some ⟨W.heap.size, 0, none⟩) 3 3] (W.alloc (.cells #[.slice a0 n0 c0, .slice a1 n1 c1, .slice a2 n2 c2] 22)) fun e w' => e = .returned (.bool true) ∧ Hid (Rest W w' [(Value.slice a0 n0 c0).ownBlock, (Value.slice a1 n1 c1).ownBlock, (Value.slice a2 n2 c2).ownBlock]) := by
  refine (alone_true (some ⟨W.heap.size, 0, none⟩) 3 3 B (pick3 a0 a1 a2) (pick3 n0 n1 n2) (pick3 c0 c1 c2) (pick3 x0 x1 x2) _ (by decide) ?_ ?_ ⟨?_⟩ ⟨?_, ?_, Spare.refl _ _ _, by simp; omega⟩).mono ?_
  · intro r hr
    rcases (show r = 0 ∨ r = 1 ∨ r = 2 by omega) with rfl | rfl | rfl
    · exact l0
    · exact l1
    · exact l2
  · intro r hr
    rcases (show r = 0 ∨ r = 1 ∨ r = 2 by omega) with rfl | rfl | rfl
    · exact h0.shape.1.symm
    · exact h1.shape.1.symm
    · exact h2.shape.1.symm
  · intro i j hi hj hne g hg
    rcases (show (i = 0 ∧ j = 1) ∨ (i = 1 ∧ j = 0) ∨ (i = 0 ∧ j = 2) ∨ (i = 2 ∧ j = 0) ∨ (i = 1 ∧ j = 2) ∨ (i = 2 ∧ j = 1) by omega) with ⟨rfl, rfl⟩ | ⟨rfl, rfl⟩ | ⟨rfl, rfl⟩ | ⟨rfl, rfl⟩ | ⟨rfl, rfl⟩ | ⟨rfl, rfl⟩
    · exact (hs g hg).1
    · exact fun e => (hs g e).1 hg
    · exact (hs g hg).2
    · exact fun e => (hs g e).2 hg
    · exact ht g hg
    · exact fun e => ht g e hg
  · have := World.ownsRow_lit (base := B) (e := 22) (size := 1) W #[.slice a0 n0 c0, .slice a1 n1 c1, .slice a2 n2 c2] 3 hB (by decide) rfl
    exact this
  · intro r hr
    rcases (show r = 0 ∨ r = 1 ∨ r = 2 by omega) with rfl | rfl | rfl
    · exact h0.alloc _
    · exact h1.alloc _
    · exact h2.alloc _
  · rintro e w' ⟨rfl, hf⟩
    refine ⟨rfl, hf.out.os, hf.out.tape, hf.out.output, by have := hf.out.size; simp at this; omega, fun g hg hn => ?_⟩
    rw [hf.out.block g (by simp; omega) ?_]
    · exact Below.heap_alloc W _ g hg
    · intro r hr e
      rcases (show r = 0 ∨ r = 1 ∨ r = 2 by omega) with rfl | rfl | rfl
      · exact hn (by rw [← e]; simp [pick3])
      · exact hn (by rw [← e]; simp [pick3])
      · exact hn (by rw [← e]; simp [pick3])
end Go.Proofs.YtjdglpfjemoodabDoor
