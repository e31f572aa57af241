/- The contract of the laws' alone at a list of rows of the call's own. -/
import Derived.Test.YtjdglpfjemoodabDoorAloneN
namespace Go.Proofs.YtjdglpfjemoodabDoor
open Go.RowKit

def partA : Value → Option Addr
  | .slice a _ _ => a
  | _ => none
def partN : Value → Nat
  | .slice _ n _ => n
  | _ => 0
def partC : Value → Nat
  | .slice _ _ c => c
  | _ => 0
theorem alone_list (B k kc : Nat) (lo : Option Addr) (vs : List Value) (w : World) (hk : k = vs.length) (hk2 : k ≤ 200) (hB : B ≤ w.heap.size) (hrow : w.ownsRow B 22 1 (.slice lo k kc) k vs)
    (hX : ∀ (i : Nat) (v : Value), vs[i]? = some v → ∃ xs, Own w B v xs ∧ xs.length + 64 ≤ 140737488355328)
    (hap : ∀ (i j : Nat) (vi vj : Value), i < j → vs[i]? = some vi → vs[j]? = some vj → ∀ g, vi.ownBlock = some g → vj.ownBlock ≠ some g) :
    Calls Tryd.prog 22 #[.slice lo k kc] w fun e w' => e = .returned (.bool true) ∧ Hid (Below B w w' ∧ ∀ g, g < w.heap.size → (∀ v ∈ vs, v.ownBlock ≠ some g) → w'.heap[g]? = w.heap[g]?) := by
  have hget : ∀ r, r < k → ∃ v, vs[r]? = some v := fun r hr => ⟨_, List.getElem?_eq_getElem (by omega)⟩
  let V : Nat → Value := fun r => vs.getD r (.slice none 0 0)
  have hV : ∀ r v, vs[r]? = some v → V r = v := fun r v h => by simp [V, List.getD, h]
  have hXV : ∀ r, ∃ xs, r < k → Own w B (V r) xs ∧ xs.length + 64 ≤ 140737488355328 := fun r => by
    by_cases h : r < k
    · obtain ⟨v, hv⟩ := hget r h
      obtain ⟨xs, h1, h2⟩ := hX r v hv
      exact ⟨xs, fun _ => ⟨by rw [hV r v hv]; exact h1, h2⟩⟩
    · exact ⟨[], fun h' => absurd h' h⟩
  let X : Nat → List Nat := fun r => (hXV r).choose
  have hXs : ∀ r, r < k → Own w B (V r) (X r) ∧ (X r).length + 64 ≤ 140737488355328 := fun r hr => (hXV r).choose_spec hr
  have hsh : ∀ r, r < k → V r = .slice (partA (V r)) (partN (V r)) (partC (V r)) ∧ (X r).length = partN (V r) := fun r hr => by
    obtain ⟨ao, c, e, _⟩ := (hXs r hr).1.read
    rw [e]
    exact ⟨rfl, rfl⟩
  have hmap : (List.range k).map (fun r => Value.slice (partA (V r)) (partN (V r)) (partC (V r))) = vs := by
    apply List.ext_getElem?
    intro i
    by_cases h : i < k
    · obtain ⟨v, hv⟩ := hget i h
      rw [hv, List.getElem?_map, List.getElem?_range h]
      show some (Value.slice (partA (V i)) (partN (V i)) (partC (V i))) = some v
      rw [← (hsh i h).1, hV i v hv]
    · rw [List.getElem?_eq_none (by simp; omega), List.getElem?_eq_none (by omega)]
  refine (alone_true lo k kc B (fun r => partA (V r)) (fun r => partN (V r)) (fun r => partC (V r)) X w hk2 (fun r hr => by rw [← (hsh r hr).2]; exact (hXs r hr).2) (fun r hr => (hsh r hr).2) ⟨?_⟩ ⟨?_, ?_, Spare.refl _ _ _, hB⟩).mono ?_
  · intro i j hi hj hne g hg
    have ei := (hsh i hi).1
    have ej := (hsh j hj).1
    obtain ⟨vi, hvi⟩ := hget i hi
    obtain ⟨vj, hvj⟩ := hget j hj
    rw [← ei, hV i vi hvi] at hg
    rw [← ej, hV j vj hvj]
    rcases Nat.lt_or_gt_of_ne hne with h | h
    · exact hap i j vi vj h hvi hvj g hg
    · exact fun e => hap j i vj vi h hvj hvi g e hg
  · show w.ownsRow B 22 1 (.slice lo k kc) k _
    rw [hmap]
    exact hrow
  · intro r hr
    show Own w B (Value.slice (partA (V r)) (partN (V r)) (partC (V r))) (X r)
    rw [← (hsh r hr).1]
    exact (hXs r hr).1
  · rintro e w' ⟨rfl, hf⟩
    have hblock : ∀ g, g < w.heap.size → (∀ v ∈ vs, v.ownBlock ≠ some g) → w'.heap[g]? = w.heap[g]? := fun g hg hn => hf.out.block g hg (fun r hr => by
      obtain ⟨v, hv⟩ := hget r hr
      show (Value.slice (partA (V r)) (partN (V r)) (partC (V r))).ownBlock ≠ some g
      rw [← (hsh r hr).1, hV r v hv]
      exact hn v (List.mem_of_getElem? hv))
    refine ⟨rfl, ⟨hf.out.os, hf.out.tape, hf.out.output, hf.out.size, fun g hg => hblock g (by omega) (fun v hv e => ?_)⟩, hblock⟩
    obtain ⟨i, hi⟩ := List.getElem?_of_mem hv
    obtain ⟨xs, h1, _⟩ := hX i v hi
    have := h1.ge g e
    omega
end Go.Proofs.YtjdglpfjemoodabDoor
