/- What FrameScans wants besides: sizes of what a scan tells, frames that stay where others are written full, alone of a list. -/
import Derived.Test.YtmgppjfohabdmabDoorLoadsFn
import Derived.Test.YtmgppjfohabdmabDoorFramesFn
import Derived.Test.YtmgppjfohabdmabDoorAloneN
namespace Go.Proofs.YtmgppjfohabdmabDoor
open Go.RowKit

theorem scan_mem : ∀ (f : Nat) (ys : List Nat), (∀ x ∈ ys, x < 256) → ∀ x ∈ (scanR f ys).1, x.2.length ≤ 2097152 ∧ ∀ y ∈ x.2, y < 256
  | 0, ys, _, x, h => by simp [scanR] at h
  | f + 1, ys, hy, x, h => by
    rw [scanR] at h
    split at h
    · simp at h
    · split at h
      · rcases List.mem_cons.1 h with rfl | h
        · exact ⟨openOut_length ys, openOut_lt hy⟩
        · exact scan_mem f _ (lt_drop hy _) x h
      · simp at h
theorem scan_len : ∀ (f : Nat) (ys : List Nat), 9 * (scanR f ys).1.length ≤ ys.length
  | 0, ys => by simp [scanR]
  | f + 1, ys => by
    rw [scanR]
    split
    · simp
    · split
      · rename_i h0 he
        have hen := openEnd_good he
        have ih := scan_len f (ys.drop (openEnd ys))
        rw [List.length_drop] at ih
        simp only [List.length_cons]
        omega
      · simp

/-- What lies from B on is as it was. -/
def Upper (B : Nat) (w w' : World) : Prop := ∀ g, B ≤ g → g < w.heap.size → w'.heap[g]? = w.heap[g]?
theorem row_upper {w w' : World} {B e size n : Nat} {v : Value} {xs : List Value} (h : w.ownsRow B e size v n xs) (hb : Upper B w w') : w'.ownsRow B e size v n xs := by
  refine ⟨h.1, ?_⟩
  rcases h.2 with h2 | ⟨g, cap, cur, e, hg, hh, r⟩
  · exact .inl h2
  · exact .inr ⟨g, cap, cur, e, hg, (hb g hg (Array.getElem?_eq_some_iff.1 hh).1).trans hh, r⟩
theorem RInv.upper {B : Nat} {w w' : World} {v : Value} {acc : List (Nat × List Nat)} {ls : List Value} (h : RInv B w v acc ls) (hb : Upper B w w') : RInv B w' v acc ls :=
  ⟨h.len, row_upper h.row hb, fun i k bs hi => by obtain ⟨l, a, b⟩ := h.own i k bs hi; exact ⟨l, a, row_upper b hb⟩⟩

theorem row_lower {w : World} {B B' e size n : Nat} {v : Value} {xs : List Value} (h : w.ownsRow B e size v n xs) (hB : B' ≤ B) : w.ownsRow B' e size v n xs := by
  refine ⟨h.1, ?_⟩
  rcases h.2 with h2 | ⟨g, cap, cur, e, hg, r⟩
  · exact .inl h2
  · exact .inr ⟨g, cap, cur, e, Nat.le_trans hB hg, r⟩
theorem FInv.ownAt {B : Nat} {w : World} {v : Value} {acc : List (Nat × List Nat)} {ls : List Value} (h : FInv B w v acc ls) {i : Nat} {li : Value} (hi : ls[i]? = some li) : ∃ x, x ∈ acc ∧ Own w B li x.2 := by
  have hlt := (List.getElem?_eq_some_iff.1 hi).1
  rw [h.len] at hlt
  obtain ⟨l, a, b⟩ := h.own i acc[i].1 acc[i].2 (List.getElem?_eq_getElem hlt)
  rw [hi] at a
  cases a
  exact ⟨acc[i], List.getElem_mem hlt, b⟩
/-- The loads of two scans: each in a block of its own. -/
theorem two_apart {B B' : Nat} {w : World} {v v' : Value} {acc acc' : List (Nat × List Nat)} {ls l2 : List Value} (h : FInv B w v acc ls) (h' : FInv B' w v' acc' l2) (hlt : ∀ (i : Nat) (li : Value), ls[i]? = some li → ∀ g, li.ownBlock = some g → g < B') :
    ∀ (i j : Nat) (vi vj : Value), i < j → (ls ++ l2)[i]? = some vi → (ls ++ l2)[j]? = some vj → ∀ g, vi.ownBlock = some g → vj.ownBlock ≠ some g := by
  intro i j vi vj hij hi hj g hg
  by_cases h1 : j < ls.length
  · rw [List.getElem?_append_left h1] at hj
    rw [List.getElem?_append_left (by omega)] at hi
    exact h.apart i j vi vj hij hi hj g hg
  · rw [List.getElem?_append_right (by omega)] at hj
    by_cases h2 : i < ls.length
    · rw [List.getElem?_append_left h2] at hi
      intro e
      have a := hlt i vi hi g hg
      have b := (h'.lt _ vj hj g e).1
      omega
    · rw [List.getElem?_append_right (by omega)] at hi
      exact h'.apart _ _ vi vj (by omega) hi hj g hg
theorem two_own {B B' C : Nat} {w : World} {v v' : Value} {acc acc' : List (Nat × List Nat)} {ls l2 : List Value} (h : FInv B w v acc ls) (h' : FInv B' w v' acc' l2) (hB : C ≤ B) (hB' : C ≤ B') (hs : ∀ x ∈ acc, x.2.length ≤ 2097152) (hs' : ∀ x ∈ acc', x.2.length ≤ 2097152) :
    ∀ (i : Nat) (u : Value), (ls ++ l2)[i]? = some u → ∃ xs, Own w C u xs ∧ xs.length + 64 ≤ 140737488355328 := by
  intro i u hi
  by_cases h1 : i < ls.length
  · rw [List.getElem?_append_left h1] at hi
    obtain ⟨x, hx, ho⟩ := h.ownAt hi
    have := hs x hx
    exact ⟨x.2, ho.lower hB, by omega⟩
  · rw [List.getElem?_append_right (by omega)] at hi
    obtain ⟨x, hx, ho⟩ := h'.ownAt hi
    have := hs' x hx
    exact ⟨x.2, ho.lower hB', by omega⟩
theorem two_under {U : Nat} {ls l2 : List Value} (h : ∀ (i : Nat) (li : Value), ls[i]? = some li → ∀ g, li.ownBlock = some g → g < U) (h' : ∀ (i : Nat) (li : Value), l2[i]? = some li → ∀ g, li.ownBlock = some g → g < U) : ∀ u ∈ ls ++ l2, ∀ g, u.ownBlock = some g → g < U := by
  intro u hu g hg
  rcases List.mem_append.1 hu with hu | hu
  · obtain ⟨i, hi⟩ := List.getElem?_of_mem hu
    exact h i u hi g hg
  · obtain ⟨i, hi⟩ := List.getElem?_of_mem hu
    exact h' i u hi g hg

def partA : Value → Option Addr
  | .slice a _ _ => a
  | _ => none
def partN : Value → Nat
  | .slice _ n _ => n
  | _ => 0
def partC : Value → Nat
  | .slice _ _ c => c
  | _ => 0
theorem alone_list (B k kc : Nat) (lo : Option Addr) (vs : List Value) (w : World) (hk : k = vs.length) (hk2 : k ≤ 200) (hB : B ≤ w.heap.size) (hrow : w.ownsRow B 22 1 (.slice lo k kc) k vs)
    (hX : ∀ (i : Nat) (v : Value), vs[i]? = some v → ∃ xs, Own w B v xs ∧ xs.length + 64 ≤ 140737488355328)
    (hap : ∀ (i j : Nat) (vi vj : Value), i < j → vs[i]? = some vi → vs[j]? = some vj → ∀ g, vi.ownBlock = some g → vj.ownBlock ≠ some g) :
    Calls Tryd.prog 15 #[.slice lo k kc] w fun e w' => e = .returned (.bool true) ∧ Hid (Below B w w' ∧ ∀ g, g < w.heap.size → (∀ v ∈ vs, v.ownBlock ≠ some g) → w'.heap[g]? = w.heap[g]?) := by
  have hget : ∀ r, r < k → ∃ v, vs[r]? = some v := fun r hr => ⟨_, List.getElem?_eq_getElem (by omega)⟩
  let V : Nat → Value := fun r => vs.getD r (.slice none 0 0)
  have hV : ∀ r v, vs[r]? = some v → V r = v := fun r v h => by simp [V, List.getD, h]
  have hXV : ∀ r, ∃ xs, r < k → Own w B (V r) xs ∧ xs.length + 64 ≤ 140737488355328 := fun r => by
    by_cases h : r < k
    · obtain ⟨v, hv⟩ := hget r h
      obtain ⟨xs, h1, h2⟩ := hX r v hv
      exact ⟨xs, fun _ => ⟨by rw [hV r v hv]; exact h1, h2⟩⟩
    · exact ⟨[], fun h' => absurd h' h⟩
  let X : Nat → List Nat := fun r => (hXV r).choose
  have hXs : ∀ r, r < k → Own w B (V r) (X r) ∧ (X r).length + 64 ≤ 140737488355328 := fun r hr => (hXV r).choose_spec hr
  have hsh : ∀ r, r < k → V r = .slice (partA (V r)) (partN (V r)) (partC (V r)) ∧ (X r).length = partN (V r) := fun r hr => by
    obtain ⟨ao, c, e, _⟩ := (hXs r hr).1.read
    rw [e]
    exact ⟨rfl, rfl⟩
  have hmap : (List.range k).map (fun r => Value.slice (partA (V r)) (partN (V r)) (partC (V r))) = vs := by
    apply List.ext_getElem?
    intro i
    by_cases h : i < k
    · obtain ⟨v, hv⟩ := hget i h
      rw [hv, List.getElem?_map, List.getElem?_range h]
      show some (Value.slice (partA (V i)) (partN (V i)) (partC (V i))) = some v
      rw [← (hsh i h).1, hV i v hv]
    · rw [List.getElem?_eq_none (by simp; omega), List.getElem?_eq_none (by omega)]
  refine (alone_true lo k kc B (fun r => partA (V r)) (fun r => partN (V r)) (fun r => partC (V r)) X w hk2 (fun r hr => by rw [← (hsh r hr).2]; exact (hXs r hr).2) (fun r hr => (hsh r hr).2) ⟨?_⟩ ⟨?_, ?_, Spare.refl _ _ _, hB⟩).mono ?_
  · intro i j hi hj hne g hg
    have ei := (hsh i hi).1
    have ej := (hsh j hj).1
    obtain ⟨vi, hvi⟩ := hget i hi
    obtain ⟨vj, hvj⟩ := hget j hj
    rw [← ei, hV i vi hvi] at hg
    rw [← ej, hV j vj hvj]
    rcases Nat.lt_or_gt_of_ne hne with h | h
    · exact hap i j vi vj h hvi hvj g hg
    · exact fun e => hap j i vj vi h hvj hvi g e hg
  · show w.ownsRow B 22 1 (.slice lo k kc) k _
    rw [hmap]
    exact hrow
  · intro r hr
    show Own w B (Value.slice (partA (V r)) (partN (V r)) (partC (V r))) (X r)
    rw [← (hsh r hr).1]
    exact (hXs r hr).1
  · rintro e w' ⟨rfl, hf⟩
    have hblock : ∀ g, g < w.heap.size → (∀ v ∈ vs, v.ownBlock ≠ some g) → w'.heap[g]? = w.heap[g]? := fun g hg hn => hf.out.block g hg (fun r hr => by
      obtain ⟨v, hv⟩ := hget r hr
      show (Value.slice (partA (V r)) (partN (V r)) (partC (V r))).ownBlock ≠ some g
      rw [← (hsh r hr).1, hV r v hv]
      exact hn v (List.mem_of_getElem? hv))
    refine ⟨rfl, ⟨hf.out.os, hf.out.tape, hf.out.output, hf.out.size, fun g hg => hblock g (by omega) (fun v hv e => ?_)⟩, hblock⟩
    obtain ⟨i, hi⟩ := List.getElem?_of_mem hv
    obtain ⟨xs, h1, _⟩ := hX i v hi
    have := h1.ge g e
    omega
end Go.Proofs.YtmgppjfohabdmabDoor
