/- What a write into one block leaves: the blocks from a number on as they were; slices of the call's own that are written into. -/
import Derived.Test.YtebcodbmkphgaaaDoorPairRow
import Derived.Test.YtebcodbmkphgaaaDoorStrRow
import Derived.Maps.AppendAt
namespace Go.Proofs.YtebcodbmkphgaaaDoor
open Go.RowKit

/-- From B on, what was there is as it was. -/
def Upper (B : Nat) (w w' : World) : Prop := w.heap.size ≤ w'.heap.size ∧ ∀ g, B ≤ g → g < w.heap.size → w'.heap[g]? = w.heap[g]?
theorem Upper.refl (B : Nat) (w : World) : Upper B w w := ⟨Nat.le_refl _, fun _ _ _ => rfl⟩
theorem Upper.trans {B : Nat} {a b c : World} (h : Upper B a b) (k : Upper B b c) : Upper B a c :=
  ⟨Nat.le_trans h.1 k.1, fun g hg hl => (k.2 g hg (Nat.lt_of_lt_of_le hl h.1)).trans (h.2 g hg hl)⟩
theorem Upper.of {B : Nat} {w w' : World} (h : Below w.heap.size w w') : Upper B w w' := ⟨h.size, fun g _ hl => h.block g hl⟩
theorem Upper.setCell {B : Nat} {w w' : World} (h : Upper B w w') {g i : Nat} (hg : g < B) (v : Value) : Upper B w (w'.setCell ⟨g, i, none⟩ v) :=
  ⟨by simpa [World.setCell] using h.1, fun k hk hl => (heap_setCell_other w' ⟨g, i, none⟩ k v (by show k ≠ g; omega)).trans (h.2 k hk hl)⟩
theorem Upper.grown {B : Nat} {w w1 w2 : World} {row : Option Nat} (h : Upper B w w1) (hg : w1.grownBy w2 row) (hr : ∀ g, row = some g → g < B ∨ w.heap.size ≤ g) : Upper B w w2 := by
  obtain ⟨_, _, _, hs, hb⟩ := hg
  refine ⟨Nat.le_trans h.1 hs, fun g hg hl => ?_⟩
  rw [hb g (Nat.lt_of_lt_of_le hl h.1) (fun e => ?_)]
  · exact h.2 g hg hl
  · rcases hr g e.symm with h | h <;> omega
theorem POwn.upper {t : TypeId} {w w' : World} {B : Nat} {v : Value} {l : List Two} (h : POwn t w B v l) (hu : Upper B w w') : POwn t w' B v l := by
  refine ⟨h.1, ?_⟩
  rcases h.2 with h2 | ⟨g, cap, cur, e, hg, hh, r⟩
  · exact .inl h2
  · exact .inr ⟨g, cap, cur, e, hg, (hu.2 g hg (Array.getElem?_eq_some_iff.1 hh).1).trans hh, r⟩
theorem SOwn.upper {w w' : World} {B : Nat} {v : Value} {l : List U} (h : SOwn w B v l) (hu : Upper B w w') : SOwn w' B v l := by
  refine ⟨h.1, ?_⟩
  rcases h.2 with h2 | ⟨g, cap, cur, e, hg, hh, r⟩
  · exact .inl h2
  · exact .inr ⟨g, cap, cur, e, hg, (hu.2 g hg (Array.getElem?_eq_some_iff.1 hh).1).trans hh, r⟩
theorem Upper.mono {B B' : Nat} {w w' : World} (h : Upper B w w') (hB : B ≤ B') : Upper B' w w' := ⟨h.1, fun g hg hl => h.2 g (Nat.le_trans hB hg) hl⟩
theorem POwn.lt {t : TypeId} {w : World} {B : Nat} {v : Value} {l : List Two} (h : POwn t w B v l) : ∀ g, v.ownBlock = some g → g < w.heap.size := fun g hg => (World.ownsRow.lt h g hg).2
theorem SOwn.lt {w : World} {B : Nat} {v : Value} {l : List U} (h : SOwn w B v l) : ∀ g, v.ownBlock = some g → g < w.heap.size := fun g hg => (World.ownsRow.lt h g hg).2
/-- A slice of the call's own that has elements: where it lies. -/
theorem POwn.here {t : TypeId} {w : World} {B : Nat} {v : Value} {l : List Two} (h : POwn t w B v l) (h0 : 0 < l.length) : ∃ g cap cur, v = .slice (some ⟨g, 0, none⟩) l.length cap ∧ B ≤ g ∧ w.heap[g]? = some (.cells cur t (0, 0)) ∧ l.length ≤ cap ∧ cap ≤ maxLen ∧ cur.size = cap * 2 ∧ cur.toList.take (l.length * 2) = flat2 l := by
  rcases h.2 with ⟨_, hn⟩ | ⟨g, cap, cur, e, hg, hh, h1, h2, h3, h4⟩
  · omega
  · exact ⟨g, cap, cur, e, hg, hh, h1, h2, h3, h4⟩
theorem SOwn.here {w : World} {B : Nat} {v : Value} {l : List U} (h : SOwn w B v l) (h0 : 0 < l.length) : ∃ g cap cur, v = .slice (some ⟨g, 0, none⟩) l.length cap ∧ B ≤ g ∧ w.heap[g]? = some (.cells cur 9 (0, 0)) ∧ l.length ≤ cap ∧ cap ≤ maxLen ∧ cur.size = cap * 1 ∧ cur.toList.take (l.length * 1) = l.map encStr := by
  rcases h.2 with ⟨_, hn⟩ | ⟨g, cap, cur, e, hg, hh, h1, h2, h3, h4⟩
  · omega
  · exact ⟨g, cap, cur, e, hg, hh, h1, h2, h3, h4⟩
theorem flat2_set : ∀ (l : List Two) (k : Nat) (q : Two), k < l.length → ((flat2 l).set (k * 2) (.string (bstr q.1))).set (k * 2 + 1) (.string (bstr q.2)) = flat2 (l.set k q)
  | [], k, q, h => by simp at h
  | p :: l, 0, q, _ => rfl
  | p :: l, k + 1, q, h => by
    have ih := flat2_set l k q (by simpa using h)
    show ((Value.string (bstr p.1) :: Value.string (bstr p.2) :: flat2 l).set ((k + 1) * 2) _).set ((k + 1) * 2 + 1) _ = Value.string (bstr p.1) :: Value.string (bstr p.2) :: flat2 (l.set k q)
    simp only [show (k + 1) * 2 = k * 2 + 1 + 1 by omega, List.set_cons_succ]
    rw [ih]
theorem POwn.put {t : TypeId} {w : World} {B g cap n : Nat} {l : List Two} (hn : n = l.length) (h : POwn t w B (.slice (some ⟨g, 0, none⟩) n cap) l) {k : Nat} (hk : k < l.length) (q : Two) :
    POwn t ((w.setCell ⟨g, k * 2, none⟩ (.string (bstr q.1))).setCell ⟨g, k * 2 + 1, none⟩ (.string (bstr q.2))) B (.slice (some ⟨g, 0, none⟩) n cap) (l.set k q) := by
  subst hn
  obtain ⟨g', cap', cur, e, hB, hh, h1, h2, h3, h4⟩ := h.here (by omega)
  cases e
  have hh1 : (w.setCell ⟨g, k * 2, none⟩ (.string (bstr q.1))).heap[g]? = some (.cells (cur.setIfInBounds (k * 2) (.string (bstr q.1))) t (0, 0)) := by
    rw [setCell_eq_setRow w g (k * 2) _ _ _ _ hh, setRow_heap w g _ _ _ _ hh]
  have hh2 : ((w.setCell ⟨g, k * 2, none⟩ (.string (bstr q.1))).setCell ⟨g, k * 2 + 1, none⟩ (.string (bstr q.2))).heap[g]? = some (.cells ((cur.setIfInBounds (k * 2) (.string (bstr q.1))).setIfInBounds (k * 2 + 1) (.string (bstr q.2))) t (0, 0)) := by
    rw [setCell_eq_setRow _ g (k * 2 + 1) _ _ _ _ hh1, setRow_heap _ g _ _ _ _ hh1]
  refine ⟨by rw [flat2_len, List.length_set]; omega, .inr ⟨g, cap, _, by rw [List.length_set], hB, hh2, by rw [List.length_set]; exact h1, h2, by simp [h3], ?_⟩⟩
  rw [List.length_set, ← flat2_set l k q hk, ← h4, Array.toList_setIfInBounds, Array.toList_setIfInBounds, List.take_set, List.take_set]
theorem SOwn.put {w : World} {B g cap n : Nat} {l : List U} (hn : n = l.length) (h : SOwn w B (.slice (some ⟨g, 0, none⟩) n cap) l) {k : Nat} (hk : k < l.length) (u : U) :
    SOwn (w.setCell ⟨g, k, none⟩ (encStr u)) B (.slice (some ⟨g, 0, none⟩) n cap) (l.set k u) := by
  subst hn
  obtain ⟨g', cap', cur, e, hB, hh, h1, h2, h3, h4⟩ := h.here (by omega)
  cases e
  have hh1 : (w.setCell ⟨g, k, none⟩ (encStr u)).heap[g]? = some (.cells (cur.setIfInBounds k (encStr u)) 9 (0, 0)) := by
    rw [setCell_eq_setRow w g k _ _ _ _ hh, setRow_heap w g _ _ _ _ hh]
  refine ⟨by simp, .inr ⟨g, cap, _, by rw [List.length_set], hB, hh1, by rw [List.length_set]; exact h1, h2, by simp [h3], ?_⟩⟩
  rw [List.length_set, List.map_set, ← h4, Array.toList_setIfInBounds, List.take_set]
end Go.Proofs.YtebcodbmkphgaaaDoor
