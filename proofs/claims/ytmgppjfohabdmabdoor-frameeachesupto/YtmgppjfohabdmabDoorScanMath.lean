/- A file of frames as a list: what a scan of bytes tells; and what a slice of frames holds in memory: two cells a frame, its load in a block of its own. -/
import Derived.Test.YtmgppjfohabdmabDoorOpenAll
import Derived.Test.YtmgppjfohabdmabDoorRef1
namespace Go.Proofs.YtmgppjfohabdmabDoor
open Go.RowKit

/-- Frames (kind and load), how far they go, why they end. -/
def scanR : Nat → List Nat → List (Nat × List Nat) × Nat × Nat
  | 0, _ => ([], 0, 0)
  | f + 1, ys => if ys.length = 0 then ([], 0, 0) else if openErr ys = 0 then ((openKind ys, openOut ys) :: (scanR f (ys.drop (openEnd ys))).1, openEnd ys + (scanR f (ys.drop (openEnd ys))).2.1, (scanR f (ys.drop (openEnd ys))).2.2) else ([], 0, openErr ys)
theorem scan_done {f : Nat} {ys : List Nat} (h : ys.length = 0) : scanR f ys = ([], 0, 0) := by
  cases f with
  | zero => rfl
  | succ f => simp [scanR, h]
theorem scan_bad {f : Nat} {ys : List Nat} (hf : ys.length ≤ f) (h : ys.length ≠ 0) (he : openErr ys ≠ 0) : scanR f ys = ([], 0, openErr ys) := by
  cases f with
  | zero => omega
  | succ f => rw [scanR, if_neg h, if_neg he]
theorem scan_good {f : Nat} {ys : List Nat} (hf : ys.length ≤ f) (h : ys.length ≠ 0) (he : openErr ys = 0) :
    ∃ f', f = f' + 1 ∧ scanR f ys = ((openKind ys, openOut ys) :: (scanR f' (ys.drop (openEnd ys))).1, openEnd ys + (scanR f' (ys.drop (openEnd ys))).2.1, (scanR f' (ys.drop (openEnd ys))).2.2) := by
  cases f with
  | zero => omega
  | succ f => exact ⟨f, rfl, by rw [scanR, if_neg h, if_pos he]⟩
theorem openEnd_good {ys : List Nat} (he : openErr ys = 0) : openEnd ys = 9 + num4 ys ∧ 9 + num4 ys ≤ ys.length := by
  refine ⟨by unfold openEnd; rw [if_pos he], ?_⟩
  unfold openErr at he
  split at he
  · cases he
  · split at he
    · cases he
    · split at he
      · cases he
      · omega
theorem openKind_lt {ys : List Nat} (hx : ∀ x ∈ ys, x < 256) : openKind ys < 256 := by
  unfold openKind
  split
  · exact lt_get hx 8
  · decide

def flat : List (Nat × List Nat) → List Value → List Value
  | (k, _) :: a, l :: ls => .int .u8 (k : Int) :: l :: flat a ls
  | _, _ => []
theorem flat_snoc : ∀ (acc : List (Nat × List Nat)) (ls : List Value) (k : Nat) (bs : List Nat) (l : Value), ls.length = acc.length → flat (acc ++ [(k, bs)]) (ls ++ [l]) = flat acc ls ++ [.int .u8 (k : Int), l]
  | [], [], _, _, _, _ => rfl
  | (_, _) :: a, _ :: ls, k, bs, l, h => by simp only [List.cons_append, flat]; rw [flat_snoc a ls k bs l (by simpa using h)]
  | [], _ :: _, _, _, _, h => by simp at h
  | _ :: _, [], _, _, _, h => by simp at h
theorem flat_get : ∀ (acc : List (Nat × List Nat)) (ls : List Value) (i k : Nat) (bs : List Nat) (l : Value), acc[i]? = some (k, bs) → ls[i]? = some l → (flat acc ls)[2 * i]? = some (.int .u8 (k : Int)) ∧ (flat acc ls)[2 * i + 1]? = some l
  | (k0, b0) :: a, l0 :: ls, 0, k, bs, l, h, h' => by
    simp only [List.getElem?_cons_zero, Option.some.injEq, Prod.mk.injEq] at h h'
    obtain ⟨rfl, rfl⟩ := h
    subst h'
    exact ⟨rfl, rfl⟩
  | (k0, b0) :: a, l0 :: ls, i + 1, k, bs, l, h, h' => by
    simp only [List.getElem?_cons_succ] at h h'
    have := flat_get a ls i k bs l h h'
    simpa [flat, Nat.mul_succ] using this
  | [], _, _, _, _, _, h, _ => by simp at h
  | _ :: _, [], _, _, _, _, _, h' => by simp at h'

/-- v holds these frames, their loads are these slices, each in a block of its own. -/
structure FInv (B : Nat) (w : World) (v : Value) (acc : List (Nat × List Nat)) (ls : List Value) : Prop where
  len : ls.length = acc.length
  row : w.ownsRow B 43 2 v acc.length (flat acc ls)
  own : ∀ (i k : Nat) (bs : List Nat), acc[i]? = some (k, bs) → ∃ l, ls[i]? = some l ∧ Own w B l bs
  apart : ∀ (i j : Nat) (li lj : Value), i < j → ls[i]? = some li → ls[j]? = some lj → ∀ g, li.ownBlock = some g → lj.ownBlock ≠ some g
theorem FInv.nil (B : Nat) (w : World) : FInv B w (.slice none 0 0) [] [] := ⟨rfl, World.ownsRow_nil _ _ _ _, fun i k bs h => by simp at h, fun i j li lj _ h => by simp at h⟩
theorem row_below {w w' : World} {B e size n : Nat} {v : Value} {xs : List Value} (h : w.ownsRow B e size v n xs) (hb : Below w.heap.size w w') : w'.ownsRow B e size v n xs := by
  refine ⟨h.1, ?_⟩
  rcases h.2 with h2 | ⟨g, cap, cur, e, hg, hh, r⟩
  · exact .inl h2
  · exact .inr ⟨g, cap, cur, e, hg, (hb.block g (Array.getElem?_eq_some_iff.1 hh).1).trans hh, r⟩
theorem FInv.below {B : Nat} {w w' : World} {v : Value} {acc : List (Nat × List Nat)} {ls : List Value} (h : FInv B w v acc ls) (hb : Below w.heap.size w w') : FInv B w' v acc ls :=
  ⟨h.len, row_below h.row hb, fun i k bs hi => by obtain ⟨l, a, b⟩ := h.own i k bs hi; exact ⟨l, a, b.keep hb⟩, h.apart⟩
theorem FInv.lower {B B' : Nat} {w : World} {v : Value} {acc : List (Nat × List Nat)} {ls : List Value} (h : FInv B w v acc ls) (hB : B' ≤ B) : FInv B' w v acc ls := by
  refine ⟨h.len, ⟨h.row.1, ?_⟩, fun i k bs hi => by obtain ⟨l, a, b⟩ := h.own i k bs hi; exact ⟨l, a, b.lower hB⟩, h.apart⟩
  rcases h.row.2 with h2 | ⟨g, cap, cur, e, hg, r⟩
  · exact .inl h2
  · exact .inr ⟨g, cap, cur, e, Nat.le_trans hB hg, r⟩
theorem FInv.shape {B : Nat} {w : World} {v : Value} {acc : List (Nat × List Nat)} {ls : List Value} (h : FInv B w v acc ls) : ∃ fo fc, v = .slice fo acc.length fc ∧ acc.length ≤ fc := by
  rcases h.row.2 with ⟨rfl, hn⟩ | ⟨g, cap, cur, rfl, _, _, hc, _⟩
  · exact ⟨none, 0, by rw [hn], by omega⟩
  · exact ⟨_, cap, rfl, hc⟩
/-- A row of bytes and a row of frames lie in two blocks. -/
theorem own_ne_row {w : World} {B B' n : Nat} {v l : Value} {xs : List Nat} {cs : List Value} (h : Own w B v xs) (h' : w.ownsRow B' 43 2 l n cs) : v.ownBlock = none ∨ v.ownBlock ≠ l.ownBlock := by
  rcases h.2 with ⟨rfl, _⟩ | ⟨g1, c1, cur1, rfl, _, hh1, _⟩
  · exact .inl rfl
  · refine .inr fun he => ?_
    rcases h'.2 with ⟨rfl, _⟩ | ⟨g2, c2, cur2, rfl, _, hh2, _⟩
    · simp [Value.ownBlock] at he
    · simp [Value.ownBlock] at he
      subst he
      rw [hh1] at hh2
      simp at hh2
theorem FInv.step {B k : Nat} {w w' : World} {v v' l : Value} {acc : List (Nat × List Nat)} {ls : List Value} {bs : List Nat} (h : FInv B w v acc ls) (hl : Own w B l bs)
    (hf : ∀ (i : Nat) (li : Value), ls[i]? = some li → ∀ g, li.ownBlock = some g → l.ownBlock ≠ some g)
    (hown : w'.ownsRow B 43 2 v' (acc.length + 1) (flat acc ls ++ [.int .u8 (k : Int), l])) (hg : w.grownBy w' v.ownBlock) : FInv B w' v' (acc ++ [(k, bs)]) (ls ++ [l]) := by
  have keep : ∀ (c : Value) (ys : List Nat), Own w B c ys → Own w' B c ys := fun c ys hc => World.ownsRow.kept hc hg (own_ne_row hc h.row)
  refine ⟨by simp [h.len], by rw [flat_snoc _ _ _ _ _ h.len]; simpa using hown, ?_, ?_⟩
  · intro i k' bs' hi
    by_cases hlt : i < acc.length
    · rw [List.getElem?_append_left hlt] at hi
      obtain ⟨c, a, b⟩ := h.own i k' bs' hi
      exact ⟨c, by rw [List.getElem?_append_left (by rw [h.len]; exact hlt)]; exact a, keep _ _ b⟩
    · have hie : i = acc.length := by
        have := (List.getElem?_eq_some_iff.1 hi).1
        simp at this
        omega
      subst hie
      simp at hi
      obtain ⟨rfl, rfl⟩ := hi
      exact ⟨l, by rw [← h.len]; simp, keep _ _ hl⟩
  · intro i j li lj hij hi hj
    have hj2 := (List.getElem?_eq_some_iff.1 hj).1
    simp at hj2
    rw [List.getElem?_append_left (by omega)] at hi
    by_cases hlt : j < ls.length
    · rw [List.getElem?_append_left hlt] at hj
      exact h.apart i j li lj hij hi hj
    · have : j = ls.length := by omega
      subst this
      simp at hj
      subst hj
      exact hf i li hi
theorem FInv.lt {B : Nat} {w : World} {v : Value} {acc : List (Nat × List Nat)} {ls : List Value} (h : FInv B w v acc ls) (i : Nat) (li : Value) (hi : ls[i]? = some li) : ∀ g, li.ownBlock = some g → B ≤ g ∧ g < w.heap.size := by
  have hlt := (List.getElem?_eq_some_iff.1 hi).1
  rw [h.len] at hlt
  obtain ⟨l, a, b⟩ := h.own i _ _ (List.getElem?_eq_getElem hlt)
  rw [hi] at a
  cases a
  exact World.ownsRow.lt b
/-- The cells of one frame. -/
theorem FInv.cells {B : Nat} {w : World} {v : Value} {acc : List (Nat × List Nat)} {ls : List Value} (h : FInv B w v acc ls) {i k : Nat} {bs : List Nat} {l : Value} (hi : acc[i]? = some (k, bs)) (hl : ls[i]? = some l) :
    ∃ g fc, v = .slice (some ⟨g, 0, none⟩) acc.length fc ∧ acc.length ≤ fc ∧ B ≤ g ∧ w.cell? ⟨g, 2 * i, none⟩ = some (.int .u8 (k : Int)) ∧ w.cell? ⟨g, 2 * i + 1, none⟩ = some l := by
  rcases h.row.2 with ⟨rfl, hn⟩ | ⟨g, cap, cur, rfl, hg, hh, hc, r⟩
  · have := (List.getElem?_eq_some_iff.1 hi).1
    omega
  · obtain ⟨e0, e1⟩ := flat_get acc ls i k bs l hi hl
    have c0 := World.ownsRow.cells h.row (g := g) rfl _ _ e0
    have c1 := World.ownsRow.cells h.row (g := g) rfl _ _ e1
    rw [add_none, Nat.zero_add] at c0 c1
    exact ⟨g, cap, rfl, hc, hg, c0, c1⟩
end Go.Proofs.YtmgppjfohabdmabDoor
