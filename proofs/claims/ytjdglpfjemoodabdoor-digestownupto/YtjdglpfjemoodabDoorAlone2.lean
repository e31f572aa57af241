/- The states of the laws' alone, round by round: rows written full, rows grown, rows held against their marks. -/
import Derived.Test.YtjdglpfjemoodabDoorAlone1
namespace Go.Proofs.YtjdglpfjemoodabDoor
open Go.RowKit

/-- What stays: the rows' values, that no two lie in one block. -/
structure Apart (k : Nat) (V : Nat → Value) : Prop where
  sep : ∀ i j, i < k → j < k → i ≠ j → ∀ g, (V i).ownBlock = some g → (V j).ownBlock ≠ some g
/-- Of what was there nothing has turned but the rows' own blocks. -/
structure Spare (w0 w : World) (k : Nat) (V : Nat → Value) : Prop where
  os : w.os = w0.os
  tape : w.tape = w0.tape
  output : w.output = w0.output
  size : w0.heap.size ≤ w.heap.size
  block : ∀ g, g < w0.heap.size → (∀ r, r < k → (V r).ownBlock ≠ some g) → w.heap[g]? = w0.heap[g]?
theorem Spare.refl (w : World) (k : Nat) (V : Nat → Value) : Spare w w k V := ⟨rfl, rfl, rfl, Nat.le_refl _, fun _ _ _ => rfl⟩
theorem Spare.grown {w0 w w' : World} {k : Nat} {V : Nat → Value} {row : Option Nat} (h : Spare w0 w k V) (hg : w.grownBy w' row) (hr : ∀ g, row = some g → w0.heap.size ≤ g ∨ ∃ r, r < k ∧ (V r).ownBlock = some g) : Spare w0 w' k V :=
  ⟨hg.os.trans h.os, hg.tape.trans h.tape, hg.output.trans h.output, Nat.le_trans h.size hg.size, fun g hlt hne => (hg.block g (Nat.lt_of_lt_of_le hlt h.size) (fun e => by
    rcases hr g e.symm with a | ⟨r, hr, hv⟩
    · omega
    · exact hne r hr hv)).trans (h.block g hlt hne)⟩
/-- The rows hold X. -/
structure Held (w0 w : World) (B : Nat) (l : Value) (k : Nat) (V : Nat → Value) (X : Nat → List Nat) : Prop where
  outer : Outer w B l k V
  rows : ∀ r, r < k → Own w B (V r) (X r)
  frame : Spare w0 w k V
  base : B ≤ w0.heap.size
theorem Held.below {w0 w : World} {B k : Nat} {l : Value} {V : Nat → Value} {X : Nat → List Nat} (h : Held w0 w B l k V X) : Below B w0 w :=
  ⟨h.frame.os, h.frame.tape, h.frame.output, h.frame.size, fun g hg => h.frame.block g (Nat.lt_of_lt_of_le hg h.base) (fun r hr e => by have := (h.rows r hr).ge g e; omega)⟩
theorem Held.size {w0 w : World} {B k : Nat} {l : Value} {V : Nat → Value} {X : Nat → List Nat} (h : Held w0 w B l k V X) : B ≤ w.heap.size := Nat.le_trans h.base h.frame.size
/-- Any step that touches the block of row i alone (or younger ones). -/
theorem Held.touch {w0 w w' : World} {B k i : Nat} {l : Value} {V : Nat → Value} {X : Nat → List Nat} (h : Held w0 w B l k V X) (ha : Apart k V) (hi : i < k) (hg : w.grownBy w' (V i).ownBlock) (ys : List Nat) (hy : Own w' B (V i) ys) :
    Held w0 w' B l k V (fun r => if r = i then ys else X r) := by
  refine ⟨h.outer.kept hg ?_, fun r hr => ?_, h.frame.grown hg (fun g hg => .inr ⟨i, hi, hg⟩), h.base⟩
  · cases hv : (V i).ownBlock with
    | none => cases l.ownBlock <;> simp
    | some g => exact .inr (own_ne_outer (h.rows i hi) h.outer g hv)
  · by_cases e : r = i
    · subst e; simpa using hy
    · simp only [e, if_false]
      refine (h.rows r hr).kept hg ?_
      cases hv : (V r).ownBlock with
      | none => exact .inl rfl
      | some g => exact .inr (fun e2 => ha.sep r i hr hi e g hv e2.symm)
theorem Held.congr {w0 w : World} {B k : Nat} {l : Value} {V : Nat → Value} {X Y : Nat → List Nat} (h : Held w0 w B l k V X) (e : ∀ r, r < k → X r = Y r) : Held w0 w B l k V Y :=
  ⟨h.outer, fun r hr => e r hr ▸ h.rows r hr, h.frame, h.base⟩

/-- The first two loops: i rows written full, j places of row i. -/
def P1 (N : Nat → Nat) (X : Nat → List Nat) (i j r : Nat) : List Nat := if r < i then List.replicate (N r) (r + 1) else if r = i then List.replicate j (i + 1) ++ (X i).drop j else X r
theorem P1_zero (N : Nat → Nat) (X : Nat → List Nat) (r : Nat) : P1 N X 0 0 r = X r := by
  unfold P1
  by_cases h : r = 0
  · subst h; simp
  · simp [h]
theorem P1_row (N : Nat → Nat) (X : Nat → List Nat) (i r : Nat) (hl : (X i).length = N i) : P1 N X i (N i) r = P1 N X (i + 1) 0 r := by
  unfold P1
  by_cases h1 : r < i
  · simp [h1, show r < i + 1 by omega]
  · by_cases h2 : r = i
    · subst h2
      simp [List.drop_eq_nil_of_le (show (X r).length ≤ N r by omega)]
    · by_cases h3 : r = i + 1
      · subst h3; simp; intro h; omega
      · simp [h1, h2, h3, show ¬ r < i + 1 by omega]
theorem P1_length (N : Nat → Nat) (X : Nat → List Nat) (i j : Nat) (hl : (X i).length = N i) (hj : j ≤ N i) : (P1 N X i j i).length = N i := by
  unfold P1
  simp
  omega
theorem P1_set (N : Nat → Nat) (X : Nat → List Nat) (i j r : Nat) (hl : (X i).length = N i) (hj : j < N i) : (if r = i then (P1 N X i j i).set j (i + 1) else P1 N X i j r) = P1 N X i (j + 1) r := by
  by_cases h2 : r = i
  · subst h2
    rw [if_pos rfl]
    unfold P1
    rw [if_neg (by omega), if_pos rfl, if_neg (by omega), if_pos rfl]
    rw [List.set_append_right (h := by simp)]
    simp only [List.length_replicate, Nat.sub_self]
    rw [List.drop_eq_getElem_cons (by omega), List.set_cons_zero, List.replicate_succ', List.append_assoc]
    rfl
  · unfold P1
    simp [h2]
theorem Held.write {w0 w : World} {B k i j g c : Nat} {l : Value} {V : Nat → Value} {N : Nat → Nat} {X : Nat → List Nat} (h : Held w0 w B l k V (P1 N X i j)) (ha : Apart k V) (hi : i < k) (hv : V i = .slice (some ⟨g, 0, none⟩) (N i) c) (hl : (X i).length = N i) (hj : j < N i)
    (x : Int) (hx : x = ((i + 1 : Nat) : Int)) : Held w0 (w.setCell ⟨g, j, none⟩ (.int .u8 x)) B l k V (P1 N X i (j + 1)) := by
  subst hx
  have ho := h.rows i hi
  have hlen := P1_length N X i j hl (by omega)
  rw [hv, ← hlen] at ho
  have hs := ho.set (j := j) (x := i + 1)
  rw [List.length_set, hlen, ← hv] at hs
  have hg : w.grownBy (w.setCell ⟨g, j, none⟩ (.int .u8 ((i + 1 : Nat) : Int))) (V i).ownBlock := by rw [hv]; exact grownBy_set w g j _
  exact (h.touch ha hi hg _ hs).congr (fun r _ => P1_set N X i j r hl hj)

/-- The next two loops: i rows grown. -/
def Full (N : Nat → Nat) (r : Nat) : List Nat := List.replicate (N r) (r + 1)
structure Grown2 (w0 w : World) (B B2 : Nat) (l : Value) (k : Nat) (V : Nat → Value) (N : Nat → Nat) (more : Value) (i : Nat) (M : Nat → Value) : Prop where
  held : Held w0 w B l k V (Full N)
  list : Outer w B2 more i M
  low : ∀ g, l.ownBlock = some g → g < B2
  base : B2 ≤ w.heap.size
  above : w0.heap.size ≤ B2
  news : ∀ r, r < i → Own w B (M r) (List.replicate (N r + 64) (r + 1))
  sep : ∀ r, r < i → ∀ s, i ≤ s → s < k → ∀ g, (M r).ownBlock = some g → (V s).ownBlock ≠ some g
theorem Grown2.start {w0 w : World} {B k : Nat} {l : Value} {V : Nat → Value} {N : Nat → Nat} {X : Nat → List Nat} (h : Held w0 w B l k V (P1 N X k 0)) (M : Nat → Value) : Grown2 w0 w B w.heap.size l k V N (.slice none 0 0) 0 M :=
  ⟨h.congr (fun r hr => by unfold P1 Full; rw [if_pos hr]), World.ownsRow_nil _ _ _ _, fun g hg => (World.ownsRow.lt h.outer g hg).2, Nat.le_refl _, h.frame.size, fun r hr => by omega, fun r hr => by omega⟩
/-- Row i has been grown: what the others are behind it. -/
theorem Grown2.rows {w0 w w1 : World} {B B2 k i : Nat} {l more m : Value} {V M : Nat → Value} {N : Nat → Nat} (h : Grown2 w0 w B B2 l k V N more i M) (ha : Apart k V) (hi : i < k) (hg : Grow w w1 B (V i) m (N i) (i + 1) 64) :
    Held w0 w1 B l k V (Full N) ∧ Outer w1 B2 more i M ∧ (∀ r, r < i → Own w1 B (M r) (List.replicate (N r + 64) (r + 1))) := by
  refine ⟨(h.held.touch ha hi hg.grown _ hg.old).congr (fun r _ => by by_cases e : r = i <;> simp [e, Full]), h.list.kept hg.grown ?_, fun r hr => (h.news r hr).kept hg.grown ?_⟩
  · cases hv : (V i).ownBlock with
    | none => cases more.ownBlock <;> simp
    | some g => exact .inr (own_ne_outer (h.held.rows i hi) h.list g hv)
  · cases hv : (M r).ownBlock with
    | none => exact .inl rfl
    | some g => exact .inr (fun e => h.sep r hr i (Nat.le_refl _) hi g hv e.symm)
theorem Grown2.next {w0 w w1 w2 : World} {B B2 k i : Nat} {l more more' m : Value} {V M : Nat → Value} {N : Nat → Nat} (h : Grown2 w0 w B B2 l k V N more i M) (ha : Apart k V) (hi : i < k) (hg : Grow w w1 B (V i) m (N i) (i + 1) 64) (o : Obj)
    (h1 : w2.ownsRow B2 22 1 more' (i + 1) ((List.range i).map M ++ [m])) (h2 : (w1.alloc o).grownBy w2 more.ownBlock) : Grown2 w0 w2 B B2 l k V N more' (i + 1) (fun r => if r = i then m else M r) := by
  obtain ⟨q1, q2, q3⟩ := h.rows ha hi hg
  have ne : ∀ (v : Value) (xs : List Nat), Own w1 B v xs → v.ownBlock = none ∨ v.ownBlock ≠ more.ownBlock := fun v xs hv => by
    cases e : v.ownBlock with
    | none => exact .inl rfl
    | some g => exact .inr (fun e2 => own_ne_outer hv q2 g e e2.symm)
  have keep : ∀ (v : Value) (xs : List Nat), Own w1 B v xs → Own w2 B v xs := fun v xs hv => (hv.alloc o).kept h2 (ne v xs hv)
  refine ⟨⟨?_, fun r hr => keep _ _ (q1.rows r hr), ?_, q1.base⟩, ?_, h.low, ?_, h.above, fun r hr => ?_, fun r hr s hs hsk g hgm => ?_⟩
  · have e2 : Outer (w1.alloc o) B l k V := World.ownsRow.alloc q1.outer o
    refine e2.kept h2 ?_
    cases e : l.ownBlock with
    | none => exact .inl rfl
    | some g =>
      right
      intro e3
      have a := h.low g e
      have b := (World.ownsRow.lt q2 g e3.symm).1
      omega
  · refine (q1.frame.grown (World.grownBy_alloc w1 o none) (fun g hg => by cases hg)).grown h2 (fun g hg => .inl ?_)
    exact Nat.le_trans h.above (World.ownsRow.lt q2 g hg).1
  · unfold Outer
    rw [List.range_succ, List.map_append, List.map_singleton]
    have e : (List.range i).map (fun r => if r = i then m else M r) = (List.range i).map M := List.map_congr_left (fun r hr => by have := List.mem_range.1 hr; rw [if_neg (by omega)])
    rw [e]
    simpa using h1
  · have a := h2.size
    have b := hg.grown.size
    have c := h.base
    simp at a
    omega
  · by_cases e : r = i
    · subst e; simp only [if_true]; exact keep _ _ hg.own
    · simp only [e, if_false]; exact keep _ _ (q3 r (by omega))
  · by_cases e : r = i
    · subst e
      simp only [if_true] at hgm
      rcases hg.link with ⟨g', c', hv, hm⟩ | hy
      · have : (V r).ownBlock = some g := by rw [hm] at hgm; rw [hv]; exact hgm
        exact ha.sep r s hi hsk (by omega) g this
      · have h5 := hy g hgm
        intro e2
        have := (h.held.rows s hsk).ltSize g e2
        omega
    · simp only [e, if_false] at hgm
      exact h.sep r (by omega) s (by omega) hsk g hgm
end Go.Proofs.YtjdglpfjemoodabDoor
