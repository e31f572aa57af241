/- Whole blocks of cells, and what one store, one new block leaves of them; the frame of a call that writes into one block alone. -/
import Derived.Test.YtonnnolnkjahgabDoorBlkG
import Derived.Test.YtonnnolnkjahgabDoorSmall
import Derived.Test.YtonnnolnkjahgabDoorShaMath
import Derived.BigQuiet
import Derived.Deep.QuietTactic
import Derived.Deep.MidRow
import Derived.Deep.WholeRow
import Derived.Deep.DeepCutAuto
import Derived.Deep.RegionHeld
import Derived.Deep.RegionLaw
namespace Go.Proofs.YtonnnolnkjahgabDoor
open Go.RowKit

/-- Words as cells. -/
def wv (n : Nat) : Value := .int .u32 (n : Int)
theorem wv_one (xs : List Nat) : ∀ u ∈ xs.map wv, u.oneCell' = true := by
  intro u hu
  obtain ⟨n, _, rfl⟩ := List.mem_map.1 hu
  rfl
/-- A whole block of cells, not frozen. -/
def Bl (w : World) (g : Nat) (cs : List Value) (t : TypeId) : Prop := w.heap[g]? = some (.cells cs.toArray t (0, 0))
theorem Bl.lt {w : World} {g : Nat} {cs : List Value} {t : TypeId} (h : Bl w g cs t) : g < w.heap.size := (Array.getElem?_eq_some_iff.1 h).1
theorem Bl.cell {w : World} {g : Nat} {cs : List Value} {t : TypeId} (h : Bl w g cs t) (i : Nat) : w.cell? ⟨g, i, none⟩ = cs[i]? := by
  rw [cell_of_row w g i _ t (0, 0) h]; simp
theorem Bl.frozen {w : World} {g : Nat} {cs : List Value} {t : TypeId} (h : Bl w g cs t) (i : Nat) : w.frozen? ⟨g, i, none⟩ = false := frozen_of_row w g i _ t h
theorem Bl.set {w : World} {g : Nat} {cs : List Value} {t : TypeId} (h : Bl w g cs t) (i : Nat) (v : Value) : Bl (w.setCell ⟨g, i, none⟩ v) g (cs.set i v) t := by
  have := heap_setCell_same w g i _ t v h
  unfold Bl
  rw [this]
  congr 2
  apply Array.ext'
  simp
theorem Bl.other {w : World} {g k : Nat} {cs : List Value} {t : TypeId} (h : Bl w k cs t) (hk : k ≠ g) (i : Nat) (v : Value) : Bl (w.setCell ⟨g, i, none⟩ v) k cs t := (heap_setCell_other w ⟨g, i, none⟩ k v hk).trans h
theorem Bl.new (w : World) (cs : Array Value) (t : TypeId) : Bl (w.alloc (.cells cs t)) w.heap.size cs.toList t := by unfold Bl; rw [heap_alloc_new w _]
theorem Bl.alloc {w : World} {g : Nat} {cs : List Value} {t : TypeId} (h : Bl w g cs t) (o : Obj) : Bl (w.alloc o) g cs t := (Below.heap_alloc w o g h.lt).trans h
theorem Bl.below {w w' : World} {g B : Nat} {cs : List Value} {t : TypeId} (h : Bl w g cs t) (hb : Below B w w') (hg : g < B) : Bl w' g cs t := (hb.block g hg).trans h
theorem Bl.keep {w w' : World} {g : Nat} {cs : List Value} {t : TypeId} (h : Bl w g cs t) (hb : Below w.heap.size w w') : Bl w' g cs t := h.below hb h.lt
theorem Bl.drewN {w : World} {g : Nat} {cs : List Value} {t : TypeId} (h : Bl w g cs t) (n : Nat) : Bl (w.drewN n) g cs t := h
theorem Bl.u8 {w : World} {g : Nat} {xs : List Nat} {t : TypeId} (h : Bl w g (xs.map bv) t) (i : Nat) (hi : i < xs.length) : w.cell? ⟨g, i, none⟩ = some (.int .u8 ((xs.getD i 0 : Nat) : Int)) := by
  rw [h.cell]; simp [hi, bv]
theorem Bl.u32 {w : World} {g : Nat} {xs : List Nat} {t : TypeId} (h : Bl w g (xs.map wv) t) (i : Nat) (hi : i < xs.length) : w.cell? ⟨g, i, none⟩ = some (.int .u32 ((xs.getD i 0 : Nat) : Int)) := by
  rw [h.cell]; simp [hi, wv]
theorem Bl.row {w : World} {g : Nat} {xs : List Nat} {t : TypeId} (h : Bl w g (xs.map bv) t) : Row w (some ⟨g, 0, none⟩) xs := .inr ⟨g, 0, rfl, fun i hi => by rw [Nat.zero_add]; exact h.u8 i hi⟩
/-- Bytes in the midst of a block. -/
theorem Bl.rowAt {w : World} {g : Nat} {pre post : List Value} {xs : List Nat} {t : TypeId} (h : Bl w g (pre ++ (xs.map bv ++ post)) t) : Row w (some ⟨g, pre.length, none⟩) xs := .inr ⟨g, pre.length, rfl, fun i hi => by
  rw [h.cell, List.getElem?_append_right (by omega), show pre.length + i - pre.length = i by omega, List.getElem?_append_left (by simpa using hi)]
  simp [hi, bv]⟩
theorem Bl.range {w : World} {g : Nat} {pre mid post : List Value} {t : TypeId} (h : Bl w g (pre ++ (mid ++ post)) t) : w.rangeAt g pre.length mid := fun j v hv => by
  have hj : j < mid.length := (List.getElem?_eq_some_iff.1 hv).1
  rw [h.cell, List.getElem?_append_right (by omega), show pre.length + j - pre.length = j by omega, List.getElem?_append_left hj]
  exact hv
theorem Bl.there {w : World} {g : Nat} {cs : List Value} {t : TypeId} (h : Bl w g cs t) (o n : Nat) (hn : o + n ≤ cs.length) : w.there g o n := fun j hj => by
  refine ⟨?_, h.frozen _⟩
  rw [h.cell, List.getElem?_eq_getElem (by omega)]; rfl
theorem heap_setCells (g : Nat) (t : TypeId) : ∀ (vs : List Value) (o : Nat) (cs : List Value) (w : World), Bl w g cs t → o + vs.length ≤ cs.length → Bl (w.setCells g o vs) g (cs.take o ++ vs ++ cs.drop (o + vs.length)) t
  | [], o, cs, w, h, _ => by simpa [World.setCells] using h
  | v :: r, o, cs, w, h, hl => by
    rw [World.setCells]
    have := heap_setCells g t r (o + 1) (cs.set o v) _ (h.set o v) (by simp at hl ⊢; omega)
    simp at hl
    have e : (cs.set o v).take (o + 1) ++ r ++ (cs.set o v).drop (o + 1 + r.length) = cs.take o ++ (v :: r) ++ cs.drop (o + (v :: r).length) := by
      rw [List.drop_set_of_lt (by omega), List.take_set, List.length_cons, show o + 1 + r.length = o + (r.length + 1) by omega]
      congr 1
      rw [List.take_succ_eq_append_getElem (show o < cs.length by omega), List.set_append_right _ _ (by simp [Nat.min_eq_left (show o ≤ cs.length by omega)])]
      simp [Nat.min_eq_left (show o ≤ cs.length by omega)]
    rw [e] at this
    exact this
theorem Bl.setCells {w : World} {g : Nat} {pre mid post vs : List Value} {t : TypeId} (h : Bl w g (pre ++ (mid ++ post)) t) (hl : vs.length = mid.length) : Bl (w.setCells g pre.length vs) g (pre ++ (vs ++ post)) t := by
  have := heap_setCells g t vs pre.length _ w h (by simp; omega)
  simpa [hl, List.drop_append, List.drop_of_length_le (show pre.length ≤ pre.length + mid.length by omega)] using this
theorem heap_setCells_other (g : Nat) : ∀ (vs : List Value) (o : Nat) (w : World) (k : Nat), k ≠ g → (w.setCells g o vs).heap[k]? = w.heap[k]?
  | [], _, _, _, _ => rfl
  | v :: r, o, w, k, h => by rw [World.setCells, heap_setCells_other g r (o + 1) _ k h, heap_setCell_other w ⟨g, o, none⟩ k v h]
theorem size_setCells (g : Nat) : ∀ (vs : List Value) (o : Nat) (w : World), (w.setCells g o vs).heap.size = w.heap.size
  | [], _, _ => rfl
  | v :: r, o, w => by rw [World.setCells, size_setCells g r (o + 1)]; simp [World.setCell]
theorem same_setCells (g : Nat) : ∀ (vs : List Value) (o : Nat) (w : World), (w.setCells g o vs).os = w.os ∧ (w.setCells g o vs).tape = w.tape ∧ (w.setCells g o vs).output = w.output
  | [], _, _ => ⟨rfl, rfl, rfl⟩
  | v :: r, o, w => by rw [World.setCells]; exact same_setCells g r (o + 1) _

/-- Of what was there nothing has turned but block g. -/
structure But (g : Nat) (w w' : World) : Prop where
  os : w'.os = w.os
  tape : w'.tape = w.tape
  output : w'.output = w.output
  size : w.heap.size ≤ w'.heap.size
  block : ∀ k, k < w.heap.size → k ≠ g → w'.heap[k]? = w.heap[k]?
theorem But.refl (g : Nat) (w : World) : But g w w := ⟨rfl, rfl, rfl, Nat.le_refl _, fun _ _ _ => rfl⟩
theorem But.trans {g : Nat} {a b c : World} (h : But g a b) (k : But g b c) : But g a c :=
  ⟨k.os.trans h.os, k.tape.trans h.tape, k.output.trans h.output, Nat.le_trans h.size k.size, fun i hi hn => (k.block i (Nat.lt_of_lt_of_le hi h.size) hn).trans (h.block i hi hn)⟩
theorem But.of {g : Nat} {w w' : World} (h : Below w.heap.size w w') : But g w w' := ⟨h.os, h.tape, h.output, h.size, fun k hk _ => h.block k hk⟩
theorem But.below {g B : Nat} {w w' : World} (h : But g w w') (hB : B ≤ g) (hs : B ≤ w.heap.size) : Below B w w' := ⟨h.os, h.tape, h.output, h.size, fun k hk => h.block k (by omega) (by omega)⟩
theorem But.setCell (g : Nat) (w : World) (i : Nat) (v : Value) : But g w (w.setCell ⟨g, i, none⟩ v) := ⟨rfl, rfl, rfl, by simp [World.setCell], fun k _ hk => heap_setCell_other w ⟨g, i, none⟩ k v hk⟩
theorem But.setCells (g : Nat) (w : World) (o : Nat) (vs : List Value) : But g w (w.setCells g o vs) :=
  ⟨(same_setCells g vs o w).1, (same_setCells g vs o w).2.1, (same_setCells g vs o w).2.2, by rw [size_setCells]; exact Nat.le_refl _, fun k _ hk => heap_setCells_other g vs o w k hk⟩
theorem But.alloc (g : Nat) (w : World) (o : Obj) : But g w (w.alloc o) := But.of (below_new w o)
theorem But.drewN (g : Nat) (w : World) (n : Nat) : But g w (w.drewN n) := ⟨rfl, rfl, rfl, Nat.le_refl _, fun _ _ _ => rfl⟩
theorem Bl.but {w w' : World} {g k : Nat} {cs : List Value} {t : TypeId} (h : Bl w k cs t) (hb : But g w w') (hk : k ≠ g) : Bl w' k cs t := (hb.block k h.lt hk).trans h
theorem Row.but {w w' : World} {g : Nat} {ao : Option Addr} {xs : List Nat} (h : Row w ao xs) (hb : But g w w') (hn : ∀ a, ao = some a → a.block ≠ g) : Row w' ao xs := by
  rcases h with h | ⟨b, off, rfl, hc⟩
  · exact .inl h
  · refine .inr ⟨b, off, rfl, fun i hi => ?_⟩
    rw [World.cell?_of_block (hb.block b (World.block_lt_of_cell? w _ (hc i hi)) (hn ⟨b, off, none⟩ rfl))]
    exact hc i hi
theorem below_setCells {B g : Nat} {w : World} (hB : B ≤ g) (o : Nat) (vs : List Value) : Below B w (w.setCells g o vs) :=
  ⟨(same_setCells g vs o w).1, (same_setCells g vs o w).2.1, (same_setCells g vs o w).2.2, by rw [size_setCells]; exact Nat.le_refl _, fun k hk => heap_setCells_other g vs o w k (by omega)⟩
theorem below_drewN {B : Nat} {a w : World} (h : Below B a w) (n : Nat) : Below B a (w.drewN n) := h.trans ⟨rfl, rfl, rfl, Nat.le_refl _, fun _ _ => rfl⟩
theorem below_setRow {B g : Nat} {a w : World} (h : Below B a w) (hB : B ≤ g) (cs : Array Value) : Below B a (w.setRow g cs) :=
  h.trans ⟨rfl, rfl, rfl, by simp, fun k hk => setRow_other w g k cs (by omega)⟩
theorem Bl.setRow {w : World} {g : Nat} {cs : List Value} {t : TypeId} (h : Bl w g cs t) (c : List Value) : Bl (w.setRow g c.toArray) g c t := setRow_heap w g _ _ t _ h
theorem Bl.setRow_other {w : World} {g k : Nat} {cs : List Value} {t : TypeId} (h : Bl w k cs t) (hk : k ≠ g) (c : Array Value) : Bl (w.setRow g c) k cs t := (Go.setRow_other w g k c hk).trans h
theorem But.setRow (g : Nat) (w : World) (c : Array Value) : But g w (w.setRow g c) := ⟨rfl, rfl, rfl, by simp, fun k _ hk => Go.setRow_other w g k c hk⟩
theorem sizeRun8 (w : World) : (sizeOf 5).run Tryd.prog w = .ok 1 w := by
  have := sizeRun w
  rw [elem8] at this
  exact this
/-- A slice of an array of bytes, from a place on. -/
theorem arr_from (T n : Nat) (hT : Tryd.prog.underlying T = some (.array n 5)) (g off lo : Nat) (i : Int) (hi : i = (lo : Int)) (hlo : lo < n) (w : World) :
    (Instr.sliceAt T (.pointer (some ⟨g, off, none⟩)) (some (.int .i64 i)) none none).run Tryd.prog w = .ok (.slice (some ⟨g, off + lo, none⟩) (n - lo) (n - lo)) w := by
  have hl : Tryd.prog.arrayLen T = n := by simp [Program.arrayLen, hT]
  have he : Tryd.prog.elem T = 5 := by simp [Program.elem, hT]
  subst hi
  rw [run_sliceAt_array_l w T ⟨g, off, none⟩ (by rw [hl, he]; exact hT) .i64 (lo : Int) (by omega) (by rw [hl]; omega), he, sizeRun8]
  simp [Result.andThen, slicedAt, hl, add_none, show ¬ n = lo by omega]
theorem arr_all (T n : Nat) (hT : Tryd.prog.underlying T = some (.array n 5)) (g off : Nat) (hn : 0 < n) (w : World) :
    (Instr.sliceAt T (.pointer (some ⟨g, off, none⟩)) none none none).run Tryd.prog w = .ok (.slice (some ⟨g, off, none⟩) n n) w := by
  have hl : Tryd.prog.arrayLen T = n := by simp [Program.arrayLen, hT]
  have he : Tryd.prog.elem T = 5 := by simp [Program.elem, hT]
  rw [run_sliceAt_array_all w T ⟨g, off, none⟩ (by rw [hl, he]; exact hT), he, sizeRun8]
  simp [Result.andThen, slicedAt, hl, add_none, show ¬ n = 0 by omega]
end Go.Proofs.YtonnnolnkjahgabDoor
