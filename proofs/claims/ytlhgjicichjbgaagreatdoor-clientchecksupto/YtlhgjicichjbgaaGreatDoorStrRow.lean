/- Lists of texts in memory: a cell a text. -/
import Derived.Test.YtlhgjicichjbgaaGreatDoorBaseS
import Derived.Test.YtlhgjicichjbgaaGreatDoorScopeMath
import Derived.Sort.OwnSorted
namespace Go.Proofs.YtlhgjicichjbgaaGreatDoor
open Go.RowKit

theorem infoStr : (Tryz.prog.info? 9).map (fun i => (i.zero, i.size, i.bytes)) = some (some (.string { data := #[] }), 1, 16) := by kernel_rfl
/-- A row of texts in memory: none, or cells from an address on. -/
def SRow (w : World) (ao : Option Addr) (l : List U) : Prop :=
  l = [] ∨ ∃ b off, ao = some ⟨b, off, none⟩ ∧ ∀ i u, l[i]? = some u → w.cell? ⟨b, off + i, none⟩ = some (encStr u)
theorem SRow.keep {w w' : World} {ao : Option Addr} {l : List U} (h : SRow w ao l) (hb : Below w.heap.size w w') : SRow w' ao l := by
  rcases h with h | ⟨b, off, rfl, hc⟩
  · exact .inl h
  · exact .inr ⟨b, off, rfl, fun i u hi => cell_kept (hc i u hi) hb⟩
theorem SRow.form {w : World} {ao : Option Addr} {l : List U} (h : SRow w ao l) (hne : 0 < l.length) : ∃ b off, ao = some ⟨b, off, none⟩ := by
  rcases h with rfl | ⟨b, off, rfl, _⟩
  · simp at hne
  · exact ⟨b, off, rfl⟩
theorem SRow.cell {w : World} {b off : Nat} {l : List U} (h : SRow w (some ⟨b, off, none⟩) l) {i : Nat} {u : U} (hi : l[i]? = some u) : w.cell? ⟨b, off + i, none⟩ = some (encStr u) := by
  rcases h with rfl | ⟨b', off', h, hc⟩
  · simp at hi
  · cases h; exact hc i u hi

/-- A slice of texts that is the call's own. -/
def SOwn (w : World) (B : Nat) (v : Value) (l : List U) : Prop := w.ownsRow B 9 1 v l.length (l.map encStr)
theorem sown_nil (w : World) (B : Nat) : SOwn w B (.slice none 0 0) [] := World.ownsRow_nil _ _ _ _
theorem SOwn.keep {w w' : World} {B : Nat} {v : Value} {l : List U} (h : SOwn w B v l) (hb : Below w.heap.size w w') : SOwn w' B v l := by
  refine ⟨h.1, ?_⟩
  rcases h.2 with h2 | ⟨g, cap, cur, e, hg, hh, r⟩
  · exact .inl h2
  · exact .inr ⟨g, cap, cur, e, hg, (hb.block g (Array.getElem?_eq_some_iff.1 hh).1).trans hh, r⟩
theorem SOwn.lower {w : World} {B B' : Nat} {v : Value} {l : List U} (h : SOwn w B v l) (hB : B' ≤ B) : SOwn w B' v l := by
  refine ⟨h.1, ?_⟩
  rcases h.2 with h2 | ⟨g, cap, cur, e, hg, r⟩
  · exact .inl h2
  · exact .inr ⟨g, cap, cur, e, Nat.le_trans hB hg, r⟩
theorem SOwn.shape {w : World} {B : Nat} {v : Value} {l : List U} (h : SOwn w B v l) : ∃ ao cap, v = .slice ao l.length cap ∧ l.length ≤ cap ∧ SRow w ao l ∧ (∀ a, ao = some a → B ≤ a.block) := by
  rcases h.2 with ⟨rfl, hn⟩ | ⟨g, cap, cur, rfl, hb, hg, hle, _, _, ht⟩
  · exact ⟨none, 0, by rw [hn], by omega, .inl (List.length_eq_zero_iff.1 hn), fun a ha => by cases ha⟩
  · refine ⟨_, cap, rfl, hle, .inr ⟨g, 0, rfl, fun i u hi => ?_⟩, fun a ha => by cases ha; exact hb⟩
    have c1 := World.ownsRow.cells h (g := g) rfl i (encStr u) (by rw [List.getElem?_map, hi]; rfl)
    rw [add_none] at c1
    exact c1
theorem SOwn.ge {w : World} {B : Nat} {v : Value} {l : List U} (h : SOwn w B v l) : ∀ k, v.ownBlock = some k → B ≤ k := fun k hk => (World.ownsRow.lt h k hk).1

/-- A whole block of texts, not frozen. -/
def SBlk (w : World) (g : Nat) (l : List U) : Prop := w.heap[g]? = some (.cells (l.map encStr).toArray 9 (0, 0))
theorem SBlk.cell {w : World} {g : Nat} {l : List U} (h : SBlk w g l) {i : Nat} {u : U} (hi : l[i]? = some u) : w.cell? ⟨g, i, none⟩ = some (encStr u) := by
  rw [cell_of_row w g i _ 9 (0, 0) h]
  simp [hi]
theorem SBlk.frozen {w : World} {g : Nat} {l : List U} (h : SBlk w g l) (i : Nat) : w.frozen? ⟨g, i, none⟩ = false := by
  simp only [World.frozen?, show w.heap[g]? = _ from h]
  simp
theorem SBlk.lt {w : World} {g : Nat} {l : List U} (h : SBlk w g l) : g < w.heap.size := (Array.getElem?_eq_some_iff.1 h).1
theorem SBlk.set {w : World} {g : Nat} {l : List U} (h : SBlk w g l) (i : Nat) (u : U) : SBlk (w.setCell ⟨g, i, none⟩ (encStr u)) g (l.set i u) := by
  show _ = _
  rw [setCell_eq_setRow w g i _ _ _ _ h, setRow_heap w g _ _ _ _ h]
  congr 2
  apply Array.ext'
  simp [List.map_set]
theorem SBlk.below {w w' : World} {g B : Nat} {l : List U} (h : SBlk w g l) (hb : Below B w w') (hg : g < B) : SBlk w' g l := (hb.block g hg).trans h
theorem SBlk.keep {w w' : World} {g : Nat} {l : List U} (h : SBlk w g l) (hb : Below w.heap.size w w') : SBlk w' g l := h.below hb h.lt
theorem SBlk.own {w : World} {g B n c : Nat} {l r : List U} (h : SBlk w g (l ++ r)) (hn : n = l.length) (hc : c = n + r.length) (hB : B ≤ g) (hm : c ≤ maxLen) : SOwn w B (.slice (some ⟨g, 0, none⟩) n c) l := by
  subst hn; subst hc
  refine ⟨by simp, .inr ⟨g, _, _, rfl, hB, h, by omega, hm, by simp, ?_⟩⟩
  simp
theorem set_same {l : List U} {i : Nat} {u : U} (h : l[i]? = some u) : l.set i u = l := by
  apply List.ext_getElem?
  intro j
  rw [List.getElem?_set]
  split
  · rename_i e; subst e; split
    · rw [h]
    · rename_i h2; rw [List.getElem?_eq_none (by omega)]
  · rfl
theorem SBlk.holds {w : World} {g : Nat} {l : List U} (h : SBlk w g l) : Sort.Holds encStr w g 0 l.toArray := holds_of_block h (by rw [List.toList_toArray, List.take_of_length_le (by simp)])
theorem put_all (l d : List U) (h : d.length = l.length) : Sort.putCells encStr 0 d.toArray (l.map encStr).toArray = (d.map encStr).toArray := by
  apply Array.ext'
  have h1 := take_putCells (l.map encStr).toArray d (by simp; omega)
  have h2 : (Sort.putCells encStr 0 d.toArray (l.map encStr).toArray).toList.length = d.length := by simp [Sort.putCells]; omega
  rw [← h1, List.take_of_length_le (by omega)]
theorem SBlk.sorted {w : World} {g n : Nat} {l d : List U} {os : Array Obj} (h : SBlk w g l) (hd : d.length = l.length) : SBlk (Sort.grow (Sort.putRow encStr (Sort.ahead w n) g 0 d.toArray) os) g d := by
  have := heap_sorted (n := n) (os := os) d.toArray h
  rw [put_all l d hd] at this
  exact this
theorem grow_none (w : World) : Sort.grow w #[] = w := by simp [Sort.grow]
theorem SBlk.put {w : World} {g n : Nat} {l d : List U} (h : SBlk w g l) (hd : d.length = l.length) : SBlk (Sort.putRow encStr (Sort.ahead w n) g 0 d.toArray) g d := by
  have := h.sorted (n := n) (os := #[]) hd
  rw [grow_none] at this
  exact this
theorem below_sorted {w : World} {g n B : Nat} {d : Array U} {os : Array Obj} (hB : B ≤ g) (hz : B ≤ w.heap.size) : Below B w (Sort.grow (Sort.putRow encStr (Sort.ahead w n) g 0 d) os) :=
  (Below.refl B w).grown (grownBy_sorted d) hz (fun k hk => by cases hk; exact hB)
theorem below_put {w : World} {g n B : Nat} {d : Array U} (hB : B ≤ g) (hz : B ≤ w.heap.size) : Below B w (Sort.putRow encStr (Sort.ahead w n) g 0 d) := by
  have := below_sorted (n := n) (d := d) (os := #[]) hB hz
  rw [grow_none] at this
  exact this
theorem u_size (u : U) : (⟨u.toArray⟩ : ByteArray).size = u.length := by unfold ByteArray.size; simp
theorem u_nil {u : U} (h : u ≠ []) : ((⟨u.toArray⟩ : ByteArray).toList == ([] : List UInt8)) = false := by
  rw [show (⟨u.toArray⟩ : ByteArray).toList = u from by rw [Lib.toList_data]]
  cases u with
  | nil => exact absurd rfl h
  | cons a l => rfl
theorem str_u (s : ByteArray) : Value.string s = encStr s.data.toList := by cases s; simp
end Go.Proofs.YtlhgjicichjbgaaGreatDoor
