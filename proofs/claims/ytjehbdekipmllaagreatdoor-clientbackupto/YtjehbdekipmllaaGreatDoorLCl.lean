/- A client: as a value, as a block in memory, as rows. -/
import Derived.Test.YtjehbdekipmllaaGreatDoorXStr
import Derived.Laws.AppendOwnNone
namespace Go.Proofs.YtjehbdekipmllaaGreatDoor
open Go.RowKit

structure Cl where
  id : ByteArray
  secret : ByteArray
  grants : Int
  ping : Bool
  url : ByteArray
  scopes : List U
def zeroCl : Cl := ⟨{ data := #[] }, { data := #[] }, 0, false, { data := #[] }, []⟩
/-- The block of a list that has something is one of texts. -/
def STy (w : World) (so : Option Addr) (l : List U) : Prop := l = [] ∨ ∀ a, so = some a → ∃ cs fz, w.heap[a.block]? = some (.cells cs 9 fz)
theorem STy.keep {w w' : World} {so : Option Addr} {l : List U} (h : STy w so l) (hb : Below w.heap.size w w') : STy w' so l := by
  rcases h with h | h
  · exact .inl h
  · refine .inr fun a ha => ?_
    obtain ⟨cs, fz, hh⟩ := h a ha
    exact ⟨cs, fz, (hb.block _ (Array.getElem?_eq_some_iff.1 hh).1).trans hh⟩
theorem STy.grown {w w' : World} {so : Option Addr} {l : List U} {row : Option Nat} (h : STy w so l) (hg : w.grownBy w' row) (hne : ∀ a, so = some a → l ≠ [] → some a.block ≠ row) : STy w' so l := by
  rcases h with h | h
  · exact .inl h
  · by_cases h0 : l = []
    · exact .inl h0
    · refine .inr fun a ha => ?_
      obtain ⟨cs, fz, hh⟩ := h a ha
      exact ⟨cs, fz, (hg.block _ (Array.getElem?_eq_some_iff.1 hh).1 (hne a ha h0)).trans hh⟩
theorem SOwn.ty {w : World} {B n c : Nat} {ao : Option Addr} {l : List U} (h : SOwn w B (.slice ao n c) l) : STy w ao l := by
  rcases h.2 with ⟨h1, h2⟩ | ⟨g, cap, cur, e, hg, hh, r⟩
  · exact .inl (List.length_eq_zero_iff.1 h2)
  · cases e
    exact .inr fun a ha => by cases ha; exact ⟨_, _, hh⟩
/-- What a client's list of scopes is in memory: its address, its length, its room. -/
def SAt (w : World) (so : Option Addr) (n cp : Nat) (l : List U) : Prop := n = l.length ∧ n ≤ cp ∧ SRow w so l ∧ STy w so l
theorem SAt.keep {w w' : World} {so : Option Addr} {n cp : Nat} {l : List U} (h : SAt w so n cp l) (hb : Below w.heap.size w w') : SAt w' so n cp l := ⟨h.1, h.2.1, h.2.2.1.keep hb, h.2.2.2.keep hb⟩
theorem sat_nil (w : World) : SAt w none 0 0 [] := ⟨rfl, Nat.le_refl _, .inl rfl, .inl rfl⟩
def clCells (c : Cl) (so : Option Addr) (n cp : Nat) : List Value := [.string c.id, .string c.secret, .int .i64 c.grants, .bool c.ping, .string c.url, .slice so n cp]
/-- A client's block. -/
def CB (w : World) (g : Nat) (c : Cl) (so : Option Addr) (n cp : Nat) : Prop := w.heap[g]? = some (.cells #[.string c.id, .string c.secret, .int .i64 c.grants, .bool c.ping, .string c.url, .slice so n cp] 47 (0, 0))
theorem infoClient : (Tryz.prog.info? 47).map (fun i => (i.zero, i.size, i.bytes)) = some (some (.agg #[.string { data := #[] }, .string { data := #[] }, .int .i64 0, .bool false, .string { data := #[] }, .slice none 0 0]), 6, 88) := by kernel_rfl
theorem CB.lt {w : World} {g : Nat} {c : Cl} {so : Option Addr} {n cp : Nat} (h : CB w g c so n cp) : g < w.heap.size := (Array.getElem?_eq_some_iff.1 h).1
theorem CB.keep {w w' : World} {g B : Nat} {c : Cl} {so : Option Addr} {n cp : Nat} (h : CB w g c so n cp) (hb : Below B w w') (hg : g < B) : CB w' g c so n cp := (hb.block g hg).trans h
theorem CB.cell {w : World} {g : Nat} {c : Cl} {so : Option Addr} {n cp : Nat} (h : CB w g c so n cp) {i : Nat} {v : Value} (hi : (clCells c so n cp)[i]? = some v) : w.cell? ⟨g, i, none⟩ = some v := by
  rw [cell_of_row w g i _ 47 (0, 0) h, ← Array.getElem?_toList]
  exact hi
theorem CB.frozen {w : World} {g : Nat} {c : Cl} {so : Option Addr} {n cp : Nat} (h : CB w g c so n cp) (i : Nat) : w.frozen? ⟨g, i, none⟩ = false := by
  simp only [World.frozen?, show w.heap[g]? = _ from h]
  simp
theorem CB.six {w : World} {g : Nat} {c : Cl} {so : Option Addr} {n cp : Nat} (h : CB w g c so n cp) : w.cell? ⟨g, 0, none⟩ = some (.string c.id) ∧ w.cell? ⟨g, 1, none⟩ = some (.string c.secret) ∧ w.cell? ⟨g, 2, none⟩ = some (.int .i64 c.grants) ∧ w.cell? ⟨g, 3, none⟩ = some (.bool c.ping) ∧ w.cell? ⟨g, 4, none⟩ = some (.string c.url) ∧ w.cell? ⟨g, 5, none⟩ = some (.slice so n cp) :=
  ⟨h.cell rfl, h.cell rfl, h.cell rfl, h.cell rfl, h.cell rfl, h.cell rfl⟩
theorem CB.put {w : World} {g : Nat} {c c' : Cl} {so so' : Option Addr} {n n' cp cp' : Nat} (h : CB w g c so n cp) (i : Nat) (v : Value) (he : (clCells c so n cp).set i v = clCells c' so' n' cp') : CB (w.setCell ⟨g, i, none⟩ v) g c' so' n' cp' := by
  show _ = _
  rw [setCell_eq_setRow w g i _ _ _ _ h, setRow_heap w g _ _ _ _ h]
  congr 2
  apply Array.ext'
  have : (clCells c' so' n' cp') = [.string c'.id, .string c'.secret, .int .i64 c'.grants, .bool c'.ping, .string c'.url, .slice so' n' cp'] := rfl
  simp only [Array.toList_setIfInBounds]
  rw [← this, ← he]
  rfl
/-- Nothing has turned but block g, and what is new. -/
theorem grown_set (w : World) (g i : Nat) (v : Value) : w.grownBy (w.setCell ⟨g, i, none⟩ v) (some g) := by
  refine ⟨rfl, rfl, rfl, by simp, fun i hi hne => ?_⟩
  exact Below.heap_setCell _ _ _ _ (fun e => hne (by rw [e]))
end Go.Proofs.YtjehbdekipmllaaGreatDoor
