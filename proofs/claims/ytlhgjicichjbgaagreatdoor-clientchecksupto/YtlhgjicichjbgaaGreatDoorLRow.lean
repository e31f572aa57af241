/- Rows of clients in memory: six cells a client. -/
import Derived.Test.YtlhgjicichjbgaaGreatDoorLReadC
namespace Go.Proofs.YtlhgjicichjbgaaGreatDoor
open Go.RowKit

/-- A client's six cells from a place on. -/
def CAt (w : World) (b o : Nat) (c : Cl) (so : Option Addr) (n cp : Nat) : Prop := w.cell? ⟨b, o, none⟩ = some (.string c.id) ∧ w.cell? ⟨b, o + 1, none⟩ = some (.string c.secret) ∧ w.cell? ⟨b, o + 2, none⟩ = some (.int .i64 c.grants) ∧ w.cell? ⟨b, o + 3, none⟩ = some (.bool c.ping) ∧ w.cell? ⟨b, o + 4, none⟩ = some (.string c.url) ∧ w.cell? ⟨b, o + 5, none⟩ = some (.slice so n cp) ∧ SAt w so n cp c.scopes
theorem CAt.keep {w w' : World} {b o : Nat} {c : Cl} {so : Option Addr} {n cp : Nat} (h : CAt w b o c so n cp) (hb : Below w.heap.size w w') : CAt w' b o c so n cp := by
  obtain ⟨h0, h1, h2, h3, h4, h5, h6⟩ := h
  exact ⟨cell_kept h0 hb, cell_kept h1 hb, cell_kept h2 hb, cell_kept h3 hb, cell_kept h4 hb, cell_kept h5 hb, h6.keep hb⟩
def CRow (w : World) (ao : Option Addr) (l : List Cl) : Prop :=
  l = [] ∨ ∃ b off, ao = some ⟨b, off, none⟩ ∧ ∀ i c, l[i]? = some c → ∃ so n cp, CAt w b (off + i * 6) c so n cp
theorem CRow.keep {w w' : World} {ao : Option Addr} {l : List Cl} (h : CRow w ao l) (hb : Below w.heap.size w w') : CRow w' ao l := by
  rcases h with h | ⟨b, off, rfl, hc⟩
  · exact .inl h
  · refine .inr ⟨b, off, rfl, fun i c hi => ?_⟩
    obtain ⟨so, n, cp, h⟩ := hc i c hi
    exact ⟨so, n, cp, h.keep hb⟩
theorem CRow.form {w : World} {ao : Option Addr} {l : List Cl} (h : CRow w ao l) (hne : 0 < l.length) : ∃ b off, ao = some ⟨b, off, none⟩ := by
  rcases h with rfl | ⟨b, off, rfl, _⟩
  · simp at hne
  · exact ⟨b, off, rfl⟩
theorem CRow.cell {w : World} {b off : Nat} {l : List Cl} (h : CRow w (some ⟨b, off, none⟩) l) {i : Nat} {c : Cl} (hi : l[i]? = some c) : ∃ so n cp, CAt w b (off + i * 6) c so n cp := by
  rcases h with rfl | ⟨b', off', h, hc⟩
  · simp at hi
  · cases h; exact hc i c hi

/-- Where the first client of that name stands. -/
def posOf (l : List Cl) (id : ByteArray) : Option Nat := l.findIdx? fun c => decide (c.id = id)
def posI : Option Nat → Int
  | some i => i
  | none => -1
set_option maxHeartbeats 400000 in
set_option maxRecDepth 100000 in
theorem isThat_any (id secret url x : ByteArray) (gr : Int) (pg : Bool) (so : Option Addr) (n cp N : Nat) (w : World) (hx : w.cell? ⟨N, 0, none⟩ = some (.string x)) :
    Calls Tryz.prog 92 #[.agg #[.string id, .string secret, .int .i64 gr, .bool pg, .string url, .slice so n cp], .pointer (some ⟨N, 0, none⟩)] w fun e w' => e = .returned (.bool (decide (id = x))) ∧ Below w.heap.size w w' := by
  obtain ⟨B, HB⟩ : ∃ B, Hid (B = decide (id = x)) := ⟨_, hide rfl⟩
  have hb : (id.toList == x.toList) = B := by rw [HB.out]; exact str_eq id x
  have hn := World.block_lt_of_cell? w _ hx
  have hn2 : ¬ N = w.heap.size := by simp only at hn; omega
  rw [← HB.out]
  clear HB
  go_enter Tryz.func92, Tryz.ntmps92
  go_wp2
  go_ret
  exact ⟨rfl, below_new _ _⟩
end Go.Proofs.YtlhgjicichjbgaaGreatDoor
