/- What Parse hands out, with its length by name. -/
import Derived.Test.YtlhgjicichjbgaaGreatDoorParseFn
namespace Go.Proofs.YtlhgjicichjbgaaGreatDoor
open Go.RowKit

theorem parOut_len (xs : List Nat) : (parOut xs).1.length ≤ 64 ∧ ∀ q ∈ (parOut xs).1, bytes2 q := by
  unfold parOut
  split
  · simp
  · cases h : parse xs 0 [] with
    | ok l => exact parse_lt _ _ _ _ _ (Nat.le_refl _) (by simp) (by simp) h
    | error e => obtain ⟨a, b⟩ := e; simp [outOf]
theorem parse_m (s : ByteArray) (l : List Two) (er pl m : Nat) (w : World) (hO : parOut (sbytes s) = (l, er, pl)) (hm : m = l.length) (hsz : s.size ≤ 9223372036854775807) (hM : MaxL w) :
    Calls Tryz.prog 118 #[.string s] w fun e w' => ∃ fo fc, e = .returned (.tuple #[.slice fo m fc, .int .i64 (er : Int), .int .i64 (pl : Int)]) ∧ Hid (POwn 63 w' w.heap.size (.slice fo m fc) l ∧ Below w.heap.size w w') := by
  subst hm
  refine (parse_any s w hsz hM).mono ?_
  rintro e w' ⟨v, rfl, h⟩
  rw [hO] at h ⊢
  obtain ⟨fo, fc, rfl, _⟩ := h.out.1.shape
  exact ⟨fo, fc, rfl, h⟩
theorem POwn.row {t : TypeId} {w : World} {B n c : Nat} {ao : Option Addr} {l : List Two} (h : POwn t w B (.slice ao n c) l) : PRow w ao l := by
  obtain ⟨a, c', e, _, hr, _⟩ := h.shape
  cases e
  exact hr
end Go.Proofs.YtlhgjicichjbgaaGreatDoor
