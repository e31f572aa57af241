/- What Scopes hands out, with its length by name. -/
import Derived.Test.YtlhgjicichjbgaaGreatDoorScopesFn
namespace Go.Proofs.YtlhgjicichjbgaaGreatDoor
open Go.RowKit

theorem scoOut_len (t : U) : (scoOut t).1.length ≤ 32 := by
  unfold scoOut
  split
  · simp
  · split
    · simp
    · split
      · split
        · simp
        · simp; omega
      · simp
theorem scopes_m (s : ByteArray) (l : List U) (er m : Nat) (w : World) (hO : scoOut s.data.toList = (l, er)) (hm : m = l.length) (hsz : s.size ≤ 9223372036854775807) (hM : MaxL w) :
    Calls Tryz.prog 61 #[.string s] w fun e w' => ∃ fo fc, e = .returned (.tuple #[.slice fo m fc, .int .i64 (er : Int)]) ∧ Hid (SOwn w' w.heap.size (.slice fo m fc) l ∧ Below w.heap.size w w') := by
  subst hm
  refine (scopes_any s w hsz hM).mono ?_
  rintro e w' ⟨v, rfl, h⟩
  rw [hO] at h ⊢
  obtain ⟨fo, fc, rfl, _⟩ := h.out.1.shape
  exact ⟨fo, fc, rfl, h⟩
theorem SOwn.row {w : World} {B n c : Nat} {ao : Option Addr} {l : List U} (h : SOwn w B (.slice ao n c) l) : SRow w ao l := by
  obtain ⟨a, c', e, _, hr, _⟩ := h.shape
  cases e
  exact hr
end Go.Proofs.YtlhgjicichjbgaaGreatDoor
