/- Spread, said by the time and the timers alone. -/
import Derived.Test.YtmngmkbiibhmkaaVSpread
namespace Go.Proofs.Ytmngmkbiibhmkaa
open Go.RowKit Go.Shelf Go.Maps

/-- How many timers lie in each slot. -/
def lens (now : Nat) (L : List Tm) : List Nat := (List.range 257).map fun k => (L.filter fun p => slotN now p.2 == k).length
theorem lens_eq {now : Nat} {L : List Tm} {S : List (List Nat)} (h : Ok now L S) (hs : S.length = 257) : S.map List.length = lens now L := by
  apply List.ext_getElem
  · simp [lens, hs]
  · intro k h1 h2
    have hk : k < S.length := by simpa using h1
    have := (h.fits k S[k] (List.getElem?_eq_getElem hk)).length_eq
    simpa [lens] using this
def spreadV (now : Nat) (L : List Tm) : Value := .agg #[iv (((lens now L).drop 0).take 64).sum, iv (((lens now L).drop 64).take 64).sum, iv (((lens now L).drop 128).take 64).sum, iv (((lens now L).drop 192).take 64).sum, iv ((lens now L).getD 256 0)]
theorem spread_whl (wp now : Nat) (L : List Tm) (Y : Lay) (w : World) (h : Whl w wp now L Y) : Calls Try.prog 17 #[pw wp] w fun e w' => e = .returned (spreadV now L) ∧ Below w.heap.size w w' := by
  obtain ⟨S, h1, h2⟩ := h
  have e := lens_eq h2 h1.slen
  have es : ∀ i, sp S i 64 = (((lens now L).drop (64 * i)).take 64).sum := fun i => by
    unfold sp
    rw [← e, List.map_take, List.map_drop]
  have ef : (S.getD 256 []).length = (lens now L).getD 256 0 := by
    rw [← e]
    have hk : 256 < S.length := by rw [h1.slen]; omega
    simp [List.getD, hk]
  have := spread_any wp now L Y S w h1 h2
  rw [es 0, es 1, es 2, es 3, ef] at this
  exact this
end Go.Proofs.Ytmngmkbiibhmkaa
