/- What the row of handles lists besides the letters: the tables of roots in memory. -/
import Derived.Test.YtonnnolnkjahgaaDoorDoor9
import Derived.Test.YtonnnolnkjahgaaDoorTurnedFn
namespace Go.Proofs.YtonnnolnkjahgaaDoor
open Go.ChangeShapes Go.WideShapes Go.ChangeAt Go.RowKit

theorem gTab : Tryd.prog.globalNamed "wicket/digest.roots" = some 2 := by kernel_rfl
theorem gTabType : (Tryd.prog.globals[2]?).map (·.type) = some 97 := by kernel_rfl
theorem gTab1 : Tryd.prog.globalNamed "wicket/wicketref02.roots" = some 3 := by kernel_rfl
theorem gTabType1 : (Tryd.prog.globals[3]?).map (·.type) = some 97 := by kernel_rfl
theorem cellsTab : Tryd.prog.cellsOf 97 = 64 := by kernel_rfl
theorem cellsWord : Tryd.prog.cellsOf 75 = 1 := by kernel_rfl
def KtI : List Int := [1116352408, 1899447441, 3049323471, 3921009573, 961987163, 1508970993, 2453635748, 2870763221, 3624381080, 310598401, 607225278, 1426881987, 1925078388, 2162078206, 2614888103, 3248222580, 3835390401, 4022224774, 264347078, 604807628, 770255983, 1249150122, 1555081692, 1996064986, 2554220882, 2821834349, 2952996808, 3210313671, 3336571891, 3584528711, 113926993, 338241895, 666307205, 773529912, 1294757372, 1396182291, 1695183700, 1986661051, 2177026350, 2456956037, 2730485921, 2820302411, 3259730800, 3345764771, 3516065817, 3600352804, 4094571909, 275423344, 430227734, 506948616, 659060556, 883997877, 958139571, 1322822218, 1537002063, 1747873779, 1955562222, 2024104815, 2227730452, 2361852424, 2428436474, 2756734187, 3204031479, 3329325298]
theorem tab_int : ∀ j, j < 64 → KtI.getD j 0 = ((Kt.getD j 0 : Nat) : Int) := by decide +kernel
theorem roots_of {W : World} {rest : List (String × DataW Unit)} (h : laidMet Tryd.prog (("wicket/digest.roots", Rows.laid_wicket_digest_roots) :: rest) W) : Roots W 2 := fun j hj => by
  have ht : Lib.TabIs Tryd.prog W "wicket/digest.roots" .u32 KtI := Lib.tabIs_of_head (rest := rest) gTab gTabType Tryd.underlying97 Tryd.underlying75 cellsWord cellsTab h
  rw [← tab_int j hj]
  exact ht.cell gTab j (by simpa [KtI] using hj)
theorem roots_of1 {W : World} (h : laidMet Tryd.prog [("wicket/digest.roots", Rows.laid_wicket_digest_roots), ("wicket/wicketref02.roots", Rows.laid_wicket_wicketref02_roots), ("wicket/codes.letters", Rows.laid_wicket_codes_letters)] W) : Roots W 3 := fun j hj => by
  have h2 : laidMet Tryd.prog [("wicket/wicketref02.roots", Rows.laid_wicket_wicketref02_roots)] W := by
    have := laidMet.filter (fun x => decide (x.1 = "wicket/wicketref02.roots")) h
    simpa using this
  have ht : Lib.TabIs Tryd.prog W "wicket/wicketref02.roots" .u32 KtI := Lib.tabIs_of_head (rest := []) gTab1 gTabType1 Tryd.underlying97 Tryd.underlying75 cellsWord cellsTab h2
  rw [← tab_int j hj]
  exact ht.cell gTab1 j (by simpa [KtI] using hj)
theorem lets_of3 {W : World} (h : laidMet Tryd.prog [("wicket/digest.roots", Rows.laid_wicket_digest_roots), ("wicket/wicketref02.roots", Rows.laid_wicket_wicketref02_roots), ("wicket/codes.letters", Rows.laid_wicket_codes_letters)] W) : Lets W := by
  have h2 : laidMet Tryd.prog [("wicket/codes.letters", Rows.laid_wicket_codes_letters)] W := by
    have := laidMet.filter (fun x => decide (x.1 = "wicket/codes.letters")) h
    simpa using this
  exact lets_of h2
end Go.Proofs.YtonnnolnkjahgaaDoor
