/- What the law DigestKnown holds the sums against: the known texts of digits; slices of one and of two rows of bytes. -/
import Derived.Test.YtjdglpfjemoodaaDoorLive2
import Derived.Test.YtjdglpfjemoodaaDoorMacTop
import Derived.Test.YtjdglpfjemoodaaDoorB64Enc
namespace Go.Proofs.YtjdglpfjemoodaaDoor
open Go.RowKit

def two56 : List Nat := [97, 98, 99, 100, 98, 99, 100, 101, 99, 100, 101, 102, 100, 101, 102, 103, 101, 102, 103, 104, 102, 103, 104, 105, 103, 104, 105, 106, 104, 105, 106, 107, 105, 106, 107, 108, 106, 107, 108, 109, 107, 108, 109, 110, 108, 109, 110, 111, 109, 110, 111, 112, 110, 111, 112, 113]
theorem two56_lt : ∀ x ∈ two56, x < 256 := by decide
theorem known0 : ((bstr (hexOf (sha []))).toList == [101, 51, 98, 48, 99, 52, 52, 50, 57, 56, 102, 99, 49, 99, 49, 52, 57, 97, 102, 98, 102, 52, 99, 56, 57, 57, 54, 102, 98, 57, 50, 52, 50, 55, 97, 101, 52, 49, 101, 52, 54, 52, 57, 98, 57, 51, 52, 99, 97, 52, 57, 53, 57, 57, 49, 98, 55, 56, 53, 50, 98, 56, 53, 53]) = true := by decide +kernel
theorem known2 : ((bstr (hexOf (sha two56))).toList == [50, 52, 56, 100, 54, 97, 54, 49, 100, 50, 48, 54, 51, 56, 98, 56, 101, 53, 99, 48, 50, 54, 57, 51, 48, 99, 51, 101, 54, 48, 51, 57, 97, 51, 51, 99, 101, 52, 53, 57, 54, 52, 102, 102, 50, 49, 54, 55, 102, 54, 101, 99, 101, 100, 100, 52, 49, 57, 100, 98, 48, 54, 99, 49]) = true := by decide +kernel
theorem known3 : ((bstr (hexOf (macOf [74, 101, 102, 101] [[119, 104, 97, 116, 32, 100, 111, 32, 121, 97, 32, 119, 97, 110, 116, 32, 102, 111, 114, 32, 110, 111, 116, 104, 105, 110, 103, 63]]))).toList == [53, 98, 100, 99, 99, 49, 52, 54, 98, 102, 54, 48, 55, 53, 52, 101, 54, 97, 48, 52, 50, 52, 50, 54, 48, 56, 57, 53, 55, 53, 99, 55, 53, 97, 48, 48, 51, 102, 48, 56, 57, 100, 50, 55, 51, 57, 56, 51, 57, 100, 101, 99, 53, 56, 98, 57, 54, 52, 101, 99, 51, 56, 52, 51]) = true := by decide +kernel
theorem known4 : ((bstr (hexOf (macOf [107, 101, 121] [[84, 104, 101, 32, 113, 117, 105, 99, 107, 32, 98, 114, 111, 119, 110, 32, 102, 111, 120, 32], [106, 117, 109, 112, 115, 32, 111, 118, 101, 114, 32, 116, 104, 101, 32, 108, 97, 122, 121, 32, 100, 111, 103]]))).toList == [102, 55, 98, 99, 56, 51, 102, 52, 51, 48, 53, 51, 56, 52, 50, 52, 98, 49, 51, 50, 57, 56, 101, 54, 97, 97, 54, 102, 98, 49, 52, 51, 101, 102, 52, 100, 53, 57, 97, 49, 52, 57, 52, 54, 49, 55, 53, 57, 57, 55, 52, 55, 57, 100, 98, 99, 50, 100, 49, 97, 51, 99, 100, 56]) = true := by decide +kernel
theorem known5 : ((bstr (b64of [251, 255])).toList == [45, 95, 56]) = true := by decide +kernel
theorem parts_one (w : World) (x : List Nat) (n c m : Nat) (b : Nat) (hn : n = x.length) (hc : n ≤ c) (hx : ∀ y ∈ x, y < 256) (hr : Row w (some ⟨b, 0, none⟩) x) (hm : m = w.heap.size) :
    Parts (w.alloc (.cells #[.slice (some ⟨b, 0, none⟩) n c] 26)) (some ⟨m, 0, none⟩) [x] := by
  subst hm; subst hn
  refine .inr ⟨_, _, rfl, fun i hi => ?_⟩
  obtain rfl : i = 0 := by simpa using hi
  exact ⟨some ⟨b, 0, none⟩, c, by simp, hc, hr.keep (below_new w _), hx⟩
theorem parts_two (w : World) (x y : List Nat) (n c n' c' m : Nat) (b b' : Nat) (hn : n = x.length) (hc : n ≤ c) (hx : ∀ z ∈ x, z < 256) (hr : Row w (some ⟨b, 0, none⟩) x) (hn' : n' = y.length) (hc' : n' ≤ c') (hy : ∀ z ∈ y, z < 256) (hr' : Row w (some ⟨b', 0, none⟩) y) (hm : m = w.heap.size) :
    Parts (w.alloc (.cells #[.slice (some ⟨b, 0, none⟩) n c, .slice (some ⟨b', 0, none⟩) n' c'] 26)) (some ⟨m, 0, none⟩) [x, y] := by
  subst hm; subst hn; subst hn'
  refine .inr ⟨_, _, rfl, fun i hi => ?_⟩
  rcases (show i = 0 ∨ i = 1 by simp at hi; omega) with rfl | rfl
  · exact ⟨some ⟨b, 0, none⟩, c, by simp, hc, hr.keep (below_new w _), hx⟩
  · exact ⟨some ⟨b', 0, none⟩, c', by simp, hc', hr'.keep (below_new w _), hy⟩

end Go.Proofs.YtjdglpfjemoodaaDoor
