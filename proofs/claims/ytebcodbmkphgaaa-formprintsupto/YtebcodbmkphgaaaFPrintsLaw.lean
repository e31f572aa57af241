/- The walk of the law FormPrints: every list of pairs up to a size: true, and nothing old turns. -/
import Derived.Test.YtebcodbmkphgaaaPrintFn
import Derived.Test.YtebcodbmkphgaaaRPrintFn
import Derived.Test.YtebcodbmkphgaaaOursFn
import Derived.Test.YtebcodbmkphgaaaPairsFn
import Derived.Test.YtebcodbmkphgaaaAppPairs
namespace Go.Proofs.Ytebcodbmkphgaaa
open Go.RowKit

set_option maxHeartbeats 1600000 in
set_option maxRecDepth 100000 in
theorem formPrints_walk (n c : Nat) (ao : Option Addr) (l : List Two) (w : World) (hn : n = l.length) (hl : tot2 l ≤ 1099511627776) (hb : ∀ q ∈ l, bytes2 q) (hr : PRow w ao l) :
    Calls Try.prog 3 #[.slice ao n c] w fun e w' => e = .returned (.bool true) ∧ Below w.heap.size w w' := by
  have hl3 := tot2_len l
  have HL : Hid (tot2 l ≤ 1099511627776) := hl
  have HN : Hid (n = l.length) := hn
  have HR : Hid (PRow w ao l) := hr
  have HB2 : Hid (∀ q ∈ l, bytes2 q) := hb
  have hnb : n ≤ 1099511627776 := by omega
  obtain ⟨z, HZ⟩ : ∃ z, Hid (z = bstr (prt l)) := ⟨_, rfl⟩
  obtain ⟨i0, hi, hz0, hz1, hz2⟩ := info_parts infoPair
  clear hn hr hb hl hl3
  go_enter Try.func3, Try.ntmps3
  go_wp2_with (first | (at_builtin; refine wpList_append_pairs (t := 34) (st := 22) (i0 := i0) rfl (.tmp 4) (.tmp 5) rfl Try.underlying22 hi hz0 hz1 hz2 w.heap.size _ [] l rfl (pown_new _ _ _ (Nat.le_refl _)) ao n c HN.out rfl (HR.out.keep (below_new _ _)) (by rw [← HN.out]; simp; omega) (by simp) ?_) | fail)
  intro v1 w1 hown1 hgrow1
  have HP1 : Hid (POwn 34 w1 w.heap.size v1 l) := hown1
  have HB1 : Hid (Below w.heap.size w w1) := ((Below.refl _ _).alloc (Nat.le_refl _) _).grown hgrow1 (by simp) (fun k hk => by simp [Value.ownBlock] at hk; omega)
  obtain ⟨f1, c1, hv, _, hr1, _⟩ := HP1.out.shape
  rw [← HN.out] at hv
  subst hv
  have HR1 : Hid (PRow w1 f1 l) := hr1
  have hs1 := HB1.out.size
  clear hown1 hgrow1 hr1
  go_wp2_with fail
  refine (print_any n c1 f1 l w1 HN.out HL.out HB2.out HR1.out).mono ?_
  rintro e w2 ⟨rfl, hb2⟩
  rw [← HZ.out]
  have HB2w : Hid (Below w.heap.size w w2) := HB1.out.trans (hb2.mono hs1)
  have HR2 : Hid (PRow w2 f1 l) := HR1.out.keep hb2
  have hs2 := HB2w.out.size
  clear hb2 HR1
  go_wp2_with fail
  refine (ours_any n c ao l w2 HN.out (by omega) (HR.out.keep HB2w.out)).mono ?_
  rintro e w3 ⟨v3, rfl, h3⟩
  obtain ⟨f3, c3, hv, _, hr3, _⟩ := h3.out.1.shape
  rw [← HN.out] at hv
  subst hv
  have HR3 : Hid (PRow w3 f3 l) := hr3
  have HB3 : Hid (Below w.heap.size w w3) := HB2w.out.trans (h3.out.2.mono hs2)
  have HR13 : Hid (PRow w3 f1 l) := HR2.out.keep h3.out.2
  have hs3 := HB3.out.size
  clear h3 hr3 HR2
  go_wp2_with fail
  refine (refPrint_any n c3 f3 l w3 HN.out HL.out HB2.out HR3.out).mono ?_
  rintro e w4 ⟨rfl, hb4⟩
  rw [← HZ.out]
  have HB4 : Hid (Below w.heap.size w w4) := HB3.out.trans (hb4.mono hs3)
  have HR14 : Hid (PRow w4 f1 l) := HR13.out.keep hb4
  clear hb4 HR13
  go_wp2_with fail
  refine (pairs_true n c1 c f1 ao l _ HN.out (by omega) (by exact HR14.out) (by exact HR.out.keep HB4.out)).mono ?_
  rintro e w5 ⟨rfl, k5, rfl⟩
  go_wp2
  go_ret
  exact ⟨rfl, below_drewN HB4.out _⟩
end Go.Proofs.Ytebcodbmkphgaaa
