/- The walk of the law FormWithins: every two lists of texts: true, and nothing old turns. -/
import Derived.Test.YtebcodbmkphgaabWithinRef
import Derived.Test.YtebcodbmkphgaabTextsFn
import Derived.Test.YtebcodbmkphgaabAppStrs
namespace Go.Proofs.Ytebcodbmkphgaab
open Go.RowKit

set_option maxHeartbeats 1600000 in
set_option maxRecDepth 100000 in
theorem formWithins_walk (n m c d : Nat) (ao bo : Option Addr) (l all : List U) (w : World) (hn : n = l.length) (hm : m = all.length) (hl : n * 16 ≤ 140737488351232) (hl2 : m * 16 ≤ 140737488351232) (hx : SRow w ao l) (hy : SRow w bo all) :
    Calls Try.prog 3 #[.slice ao n c, .slice bo m d] w fun e w' => e = .returned (.bool true) ∧ Below w.heap.size w w' := by
  have HN : Hid (n = l.length) := hn
  have HM : Hid (m = all.length) := hm
  have HX : Hid (SRow w ao l) := hx
  have HY : Hid (SRow w bo all) := hy
  obtain ⟨i0, hi, hz0, hz1, hz2⟩ := info_parts infoStr
  clear hx hy hn hm
  go_enter Try.func3, Try.ntmps3
  go_wp2_with (first | (at_builtin; refine wpList_append_strs (i0 := i0) rfl (.tmp 7) (.tmp 8) rfl hi hz0 hz1 hz2 w.heap.size _ [] l rfl (sown_new _ _ (Nat.le_refl _)) ao n c HN.out rfl (HX.out.keep (below_new _ _)) (by rw [← HN.out]; simp; omega) (by simp) ?_) | fail)
  intro v1 w1 hown1 hgrow1
  have HB1 : Hid (Below w.heap.size w w1) := ((Below.refl _ _).alloc (Nat.le_refl _) _).grown hgrow1 (by simp) (fun k hk => by simp [Value.ownBlock] at hk; omega)
  obtain ⟨f1, c1, hv, _, hr1, _⟩ := SOwn.shape (l := l) hown1
  rw [← HN.out] at hv
  subst hv
  have HR1 : Hid (SRow w1 f1 l) := hr1
  have hs1 := HB1.out.size
  clear hown1 hgrow1 hr1
  go_wp2_with (first | (at_builtin; refine wpList_append_strs (i0 := i0) rfl (.tmp 10) (.tmp 11) rfl hi hz0 hz1 hz2 w1.heap.size _ [] all rfl (sown_new _ _ (Nat.le_refl _)) bo m d HM.out rfl ((HY.out.keep HB1.out).keep (below_new _ _)) (by rw [← HM.out]; simp; omega) (by simp) ?_) | fail)
  intro v2 w2 hown2 hgrow2
  have hb2 : Below w1.heap.size w1 w2 := ((Below.refl _ _).alloc (Nat.le_refl _) _).grown hgrow2 (by simp) (fun k hk => by simp [Value.ownBlock] at hk; omega)
  have HB2 : Hid (Below w.heap.size w w2) := HB1.out.trans (hb2.mono hs1)
  have HR12 : Hid (SRow w2 f1 l) := HR1.out.keep hb2
  obtain ⟨f2, c2, hv, _, hr2, _⟩ := SOwn.shape (l := all) hown2
  rw [← HM.out] at hv
  subst hv
  have HR2 : Hid (SRow w2 f2 all) := hr2
  clear hown2 hgrow2 hr2 hb2 HR1
  go_wp2_with fail
  refine (within_any n m c1 c2 f1 f2 l all w2 HN.out HM.out (by omega) (by omega) HR12.out HR2.out).mono ?_
  rintro e w3 ⟨rfl, rfl⟩
  go_wp2_with fail
  refine (refWithin_any n m c d ao bo l all w3 HN.out HM.out (by omega) (by omega) (HX.out.keep HB2.out) (HY.out.keep HB2.out)).mono ?_
  rintro e w4 ⟨rfl, k4, rfl⟩
  generalize withinB l all = bb
  go_wp2_with fail
  refine (texts_true n c1 c f1 ao l _ HN.out (by omega) (by exact HR12.out) (by exact HX.out.keep (below_drewN HB2.out _))).mono ?_
  rintro e w5 ⟨rfl, k5, rfl⟩
  go_wp2_with fail
  refine (texts_true m c2 d f2 bo all _ HM.out (by omega) (by exact HR2.out) (by exact HY.out.keep (below_drewN HB2.out _))).mono ?_
  rintro e w6 ⟨rfl, k6, rfl⟩
  go_wp2
  go_ret
  exact ⟨rfl, below_drewN HB2.out _⟩
end Go.Proofs.Ytebcodbmkphgaab
