/- The walk of the law FormOnes: every name in every list: true, and nothing old turns. -/
import Derived.Test.YtebcodbmkphgaaaDoorLiveFn
import Derived.Test.YtebcodbmkphgaaaDoorOneFn
import Derived.Test.YtebcodbmkphgaaaDoorOursFn
import Derived.Test.YtebcodbmkphgaaaDoorPairsFn
import Derived.Test.YtebcodbmkphgaaaDoorAppPairs
namespace Go.Proofs.YtebcodbmkphgaaaDoor
open Go.RowKit

set_option maxHeartbeats 1600000 in
set_option maxRecDepth 100000 in
theorem formOnes_walk (n c : Nat) (ao : Option Addr) (l : List Two) (nm : ByteArray) (w : World) (hn : n = l.length) (hl : n * 32 ≤ 140737488351232) (hb : ∀ q ∈ l, bytes2 q) (hz : ∀ q ∈ l, q.2.length ≤ 281474976710656) (hr : PRow w ao l) (hM : MaxL w) :
    Calls Tryd.prog 6 #[.slice ao n c, .string nm] w fun e w' => e = .returned (.bool true) ∧ Below w.heap.size w w' := by
  have HM : Hid (MaxL w) := hM
  have HN : Hid (n = l.length) := hn
  have HR : Hid (PRow w ao l) := hr
  have HB2 : Hid (∀ q ∈ l, bytes2 q) := hb
  have HZ : Hid (∀ q ∈ l, q.2.length ≤ 281474976710656) := hz
  obtain ⟨i0, hi, hz0, hz1, hz2⟩ := info_parts infoPair
  obtain ⟨v, o, e0, HU⟩ : ∃ (v : ByteArray) (o : Bool) (e0 : Int), Hid (oneRes (ones (sbytes nm) l) = .tuple #[.string v, .bool o, .int .i64 e0]) := by
    unfold oneRes
    by_cases h : 1 < (ones (sbytes nm) l).2
    · rw [if_pos h]; exact ⟨_, _, _, rfl⟩
    · rw [if_neg h]; exact ⟨_, _, _, rfl⟩
  clear hM hn hr hb hz
  go_enter Tryd.func6, Tryd.ntmps6
  go_wp2_with (first | (at_builtin; refine wpList_append_pairs (t := 40) (st := 31) (i0 := i0) rfl (.tmp 12) (.tmp 13) rfl Tryd.underlying31 hi hz0 hz1 hz2 w.heap.size _ [] l rfl (pown_new _ _ _ (Nat.le_refl _)) ao n c HN.out rfl (HR.out.keep (below_new _ _)) (by rw [← HN.out]; simp; omega) (by simp) ?_) | fail)
  intro v1 w1 hown1 hgrow1
  have HP1 : Hid (POwn 40 w1 w.heap.size v1 l) := hown1
  have HB1 : Hid (Below w.heap.size w w1) := ((Below.refl _ _).alloc (Nat.le_refl _) _).grown hgrow1 (by simp) (fun k hk => by simp [Value.ownBlock] at hk; omega)
  obtain ⟨f1, c1, hv, _, hr1, _⟩ := HP1.out.shape
  rw [← HN.out] at hv
  subst hv
  have HR1 : Hid (PRow w1 f1 l) := hr1
  have hs1 := HB1.out.size
  clear hown1 hgrow1 hr1
  go_wp2_with fail
  refine (one_any n c1 f1 l nm w1 HN.out (by omega) HB2.out HZ.out HR1.out).mono ?_
  rintro e w2 ⟨rfl, hb2⟩
  rw [HU.out]
  have HB2w : Hid (Below w.heap.size w w2) := HB1.out.trans (hb2.mono hs1)
  have HR2 : Hid (PRow w2 f1 l) := HR1.out.keep hb2
  have hs2 := HB2w.out.size
  clear hb2 HR1
  go_wp2_with fail
  refine (ours_any n c ao l w2 HN.out (by omega) (HR.out.keep HB2w.out)).mono ?_
  rintro e w3 ⟨v3, rfl, h3⟩
  obtain ⟨f3, c3, hv, _, hr3, _⟩ := h3.out.1.shape
  rw [← HN.out] at hv
  subst hv
  have HR3 : Hid (PRow w3 f3 l) := hr3
  have HB3 : Hid (Below w.heap.size w w3) := HB2w.out.trans (h3.out.2.mono hs2)
  have HR13 : Hid (PRow w3 f1 l) := HR2.out.keep h3.out.2
  have hs3 := HB3.out.size
  clear h3 hr3 HR2
  go_wp2_with fail
  refine (refOne_any n c3 f3 l nm w3 HN.out (by omega) HB2.out HR3.out).mono ?_
  rintro e w4 ⟨rfl, rfl⟩
  rw [HU.out]
  go_wp2_with (go_at_call 8; refine (num_any _ _).mono ?_; rintro e wn ⟨rfl, rfl⟩)
  refine (pairs_true n c1 c f1 ao l _ HN.out (by omega) (by exact HR13.out) (by exact HR.out.keep HB3.out)).mono ?_
  rintro e w5 ⟨rfl, k5, rfl⟩
  go_wp2_with fail
  refine (live_true _ (by exact HM.out.keep (below_drewN HB3.out _))).mono ?_
  rintro e w6 ⟨rfl, hb6⟩
  have HB6 : Hid (Below w.heap.size w w6) := (below_drewN HB3.out k5).trans (hb6.mono (by simp; omega))
  clear hb6
  go_wp2
  go_ret
  exact ⟨rfl, HB6.out⟩
end Go.Proofs.YtebcodbmkphgaaaDoor
