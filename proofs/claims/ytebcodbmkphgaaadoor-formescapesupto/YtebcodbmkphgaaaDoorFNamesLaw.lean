/- The walks of the laws FormNames and FormEscapes: true, and nothing old turns. -/
import Derived.Test.YtebcodbmkphgaaaDoorLiveFn
import Derived.Test.YtebcodbmkphgaaaDoorEscRef
import Derived.Test.YtebcodbmkphgaaaDoorUnRef
namespace Go.Proofs.YtebcodbmkphgaaaDoor
open Go.RowKit

set_option maxHeartbeats 1000000 in
set_option maxRecDepth 100000 in
theorem formNames_walk (w : World) (hM : MaxL w) : Calls Tryd.prog 3 #[] w fun e w' => e = .returned (.bool true) ∧ Below w.heap.size w w' := by
  have HM : Hid (MaxL w) := hM
  clear hM
  go_enter Tryd.func3, Tryd.ntmps3
  go_wp2_with (go_at_call 8; refine (num_any _ _).mono ?_; rintro e w4 ⟨rfl, rfl⟩)
  refine (live_true _ HM.out).mono ?_
  rintro e w1 ⟨rfl, hb1⟩
  go_wp2
  go_ret
  exact ⟨rfl, hb1⟩

set_option maxHeartbeats 1000000 in
set_option maxRecDepth 100000 in
theorem formEscapes_walk (s : ByteArray) (w : World) (hl : s.size ≤ 1048576) (hM : MaxL w) : Calls Tryd.prog 4 #[.string s] w fun e w' => e = .returned (.bool true) ∧ Below w.heap.size w w' := by
  have HM : Hid (MaxL w) := hM
  clear hM
  obtain ⟨t, HT⟩ : ∃ t, Hid (t = bstr (esc (sbytes s))) := ⟨_, rfl⟩
  have hte : (t.toList == t.toList) = true := by simp
  go_enter Tryd.func4, Tryd.ntmps4
  go_wp2_with fail
  refine (escape_any s w (by omega)).mono ?_
  rintro e w1 ⟨rfl, hb1⟩
  rw [← HT.out]
  have HB1 : Hid (Below w.heap.size w w1) := hb1
  have hs1 := HB1.out.size
  clear hb1
  go_wp2_with fail
  refine (refEscape_any s w1 (by omega)).mono ?_
  rintro e w2 ⟨rfl, hb2⟩
  rw [← HT.out]
  have HB2 : Hid (Below w.heap.size w w2) := HB1.out.trans (hb2.mono hs1)
  have hs2 := HB2.out.size
  clear hb2 HB1
  go_wp2_with fail
  refine (unescape_any s w2 (by omega)).mono ?_
  rintro e w3 ⟨rfl, hb3⟩
  have HB3 : Hid (Below w.heap.size w w3) := HB2.out.trans (hb3.mono hs2)
  have hs3 := HB3.out.size
  clear hb3 HB2
  obtain ⟨v, er, pl, HU⟩ : ∃ (v : ByteArray) (er pl : Int), Hid (unRes (un (sbytes s) 0) = .tuple #[.string v, .int .i64 er, .int .i64 pl]) := by
    cases un (sbytes s) 0 with
    | ok t => exact ⟨_, _, _, rfl⟩
    | error e => obtain ⟨a, b⟩ := e; exact ⟨_, _, _, rfl⟩
  rw [HU.out]
  go_wp2_with fail
  refine (refUnescape_any s w3 (by omega)).mono ?_
  rintro e w4 ⟨rfl, hb4⟩
  rw [HU.out]
  have HB4 : Hid (Below w.heap.size w w4) := HB3.out.trans (hb4.mono hs3)
  have hs4 := HB4.out.size
  clear hb4 HB3
  go_wp2_with (go_at_call 8; refine (num_any _ _).mono ?_; rintro e w5 ⟨rfl, rfl⟩)
  refine (live_true _ (by exact HM.out.keep HB4.out)).mono ?_
  rintro e w6 ⟨rfl, hb6⟩
  have HB6 : Hid (Below w.heap.size w w6) := HB4.out.trans (hb6.mono hs4)
  clear hb6
  go_wp2
  go_ret
  exact ⟨rfl, HB6.out⟩
end Go.Proofs.YtebcodbmkphgaaaDoor
