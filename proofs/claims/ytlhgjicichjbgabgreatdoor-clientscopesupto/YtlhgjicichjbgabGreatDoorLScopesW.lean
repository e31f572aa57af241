/- The walk of the law ClientScopes: every client and whatever is asked: true, and nothing old turns. -/
import Derived.Test.YtlhgjicichjbgabGreatDoorLRScope
import Derived.Test.YtlhgjicichjbgabGreatDoorLLaw
import Derived.Test.YtlhgjicichjbgabGreatDoorLLive
namespace Go.Proofs.YtlhgjicichjbgabGreatDoor
open Go.RowKit

set_option maxHeartbeats 2000000 in
set_option maxRecDepth 100000 in
theorem clientScopes_walk (id secret url asked : ByteArray) (gr : Int) (pg : Bool) (l : List U) (so : Option Addr) (n cp : Nat) (w : World) (hn : n = l.length) (hl : n * 16 ≤ 140737488355328) (hj : (joinS l).length ≤ 140737488355328) (hr : SRow w so l) (ha : asked.size ≤ 9223372036854775807) (hM : MaxL w) :
    Calls Tryz.prog 4 #[.agg #[.string id, .string secret, .int .i64 gr, .bool pg, .string url, .slice so n cp], .string asked] w fun e w' => e = .returned (.bool true) ∧ Below w.heap.size w w' := by
  have HN : Hid (n = l.length) := hn
  have HR : Hid (SRow w so l) := hr
  have HM : Hid (MaxL w) := hM
  have HJ : Hid ((joinS l).length ≤ 140737488355328) := hj
  obtain ⟨X, HX⟩ : ∃ X, Hid (X = scopeR l asked.data.toList) := ⟨_, hide rfl⟩
  obtain ⟨xs, er⟩ := X
  have HB0 : Hid (Below w.heap.size w (w.alloc (.cells #[.string id, .string secret, .int .i64 gr, .bool pg, .string url, .slice so n cp] 27))) := below_new w _
  have HO1 := ours_any id secret url gr pg l so n cp (w.alloc (.cells #[.string id, .string secret, .int .i64 gr, .bool pg, .string url, .slice so n cp] 27)) hn hl (hr.keep HB0.out)
  have HC0 : Hid (C6 (w.alloc (.cells #[.string id, .string secret, .int .i64 gr, .bool pg, .string url, .slice so n cp] 27)) w.heap.size (.string id) (.string secret) (.int .i64 gr) (.bool pg) (.string url) (.slice so n cp)) := heap_alloc_new w _
  have hs0 := HC0.out.lt
  clear hn hr hj hM
  go_enter Tryz.func4, Tryz.ntmps4
  go_wp2_with fail
  refine HO1.mono ?_
  rintro e w1 ⟨-, s1, n1, c1, rfl, hsat1, -, hb1⟩
  obtain rfl : n1 = n := by rw [hsat1.1, HN.out]
  have HB1 : Hid (Below w.heap.size w w1) := HB0.out.trans (hb1.mono (by omega))
  have HC1 := hide (HC0.out.keep hb1 hs0)
  have HT := theirs_any id secret url gr pg l s1 n1 c1 w1 HN.out hl hsat1.2.2.1
  have hs1 := HC1.out.lt
  clear hb1 HO1 hsat1
  go_wp2_with fail
  refine HT.mono ?_
  rintro e w2 ⟨-, s2, n2, c2, rfl, hsat2, -, hb2⟩
  obtain rfl : n2 = n1 := by rw [hsat2.1, HN.out]
  have HB2 : Hid (Below w.heap.size w w2) := HB1.out.trans (hb2.mono (by omega))
  have HC2 := hide (HC1.out.keep hb2 hs1)
  have hs2 := HC2.out.lt
  have HS := scope_any id secret url asked gr pg l s2 n2 c2 w2 hsat2 (by omega) HJ.out (HM.out.keep HB2.out) ha
  rw [← HX.out] at HS
  clear hb2 HT hsat2
  simp only at HS
  generalize hxb : (⟨xs.toArray⟩ : ByteArray) = xb at HS
  go_wp2_with fail
  refine HS.mono ?_
  rintro e w3 ⟨rfl, hb3⟩
  have HB3 : Hid (Below w.heap.size w w3) := HB2.out.trans (hb3.mono (by omega))
  have HC3 := hide (HC2.out.keep hb3 hs2)
  have hs3 := HC3.out.lt
  obtain ⟨d0, d1, d2, d3, d4, d5⟩ := HC3.out.cells
  have HO4 := ours_any id secret url gr pg l so n2 cp w3 HN.out hl (HR.out.keep HB3.out)
  clear hb3 HS
  go_wp2_with fail
  refine HO4.mono ?_
  rintro e w4 ⟨-, s4, n4, c4, rfl, hsat4, -, hb4⟩
  obtain rfl : n4 = n2 := by rw [hsat4.1, HN.out]
  have HB4 : Hid (Below w.heap.size w w4) := HB3.out.trans (hb4.mono (by omega))
  have HS4 := rscope_any id secret url asked gr pg l s4 n4 c4 w4 hsat4 (by omega) HJ.out ha
  rw [← HX.out] at HS4
  simp only at HS4
  rw [hxb] at HS4
  have hs4 := HB4.out.size
  clear hb4 HO4 hsat4 hxb
  go_wp2_with fail
  refine HS4.mono ?_
  rintro e w5 ⟨rfl, hb5⟩
  have HB5 : Hid (Below w.heap.size w w5) := HB4.out.trans (hb5.mono (by omega))
  have HL := live_true w5 (HM.out.keep HB5.out)
  have hs5 := HB5.out.size
  clear hb5 HS4
  go_wp2_with (first | (go_at_call 14; refine (num_any _ _).mono ?_; rintro e wx ⟨rfl, rfl⟩) | fail)
  refine HL.mono ?_
  rintro e w6 ⟨rfl, hb6⟩
  go_wp2
  go_ret
  exact ⟨rfl, HB5.out.trans (hb6.mono (by omega))⟩
end Go.Proofs.YtlhgjicichjbgabGreatDoor
