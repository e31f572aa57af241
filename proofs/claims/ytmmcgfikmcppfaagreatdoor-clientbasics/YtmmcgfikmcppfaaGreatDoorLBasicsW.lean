/- The walk of the law ClientBasics: every header: true, and nothing old turns. -/
import Derived.Test.YtmmcgfikmcppfaaGreatDoorLRBasic
import Derived.Test.YtmmcgfikmcppfaaGreatDoorLLive
namespace Go.Proofs.YtmmcgfikmcppfaaGreatDoor
open Go.RowKit

set_option maxHeartbeats 1000000 in
set_option maxRecDepth 100000 in
theorem clientBasics_walk (s : ByteArray) (w : World) (hM : MaxL w) : Calls Tryz.prog 6 #[.string s] w fun e w' => e = .returned (.bool true) ∧ Below w.heap.size w w' := by
  have HM : Hid (MaxL w) := hM
  have HB := basic_any s w hM
  have HR : Hid (∀ W, Calls Tryz.prog 25 #[.string s] W fun e w' => e = .returned (basV (basT (sbytes s))) ∧ Below W.heap.size W w') := fun W => rbasic_any s W
  have HS : Hid (∃ (a b : ByteArray) (e : Int), basV (basT (sbytes s)) = .tuple #[.string a, .string b, .int .i64 e]) := by
    cases basT (sbytes s) with
    | none => exact ⟨_, _, _, rfl⟩
    | some ab => exact ⟨_, _, _, rfl⟩
  obtain ⟨a, b, c, hs⟩ := HS.out
  rw [hs] at HB HR
  clear hs HS hM
  have ha : (a.toList == a.toList) = true := by simp
  have hb : (b.toList == b.toList) = true := by simp
  have hc : (c == c) = true := by simp
  have HN : Hid (∀ W, Calls Tryz.prog 13 #[.int .i64 c] W fun e w' => e = .returned (.int .i64 c) ∧ w' = W) := fun W => num_any c W
  go_enter Tryz.func6, Tryz.ntmps6
  go_wp2_with fail
  refine HB.mono ?_
  rintro e w1 ⟨rfl, hb1⟩
  have HB1 := hide hb1
  clear hb1 HB
  go_wp2_with fail
  refine (HR.out _).mono ?_
  rintro e w2 ⟨rfl, hb2⟩
  have HB2 := hide (HB1.out.trans (hb2.mono HB1.out.size))
  clear hb2 HR
  go_wp2_with fail
  refine (HN.out _).mono ?_
  rintro e w3 ⟨rfl, rfl⟩
  have HLV := live_true w3 (HM.out.keep HB2.out)
  go_wp2_with fail
  refine HLV.mono ?_
  rintro e w4 ⟨rfl, hb4⟩
  have HB4 := hide (HB2.out.trans (hb4.mono HB2.out.size))
  clear hb4
  go_wp2
  go_ret
  exact ⟨rfl, HB4.out⟩
end Go.Proofs.YtmmcgfikmcppfaaGreatDoor
