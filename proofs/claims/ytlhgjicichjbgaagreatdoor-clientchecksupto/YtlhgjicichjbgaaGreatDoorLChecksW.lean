/- The walk of the law ClientChecks: every client: true, and nothing old turns. -/
import Derived.Test.YtlhgjicichjbgaaGreatDoorLRCheckB
import Derived.Test.YtlhgjicichjbgaaGreatDoorLLive
import Derived.Deep.RegionHeld3
namespace Go.Proofs.YtlhgjicichjbgaaGreatDoor
open Go.RowKit

set_option maxHeartbeats 4000000 in
set_option maxRecDepth 100000 in
theorem clientChecks_walk (id secret url : ByteArray) (gr : Int) (pg : Bool) (l : List U) (so : Option Addr) (n cp : Nat) (w : World) (hn : n = l.length) (hl : n * 16 ≤ 140737488355328) (hj : (joinS l).length ≤ 140737488355328) (hr : SRow w so l) (hM : MaxL w)
    (hi : id.size ≤ 9223372036854775807) (hse : secret.size ≤ 9223372036854775807) (hu : url.size ≤ 9223372036854775807) :
    Calls Tryz.prog 4 #[.agg #[.string id, .string secret, .int .i64 gr, .bool pg, .string url, .slice so n cp]] w fun e w' => e = .returned (.bool true) ∧ Below w.heap.size w w' := by
  have HN : Hid (n = l.length) := hn
  have HR : Hid (SRow w so l) := hr
  have HM : Hid (MaxL w) := hM
  have HJ : Hid ((joinS l).length ≤ 140737488355328) := hj
  obtain ⟨C, HCC⟩ : ∃ C, Hid (C = errIf (checkB ⟨id, secret, gr, pg, url, l⟩) 111) := ⟨_, hide rfl⟩
  have cO : ∀ W, Below w.heap.size w W → Calls Tryz.prog 13 #[.agg #[.string id, .string secret, .int .i64 gr, .bool pg, .string url, .slice so n cp]] W fun e w' => ∃ s1 c1, e = .returned (.agg #[.string id, .string secret, .int .i64 gr, .bool pg, .string url, .slice s1 n c1]) ∧ Hid (SAt w' s1 n c1 l ∧ Below W.heap.size W w') := by
    intro W hW
    refine (ours_any id secret url gr pg l so n cp W hn hl (HR.out.keep hW)).mono ?_
    rintro e w' ⟨-, s1, n1, c1, rfl, hs, -, hb⟩
    obtain rfl : n1 = n := by rw [hs.1, hn]
    exact ⟨s1, c1, rfl, hs, hb⟩
  have cT : ∀ W s1 c1, SAt W s1 n c1 l → Calls Tryz.prog 12 #[.agg #[.string id, .string secret, .int .i64 gr, .bool pg, .string url, .slice s1 n c1]] W fun e w' => ∃ s2 c2, e = .returned (.agg #[.string id, .string secret, .int .i64 gr, .bool pg, .string url, .slice s2 n c2]) ∧ Hid (SAt w' s2 n c2 l ∧ Below W.heap.size W w') := by
    intro W s1 c1 hW
    refine (theirs_any id secret url gr pg l s1 n c1 W hn hl hW.2.2.1).mono ?_
    rintro e w' ⟨-, s2, n2, c2, rfl, hs, -, hb⟩
    obtain rfl : n2 = n := by rw [hs.1, hn]
    exact ⟨s2, c2, rfl, hs, hb⟩
  have cC : ∀ W s1 c1, SAt W s1 n c1 l → MaxL W → Calls Tryz.prog 11 #[.agg #[.string id, .string secret, .int .i64 gr, .bool pg, .string url, .slice s1 n c1]] W fun e w' => e = .returned (.int .i64 C) ∧ Below W.heap.size W w' := by
    intro W s1 c1 hW hM'
    rw [HCC.out]
    exact check_any id secret url gr pg l s1 n c1 W hW (by omega) (fun _ => HJ.out) hM' hi hse hu
  have cR : ∀ W s1 c1, SAt W s1 n c1 l → Calls Tryz.prog 14 #[.agg #[.string id, .string secret, .int .i64 gr, .bool pg, .string url, .slice s1 n c1]] W fun e w' => e = .returned (.int .i64 C) ∧ Below W.heap.size W w' := by
    intro W s1 c1 hW
    rw [HCC.out]
    exact rcheck_any id secret url gr pg l s1 n c1 W hW (by omega) HJ.out hi hse hu
  have HB0 : Hid (Below w.heap.size w (w.alloc (.cells #[.string id, .string secret, .int .i64 gr, .bool pg, .string url, .slice so n cp] 27))) := below_new w _
  have HC0 : Hid (C6 (w.alloc (.cells #[.string id, .string secret, .int .i64 gr, .bool pg, .string url, .slice so n cp] 27)) w.heap.size (.string id) (.string secret) (.int .i64 gr) (.bool pg) (.string url) (.slice so n cp)) := heap_alloc_new w _
  have hbe : ((C : Int) == C) = true := by simp
  clear hn hr hj hM HCC
  go_enter Tryz.func4, Tryz.ntmps4
  go_upto_region 1 with fail
  generalize (w.alloc (.cells #[.string id, .string secret, .int .i64 gr, .bool pg, .string url, .slice so n cp] 27)) = w1 at *
  have hs1 := HC0.out.lt
  have hs0 := HB0.out.size
  obtain ⟨c0, c1, c2, c3, c4, c5⟩ := HC0.out.cells
  have HACC : Hid (Below w1.heap.size w1 w1) := Below.refl _ _
  have tok1 : Hid True := trivial
  go_region_held3 (fun W => W.cell? ⟨w.heap.size, 0, none⟩ = some (.string id) ∧ W.cell? ⟨w.heap.size, 1, none⟩ = some (.string secret) ∧ W.cell? ⟨w.heap.size, 2, none⟩ = some (.int .i64 gr) ∧ W.cell? ⟨w.heap.size, 3, none⟩ = some (.bool pg) ∧ W.cell? ⟨w.heap.size, 4, none⟩ = some (.string url) ∧ W.cell? ⟨w.heap.size, 5, none⟩ = some (.slice so n cp)) (go_keep) (first
    | (go_at_call 13; have _t := tok1; clear _t tok1; refine (cO _ (by first | exact below_drewN HB0.out 1 | exact HB0.out)).mono ?_; rintro e wa ⟨s1, k1, rfl, HO⟩; have HNW : Hid (Below w1.heap.size w1 wa) := (by first | exact acc_drew HACC.out HO.out.2 | exact acc_step HACC.out HO.out.2); have HSA := hide HO.out.1; clear HACC HO; obtain ⟨x0, x1, x2, x3, x4, x5⟩ := (HC0.out.keep HNW.out hs1).cells)
    | (go_at_call 12; refine (cT _ _ _ HSA.out).mono ?_; rintro e wb ⟨s2, k2, rfl, HO⟩; have HNX : Hid (Below w1.heap.size w1 wb) := acc_step HNW.out HO.out.2; have HSB := hide HO.out.1; clear HO; obtain ⟨x0, x1, x2, x3, x4, x5⟩ := (HC0.out.keep HNX.out hs1).cells)
    | (go_at_call 11; refine (cC _ _ _ HSB.out (HM.out.keep (HB0.out.trans (HNX.out.mono (by omega))))).mono ?_; rintro e wc ⟨rfl, hbc⟩; have HNY : Hid (Below w1.heap.size w1 wc) := acc_step HNX.out hbc; clear hbc; obtain ⟨x0, x1, x2, x3, x4, x5⟩ := (HC0.out.keep HNY.out hs1).cells)
    | (go_at_call 9; refine (num_any _ _).mono ?_; rintro e wx ⟨rfl, rfl⟩)
    | (go_at_call 13; refine (cO _ (HB0.out.trans (HNY.out.mono (by omega)))).mono ?_; rintro e wd ⟨s4, k4, rfl, HO⟩; have HNZ : Hid (Below w1.heap.size w1 wd) := acc_step HNY.out HO.out.2; have HSD := hide HO.out.1; clear HO; obtain ⟨x0, x1, x2, x3, x4, x5⟩ := (HC0.out.keep HNZ.out hs1).cells)
    | (go_at_call 14; refine (cR _ _ _ HSD.out).mono ?_; rintro e we ⟨rfl, hbe2⟩; have HNV : Hid (Below w1.heap.size w1 we) := acc_step HNZ.out hbe2; clear hbe2; obtain ⟨x0, x1, x2, x3, x4, x5⟩ := (HC0.out.keep HNV.out hs1).cells)
    | (go_at_call 10; refine (live_true _ (HM.out.keep (HB0.out.trans (HNV.out.mono (by omega))))).mono ?_; rintro e wf ⟨rfl, hbf⟩; have HNU : Hid (Below w1.heap.size w1 wf) := acc_step HNV.out hbf; clear hbf; obtain ⟨x0, x1, x2, x3, x4, x5⟩ := (HC0.out.keep HNU.out hs1).cells))
  go_wp2
  go_ret
  exact ⟨rfl, HB0.out.trans (HNU.out.mono (by omega))⟩
end Go.Proofs.YtlhgjicichjbgaaGreatDoor
