/- The walk of the law ClientWithin: every client and whatever is asked: true, and nothing old turns. -/
import Derived.Test.YtlhgjicichjbgabGreatDoorLRScope
import Derived.Test.YtlhgjicichjbgabGreatDoorLLaw
import Derived.Test.YtlhgjicichjbgabGreatDoorLLive
import Derived.Test.YtlhgjicichjbgabGreatDoorLWithinM
namespace Go.Proofs.YtlhgjicichjbgabGreatDoor
open Go.RowKit

set_option maxHeartbeats 2000000 in
set_option maxRecDepth 100000 in
theorem clientWithin_walk (id secret url asked : ByteArray) (gr : Int) (pg : Bool) (l : List U) (so : Option Addr) (n cp : Nat) (w : World) (hn : n = l.length) (hl : n * 16 ≤ 140737488355328) (hj : (joinS l).length ≤ 140737488355328) (hr : SRow w so l) (ha : asked.size ≤ 9223372036854775807) (hM : MaxL w) :
    Calls Tryz.prog 8 #[.agg #[.string id, .string secret, .int .i64 gr, .bool pg, .string url, .slice so n cp], .string asked] w fun e w' => e = .returned (.bool true) ∧ Below w.heap.size w w' := by
  have HN : Hid (n = l.length) := hn
  have HR : Hid (SRow w so l) := hr
  have HM : Hid (MaxL w) := hM
  have HJ : Hid ((joinS l).length ≤ 140737488355328) := hj
  obtain ⟨X, HX⟩ : ∃ X, Hid (X = scopeR l asked.data.toList) := ⟨_, hide rfl⟩
  obtain ⟨xs, er⟩ := X
  have HB0 : Hid (Below w.heap.size w (w.alloc (.cells #[.string id, .string secret, .int .i64 gr, .bool pg, .string url, .slice so n cp] 27))) := below_new w _
  have HO1 := ours_any id secret url gr pg l so n cp (w.alloc (.cells #[.string id, .string secret, .int .i64 gr, .bool pg, .string url, .slice so n cp] 27)) hn hl (hr.keep HB0.out)
  have HC0 : Hid (C6 (w.alloc (.cells #[.string id, .string secret, .int .i64 gr, .bool pg, .string url, .slice so n cp] 27)) w.heap.size (.string id) (.string secret) (.int .i64 gr) (.bool pg) (.string url) (.slice so n cp)) := heap_alloc_new w _
  have hs0 := HC0.out.lt
  clear hn hr hj hM
  go_enter Tryz.func8, Tryz.ntmps8
  go_wp2_with fail
  refine HO1.mono ?_
  rintro e w1 ⟨-, s1, n1, c1, rfl, hsat1, -, hb1⟩
  obtain rfl : n1 = n := by rw [hsat1.1, HN.out]
  have HB1 : Hid (Below w.heap.size w w1) := HB0.out.trans (hb1.mono (by omega))
  have HC1 := hide (HC0.out.keep hb1 hs0)
  have HT := theirs_any id secret url gr pg l s1 n1 c1 w1 HN.out hl hsat1.2.2.1
  have hs1 := HC1.out.lt
  clear hb1 HO1 hsat1
  go_wp2_with fail
  refine HT.mono ?_
  rintro e w2 ⟨-, s2, n2, c2, rfl, hsat2, -, hb2⟩
  obtain rfl : n2 = n1 := by rw [hsat2.1, HN.out]
  have HB2 : Hid (Below w.heap.size w w2) := HB1.out.trans (hb2.mono (by omega))
  have HC2 := hide (HC1.out.keep hb2 hs1)
  have hs2 := HC2.out.lt
  have HS := scope_any id secret url asked gr pg l s2 n2 c2 w2 hsat2 (by omega) HJ.out (HM.out.keep HB2.out) ha
  rw [← HX.out] at HS
  clear hb2 HT hsat2
  simp only at HS
  obtain ⟨xb, HXB⟩ : ∃ xb : ByteArray, Hid (xb = ⟨xs.toArray⟩) := ⟨_, hide rfl⟩
  rw [← HXB.out] at HS
  go_wp2_with fail
  refine HS.mono ?_
  rintro e w3 ⟨rfl, hb3⟩
  have HB3 : Hid (Below w.heap.size w w3) := HB2.out.trans (hb3.mono (by omega))
  have HC3 := hide (HC2.out.keep hb3 hs2)
  have hs3 := HC3.out.lt
  obtain ⟨d0, d1, d2, d3, d4, d5⟩ := HC3.out.cells
  have HL3 := live_true w3 (HM.out.keep HB3.out)
  have hsw := HB3.out.size
  clear hb3 HS
  by_cases h0 : asked.size = 0
  · have hask := empty_of h0
    subst hask
    have hX : (xs, er) = (joinS l, 0) := HX.out
    obtain ⟨rfl, rfl⟩ := Prod.mk.inj hX
    have HJD := joined_any n2 cp so l w3 HN.out (by omega) HJ.out (HR.out.keep HB3.out)
    rw [← HXB.out] at HJD
    clear hX h0 HX
    go_wp2_with (first | (go_at_call 14; refine (num_any _ _).mono ?_; rintro e wx ⟨rfl, rfl⟩) | (go_at_call 31; refine HJD.mono ?_; rintro e wx ⟨rfl, rfl⟩) | fail)
    refine HL3.mono ?_
    rintro e w6 ⟨rfl, hb6⟩
    go_wp2
    go_ret
    exact ⟨rfl, HB3.out.trans (hb6.mono (by omega))⟩
  · have hne := ne_of_size h0
    have HA : Hid (asked.data.toList ≠ []) := by intro h; apply h0; have := congrArg List.length h; simpa using this
    obtain ⟨r, e1, HO⟩ : ∃ r e1, Hid (scoOut asked.data.toList = (r, e1)) := ⟨_, _, rfl⟩
    have HXE : Hid ((xs, er) = if e1 = 0 then (if withinB r l = true then (joinS r, 0) else ([], 114)) else ([], 114)) := by show _ = _; rw [HX.out]; unfold scopeR; rw [if_neg HA.out, HO.out]
    clear h0
    by_cases hbad : e1 = 0 ∧ withinB r l = true
    · obtain ⟨rfl, hw⟩ := hbad
      have hX : (xs, er) = (joinS r, 0) := by rw [HXE.out, if_pos rfl, if_pos hw]
      obtain ⟨rfl, rfl⟩ := Prod.mk.inj hX
      obtain ⟨m, hm⟩ : ∃ m, m = r.length := ⟨_, rfl⟩
      have HMR : Hid (m = r.length) := hm
      have hm32 : m ≤ 32 := by have h32 : (scoOut asked.data.toList).1.length ≤ 32 := scoOut_len _; rw [HO.out] at h32; rw [hm]; exact h32
      have hxz : xb.size ≤ 9223372036854775807 := by
        have := join_out asked.data.toList
        rw [HO.out] at this
        rw [HXB.out, u_size (joinS r)]; simp only at this; omega
      have HS1 := rscopes_m xb r 0 m w3 (by rw [HXB.out]; exact sco_join HO.out) hm hxz
      have HW := hide hw
      clear hX HX HXE hm hw
      go_wp2_with (first | (go_at_call 14; refine (num_any _ _).mono ?_; rintro e wx ⟨rfl, rfl⟩) | fail)
      refine HS1.mono ?_
      rintro e w4 ⟨fo, fc, rfl, HO4⟩
      have HB4 : Hid (Below w.heap.size w w4) := HB3.out.trans (HO4.out.2.mono (by omega))
      have HR4 := hide HO4.out.1.row
      have HC4 := hide (HC3.out.keep HO4.out.2 hs3)
      have hs4 := HC4.out.lt
      have HS2 := rscopes_m asked r 0 m w4 HO.out HMR.out ha
      clear HO4 HS1
      go_wp2_with fail
      refine HS2.mono ?_
      rintro e w5 ⟨fo2, fc2, rfl, HO5⟩
      have HB5 : Hid (Below w.heap.size w w5) := HB4.out.trans (HO5.out.2.mono (by omega))
      have HR5 := hide (HR4.out.keep HO5.out.2)
      have HR6 := hide HO5.out.1.row
      have HC5 := hide (HC4.out.keep HO5.out.2 hs4)
      have hs5 := HB5.out.size
      obtain ⟨k0, k1, k2, k3, k4, k5⟩ := HC5.out.cells
      clear HO5 HS2
      have HW1 : ∀ q, _ := fun q => refWithin_any m n2 fc cp fo so r l (w5.drewN q) HMR.out HN.out (by omega) (by omega) (HR5.out.keep (below_drewN (Below.refl _ _) q)) ((HR.out.keep HB5.out).keep (below_drewN (Below.refl _ _) q))
      have HW2 : ∀ q, _ := fun q => refWithin_any m m fc fc2 fo fo2 r r (w5.drewN q) HMR.out HMR.out (by omega) (by omega) (HR5.out.keep (below_drewN (Below.refl _ _) q)) (HR6.out.keep (below_drewN (Below.refl _ _) q))
      have HW3 : ∀ q, _ := fun q => refWithin_any m m fc2 fc fo2 fo r r (w5.drewN q) HMR.out HMR.out (by omega) (by omega) (HR6.out.keep (below_drewN (Below.refl _ _) q)) (HR5.out.keep (below_drewN (Below.refl _ _) q))
      rw [HW.out] at HW1
      rw [within_self] at HW2 HW3
      go_wp2_with fail
      refine (HW1 0).mono ?_
      rintro e w6 ⟨rfl, q1, rfl⟩
      go_wp2_with fail
      refine (HW2 (q1)).mono ?_
      rintro e w7 ⟨rfl, q2, rfl⟩
      go_wp2_with fail
      refine (HW3 (q1 + q2)).mono ?_
      rintro e w8 ⟨rfl, q3, rfl⟩
      have HL := fun q => live_true (w5.drewN q) ((HM.out.keep HB5.out).keep (below_drewN (Below.refl _ _) q))
      go_wp2_with fail
      refine (HL _).mono ?_
      rintro e w9 ⟨rfl, hb9⟩
      have HB9 := hide ((below_drewN HB5.out (q1 + q2 + q3)).trans (hb9.mono (by show w.heap.size ≤ w5.heap.size; omega)))
      clear hb9 HL
      go_wp2
      go_ret
      exact ⟨rfl, HB9.out⟩
    · have hX : (xs, er) = ([], 114) := by
        rw [HXE.out]
        by_cases h1 : e1 = 0
        · rw [if_pos h1, if_neg (fun h => hbad ⟨h1, h⟩)]
        · rw [if_neg h1]
      obtain ⟨rfl, rfl⟩ := Prod.mk.inj hX
      have hxb : xb = { data := #[] } := HXB.out
      subst hxb
      clear hX HX HXE hbad HXB
      go_wp2_with (first | (go_at_call 14; refine (num_any _ _).mono ?_; rintro e wx ⟨rfl, rfl⟩) | fail)
      refine HL3.mono ?_
      rintro e w6 ⟨rfl, hb6⟩
      go_wp2
      go_ret
      exact ⟨rfl, HB3.out.trans (hb6.mono (by omega))⟩
end Go.Proofs.YtlhgjicichjbgabGreatDoor
