/- The walk of the law ClientFinds: every name in every list: true, and nothing old turns. -/
import Derived.Test.YtmmcgfikmcppfaaGreatDoorLLaws
import Derived.Test.YtmmcgfikmcppfaaGreatDoorLLive
namespace Go.Proofs.YtmmcgfikmcppfaaGreatDoor
open Go.RowKit

theorem COwn.row {w : World} {B n c : Nat} {ao : Option Addr} {l : List Cl} (h : COwn w B (.slice ao n c) l) : CRow w ao l := by
  obtain ⟨a, c', e, _, hr, _⟩ := h.shape
  cases e
  exact hr
theorem DOwn.row {w : World} {B n c : Nat} {ao : Option Addr} {l : List Cl} (h : DOwn w B (.slice ao n c) l) : CRow w ao l := by
  obtain ⟨a, c', e, _, hr, _⟩ := h.shape
  cases e
  exact hr
set_option maxHeartbeats 2000000 in
set_option maxRecDepth 100000 in
theorem clientFinds_walk (n c : Nat) (ao : Option Addr) (L : List Cl) (x : ByteArray) (w : World) (hn : n = L.length) (hl : n * 88 ≤ 140737488355328) (hr : CRow0 w ao L) (hz : ∀ c ∈ L, ClSmall c) (hz2 : ∀ c ∈ L, (c.scopes.length + 16) * 16 ≤ 140737488355328) (hM : MaxL w) :
    Calls Tryz.prog 5 #[.slice ao n c, .string x] w fun e w' => e = .returned (.bool true) ∧ Below w.heap.size w w' := by
  have HN : Hid (n = L.length) := hn
  have HR : Hid (CRow0 w ao L) := hr
  have HM : Hid (MaxL w) := hM
  have HZ : Hid (∀ c ∈ L, ClSmall c) := hz
  have HZ16 : Hid (∀ c ∈ L, c.scopes.length * 16 ≤ 140737488355328) := fun c hc => (hz c hc).2.2.2.1
  have HZL : Hid (∀ c ∈ L, c.scopes.length ≤ 140737488355328) := fun c hc => by have := (hz c hc).2.2.2.1; omega
  obtain ⟨R, HRR⟩ : ∃ R, Hid (R = findR L x) := ⟨_, hide rfl⟩
  have HQZ : Hid (((R.getD zeroCl).scopes.length + 16) * 16 ≤ 140737488355328) := by
    show _ ≤ _
    rw [HRR.out]
    unfold findR
    cases h : posOf L x with
    | none => show (zeroCl.scopes.length + 16) * 16 ≤ 140737488355328; decide
    | some i =>
      cases h2 : L[i]? with
      | none => simp only [Option.bind_some, h2]; decide
      | some c => simp only [Option.bind_some, h2]; exact hz2 c (List.mem_of_getElem? h2)
  have HC := lcopied_any n c ao L w hn hl HZ16.out hr
  clear hn hr hM hz hz2
  go_enter Tryz.func5, Tryz.ntmps5
  go_wp2_with fail
  refine HC.mono ?_
  rintro e w1 ⟨-, fo, fc, rfl, hown, hb1⟩
  have HB1 := hide hb1
  have HR1 := hide hown.row
  have hs1 := hb1.size
  have HF := find_own n fc fo L x w1 HN.out (by omega) hown.row HZ.out
  rw [← HRR.out] at HF
  clear hown hb1 HC
  go_wp2_with fail
  refine HF.mono ?_
  rintro e w2 ⟨-, q, so, m, cp, rfl, hq, hm, hown2, hb2⟩
  have HQ := hide hq
  have HMM := hide hm
  have HO2 := hide hown2
  have HB2 := hide hb2
  have hs2 := hb2.size
  have HX : Hid (Below w2.heap.size w2 (w2.alloc (.cells #[.string q.id, .string q.secret, .int .i64 q.grants, .bool q.ping, .string q.url, .slice so m cp] 43))) := below_new w2 _
  have HCX : Hid (C6 (w2.alloc (.cells #[.string q.id, .string q.secret, .int .i64 q.grants, .bool q.ping, .string q.url, .slice so m cp] 43)) w2.heap.size (.string q.id) (.string q.secret) (.int .i64 q.grants) (.bool q.ping) (.string q.url) (.slice so m cp)) := heap_alloc_new w2 _
  clear hq hm hown2 hb2 HF
  go_upto_region 3 with fail
  generalize (w2.alloc (.cells #[.string q.id, .string q.secret, .int .i64 q.grants, .bool q.ping, .string q.url, .slice so m cp] 43)) = w3 at *
  have hs3 := HCX.out.lt
  have HB3 : Hid (Below w.heap.size w w3) := (HB1.out.trans (HB2.out.mono hs1)).trans (HX.out.mono (by omega))
  have HAL := all_any n c ao L w3 HN.out hl HZ16.out (HR.out.keep HB3.out)
  have hs03 := HB3.out.size
  go_wp2_with fail
  refine HAL.mono ?_
  rintro e w4 ⟨-, go, gc, rfl, hdown, hb4⟩
  have HB4 := hide hb4
  have hs4 := hb4.size
  have HRF := rfind_any n gc go L x w4 HN.out (by omega) hdown.row
  rw [← HRR.out] at HRF
  clear hdown hb4 HAL
  go_wp2_with fail
  refine HRF.mono ?_
  rintro e w5 ⟨-, q2, so2, m2, cp2, rfl, hq2, hsat2, hb5⟩
  obtain rfl : q2 = q := by rw [← hq2, HQ.out]
  obtain rfl : m2 = m := by rw [hsat2.1, HMM.out]
  have HB5 := hide hb5
  have HS2 := hide hsat2
  have hs5 := hb5.size
  have HY : Hid (Below w5.heap.size w5 (w5.alloc (.cells #[.string q2.id, .string q2.secret, .int .i64 q2.grants, .bool q2.ping, .string q2.url, .slice so2 m2 cp2] 46))) := below_new w5 _
  have HDY : Hid (D6 (w5.alloc (.cells #[.string q2.id, .string q2.secret, .int .i64 q2.grants, .bool q2.ping, .string q2.url, .slice so2 m2 cp2] 46)) w5.heap.size (.string q2.id) (.string q2.secret) (.int .i64 q2.grants) (.bool q2.ping) (.string q2.url) (.slice so2 m2 cp2)) := heap_alloc_new w5 _
  clear hq2 hsat2 hb5 HRF
  go_upto_region 4 with fail
  generalize (w5.alloc (.cells #[.string q2.id, .string q2.secret, .int .i64 q2.grants, .bool q2.ping, .string q2.url, .slice so2 m2 cp2] 46)) = w6 at *
  have hs6 := HDY.out.lt
  have HB36 : Hid (Below w3.heap.size w3 w6) := (HB4.out.trans (HB5.out.mono hs4)).trans (HY.out.mono (by omega))
  have HC6 := hide (HCX.out.keep HB36.out hs3)
  have HO6 : Hid (SOwn w6 w1.heap.size (.slice so m2 cp) q2.scopes) := (HO2.out.keep HX.out).keep HB36.out
  obtain ⟨a0, a1, a2, a3, a4, a5⟩ := HC6.out.cells
  obtain ⟨d0, d1, d2, d3, d4, d5⟩ := HDY.out.cells
  have HSM := same_true q2.id q2.secret q2.url q2.grants q2.ping q2.scopes so so2 m2 cp cp2 w6 HMM.out (by have := HQZ.out; rw [HQ.out, ← HMM.out] at this; omega) HO6.out.row (HS2.out.keep HY.out).2.2.1
  generalize R.isSome = rb
  cases rb
  all_goals
    go_wp2_with fail
    refine HSM.mono ?_
    rintro e w7 ⟨rfl, hb7⟩
    have HB7 := hide hb7
    have hs7 := hb7.size
    have HC7 := hide (HC6.out.keep hb7 HC6.out.lt)
    have HO7 := hide (HO6.out.keep hb7)
    obtain ⟨t0, t1, t2, t3, t4, t5⟩ := HC7.out.cells
    have HV : Hid (Below w7.heap.size w7 (w7.alloc (.cells #[.string q2.id, .string q2.secret, .int .i64 q2.grants, .bool q2.ping, .string q2.url, .slice so m2 cp] 43))) := below_new w7 _
    have HCV : Hid (C6 (w7.alloc (.cells #[.string q2.id, .string q2.secret, .int .i64 q2.grants, .bool q2.ping, .string q2.url, .slice so m2 cp] 43)) w7.heap.size (.string q2.id) (.string q2.secret) (.int .i64 q2.grants) (.bool q2.ping) (.string q2.url) (.slice so m2 cp)) := heap_alloc_new w7 _
    have HSP := spoil_one w7.heap.size w1.heap.size m2 cp so q2.scopes _ _ _ _ _ _ HCV.out HMM.out (by have := HQZ.out; rw [HQ.out, ← HMM.out] at this; omega) (HO7.out.keep HV.out) (by omega)
    clear hb7
    go_wp2_with fail
    refine HSP.mono ?_
    rintro e w8 ⟨rfl, hb8⟩
    have HB18 : Hid (Below w1.heap.size w1 w8) := (((HB2.out.trans (HX.out.mono hs2)).trans (HB36.out.mono (by omega))).trans (HB7.out.mono (by omega))).trans ((HV.out.mono (by omega)).trans hb8)
    have HB8 : Hid (Below w.heap.size w w8) := HB1.out.trans (HB18.out.mono hs1)
    have hs8 := HB18.out.size
    have HA8 := all_any n c ao L w8 HN.out hl HZ16.out (HR.out.keep HB8.out)
    clear hb8 HSP
    go_wp2_with fail
    refine HA8.mono ?_
    rintro e w9 ⟨-, ho, hc, rfl, hdown9, hb9⟩
    have HB9 := hide hb9
    have hs9 := hb9.size
    have HLT := list_true n fc hc fo ho L w9 HN.out (by omega) HZL.out ((HR1.out.keep HB18.out).keep hb9) hdown9.row
    clear hdown9 hb9 HA8
    go_wp2_with fail
    refine HLT.mono ?_
    rintro e w10 ⟨rfl, hb10⟩
    have HB10 : Hid (Below w.heap.size w w10) := (HB8.out.trans (HB9.out.mono (by omega))).trans (hb10.mono (by omega))
    have HLV := live_true w10 (HM.out.keep HB10.out)
    have hs10 := HB10.out.size
    clear hb10 HLT
    go_wp2_with fail
    refine HLV.mono ?_
    rintro e w11 ⟨rfl, hb11⟩
    have HB11 := hide (HB10.out.trans (hb11.mono (by omega)))
    clear hb11
    go_wp2
    go_ret
    exact ⟨rfl, HB11.out⟩
end Go.Proofs.YtmmcgfikmcppfaaGreatDoor
