/- The walk of the law ClientWelcome: a client of the list gets in by its header and by its form, with its own secret alone: true, and nothing old turns. -/
import Derived.Test.YtghmabohodnbpaaGreatDoorLWelC
namespace Go.Proofs.YtghmabohodnbpaaGreatDoor
open Go.RowKit

set_option maxHeartbeats 20000000 in
set_option maxRecDepth 100000 in
theorem clientWelcome_walk (n c m d : Nat) (ao po : Option Addr) (L : List Cl) (N : Int) (sec x : ByteArray) (w : World) (hn : n = L.length) (hl : n ≤ 1048576) (hr : CRow0 w ao L) (hz : ClBound L) (hj : ∀ c ∈ L, (joinS c.scopes).length ≤ 140737488355328)
    (hsec : sec.size ≤ 1048576) (hM : MaxL w) :
    Calls Tryz.prog 6 #[.agg #[.slice ao n c, .int .i64 N, .string sec, .string x, .slice po m d]] w fun e w' => e = .returned (.bool true) ∧ Below w.heap.size w w' := by
  have HN : Hid (n = L.length) := hn
  have HR : Hid (CRow0 w ao L) := hr
  have HM : Hid (MaxL w) := hM
  have HZS : Hid (∀ c ∈ L, ClSmall c) := fun c hc => (hz c hc).1
  have HZ16 : Hid (∀ c ∈ L, c.scopes.length * 16 ≤ 140737488355328) := fun c hc => by have := (hz c hc).2; omega
  have HZL : Hid (∀ c ∈ L, c.scopes.length ≤ 140737488355328) := fun c hc => by have := (hz c hc).2; omega
  have HB0 : Hid (Below w.heap.size w (w.alloc (.cells #[.slice ao n c, .int .i64 N, .string sec, .string x, .slice po m d] 44))) := below_new w _
  have HT0 : Hid (T5 (w.alloc (.cells #[.slice ao n c, .int .i64 N, .string sec, .string x, .slice po m d] 44)) w.heap.size (.slice ao n c) (.int .i64 N) (.string sec) (.string x) (.slice po m d)) := heap_alloc_new w _
  have cC : ∀ W, Below w.heap.size w W → Calls Tryz.prog 13 #[.slice ao n c] W fun e w' => True ∧ COwnEnd W n L e w' := fun W hW => lcopied_any n c ao L W hn (by omega) HZ16.out (hr.keep hW)
  have HALL : Hid (∀ W, Below w.heap.size w W → Calls Tryz.prog 16 #[.slice ao n c] W fun e w' => True ∧ DOwnEnd W n L e w') := fun W hW => all_any n c ao L W HN.out (by omega) HZ16.out (HR.out.keep hW)
  have HJ : Hid (∀ c ∈ L, (joinS c.scopes).length ≤ 140737488355328) := hj
  clear hn hr hM hz hj
  go_enter Tryz.func6, Tryz.ntmps6
  go_upto_region 1 with fail
  generalize (w.alloc (.cells #[.slice ao n c, .int .i64 N, .string sec, .string x, .slice po m d] 44)) = w1 at *
  have hs1 := HT0.out.lt
  obtain ⟨c0, c1, c2, c3, c4⟩ := HT0.out.cells
  have hCC := cC w1 HB0.out
  clear cC
  go_wp2_with fail
  refine hCC.mono ?_
  rintro e wa ⟨-, fo, fc, rfl, hown, hba⟩
  have HRW := hide hown.rowS
  have HB1 := hide (HB0.out.trans (hba.mono (Nat.le_of_lt hs1)))
  have HT1 := hide (HT0.out.keep hba hs1)
  have hsa := HB1.out.size
  have hsa2 : w.heap.size < wa.heap.size := Nat.lt_of_lt_of_le hs1 hba.size
  obtain ⟨x0, x1, x2, x3, x4⟩ := HT1.out.cells
  have HLV := live_true wa (HM.out.keep HB1.out)
  clear hown hba hCC HT0 HB0 c0 c1 c2 c3 c4
  by_cases hn0 : n = 0
  · subst hn0
    go_wp2_with fail
    refine HLV.mono ?_
    rintro e w5 ⟨rfl, hb5⟩
    go_wp2
    go_ret
    exact ⟨rfl, HB1.out.trans (hb5.mono hsa)⟩
  by_cases hN0 : N < 0
  · have hni : ((n : Int) == 0) = false := by simp; omega
    go_wp2_with fail
    refine HLV.mono ?_
    rintro e w5 ⟨rfl, hb5⟩
    go_wp2
    go_ret
    exact ⟨rfl, HB1.out.trans (hb5.mono hsa)⟩
  have hni : ((n : Int) == 0) = false := by simp; omega
  go_wp2_with fail
  refine HLV.mono ?_
  rintro e w5 ⟨rfl, hb5⟩
  have HB5 := hide (HB1.out.trans (hb5.mono hsa))
  have HT5 := hide (HT1.out.keep hb5 hsa2)
  have HR5 := hide (HRW.out.keep hb5)
  have hs5 := HB5.out.size
  have hw5 : w.heap.size < w5.heap.size := Nat.lt_of_lt_of_le hsa2 hb5.size
  clear hb5 HLV HT1 HB1 HRW x0 x1 x2 x3 x4
  obtain ⟨x0, x1, x2, x3, x4⟩ := HT5.out.cells
  obtain ⟨i, hi⟩ : ∃ i, i = N.toNat % n := ⟨_, rfl⟩
  have hin : i < n := by rw [hi]; exact Nat.mod_lt _ (by omega)
  have hmd : N % (n : Int) = (i : Int) := by rw [hi, Int.natCast_emod, Int.toNat_of_nonneg (by omega)]
  have hmt : N.tmod (n : Int) = (i : Int) := by rw [Int.tmod_eq_emod_of_nonneg (by omega)]; exact hmd
  clear hi
  obtain ⟨b1, o1, rfl⟩ := HR5.out.form (by rw [← HN.out]; omega)
  obtain ⟨q, hq⟩ : ∃ q, L[i]? = some q := ⟨_, List.getElem?_eq_getElem (by rw [← HN.out]; exact hin)⟩
  have HQM := hide (List.mem_of_getElem? hq)
  obtain ⟨so, k, cp, e0, e1, e2, e3, e4, e5, hsq⟩ := HR5.out.cell hq
  have HSQ := hide hsq
  have hini : (i : Int) < (n : Int) := by omega
  clear hq hsq
  obtain ⟨q2, hf2, hid2⟩ := find_mem HQM.out
  obtain ⟨k2, hk2⟩ : ∃ k2, k2 = q2.scopes.length := ⟨_, rfl⟩
  have HF2 := hide hf2
  have HK2 : Hid (k2 = q2.scopes.length) := hk2
  have HID := hide hid2
  have HFND : Hid (∀ W go gc, CRow W go L → Calls Tryz.prog 17 #[.slice go n gc, .string q.id] W fun e w' => ∃ so2 cp2, e = .returned (.tuple #[.agg #[.string q2.id, .string q2.secret, .int .i64 q2.grants, .bool q2.ping, .string q2.url, .slice so2 k2 cp2], .bool true]) ∧ SAt w' so2 k2 cp2 q2.scopes ∧ Below W.heap.size W w') := fun W go gc hW => by
    refine (rfind_any n gc go L q.id W HN.out (by omega) hW).mono ?_
    rintro e w' ⟨-, q3, so2, k3, cp2, rfl, h2, hsat, hbb⟩
    rw [hf2] at h2 ⊢
    have h3 : q2 = q3 := h2
    subst h3
    obtain rfl : k3 = k2 := by rw [hsat.1, hk2]
    exact ⟨so2, cp2, rfl, hsat, hbb⟩
  have HB6a : Hid (Below w5.heap.size w5 (w5.alloc (.cells #[.string q.id, .string q.secret, .int .i64 q.grants, .bool q.ping, .string q.url, .slice so k cp] 47))) := below_new w5 _
  have HC6 : Hid (C6 (w5.alloc (.cells #[.string q.id, .string q.secret, .int .i64 q.grants, .bool q.ping, .string q.url, .slice so k cp] 47)) w5.heap.size (.string q.id) (.string q.secret) (.int .i64 q.grants) (.bool q.ping) (.string q.url) (.slice so k cp)) := heap_alloc_new w5 _
  clear hf2 hid2 hk2
  go_upto_region 5 with fail
  generalize (w5.alloc (.cells #[.string q.id, .string q.secret, .int .i64 q.grants, .bool q.ping, .string q.url, .slice so k cp] 47)) = w6 at *
  have HB6 := hide (HB5.out.trans (HB6a.out.mono hs5))
  have HT6 := hide (HT5.out.keep HB6a.out hw5)
  have HR6 := hide (HR5.out.keep HB6a.out)
  have HSQ6 := hide (HSQ.out.keep HB6a.out)
  generalize hg : w5.heap.size = g at *
  have hV6 := HC6.out.lt
  have hs6 := HB6.out.size
  have hw6 : w.heap.size < w6.heap.size := by omega
  have hwg : w.heap.size < g := hw5
  clear hg HB6a HB5 HT5 HR5 HSQ x0 x1 x2 x3 x4 e0 e1 e2 e3 e4 e5
  obtain ⟨x0, x1, x2, x3, x4⟩ := HT6.out.cells
  obtain ⟨y0, y1, y2, y3, y4, y5⟩ := HC6.out.cells
  have HACC : Hid (Below w6.heap.size w6 w6) := Below.refl _ _
  have nz0 : ¬ w6.heap.size = w.heap.size := by omega
  have nz1 : ¬ w.heap.size = w6.heap.size := by omega
  have nz2 : ¬ w6.heap.size = g := by omega
  have nz3 : ¬ g = w6.heap.size := by omega
  go_cut [5, 6] (fun v6 v7 wx => True ∧ GotDoc w6 q2 k2 v6 v7 wx)
  case first =>
    as_aux_lemma =>
      go_region_held_law (fun W => W.cell? ⟨w.heap.size, 0, none⟩ = some (.slice ao n c) ∧ W.cell? ⟨g, 0, none⟩ = some (.string q.id)) (go_keep) (first
        | (go_at_call 16
           refine (HALL.out _ (by refine HB6.out.trans (Below.mono ?_ hs6); repeat (first | exact HACC.out | refine bl_up ?_ _ | refine bl_drew ?_))).mono ?_
           rintro e wa ⟨-, go, gc, rfl, hdown, hba⟩
           have hacc := bl_go (u := w6) (by repeat (first | exact HACC.out | refine bl_up ?_ _ | refine bl_drew ?_)) hba
           have hsa := hacc.size
           have na0 : ¬ wa.heap.size = w.heap.size := (by omega)
           have na1 : ¬ w.heap.size = wa.heap.size := (by omega)
           have na2 : ¬ wa.heap.size = g := (by omega)
           have na3 : ¬ g = wa.heap.size := (by omega)
           first
             | (have hv : D6 wa w6.heap.size (.string { data := #[] }) (.string { data := #[] }) (.int .i64 0) (.bool false) (.string { data := #[] }) (.slice none 0 0) := by with_reducible exact D6.keep (dV0D w6) hba (dV0D w6).lt)
             | (have hv := trivial)
           have HACC := hide hacc
           have HV := hide hv
           have HDA := hide hdown.rowS
           clear hdown hba hacc hv
           obtain ⟨k0, k1, k2, k3, k4⟩ := (HT6.out.keep HACC.out hw6).cells
           obtain ⟨l0, l1, l2, l3, l4, l5⟩ := (HC6.out.keep HACC.out hV6).cells)
        | (go_at_call 17
           refine (HFND.out _ _ _ (by first | with_reducible exact HDA.out | exact HDA.out.keep (below_new _ _))).mono ?_
           rintro e w3 ⟨so2, cp2, rfl, hsat, hb3⟩
           have hacc := bl_go (u := w6) (by repeat (first | exact HACC.out | refine bl_up ?_ _ | refine bl_drew ?_)) hb3
           have hsw := hacc.size
           have nt0 : ¬ w3.heap.size = w.heap.size := (by omega)
           have nt1 : ¬ w.heap.size = w3.heap.size := (by omega)
           have nt2 : ¬ w3.heap.size = g := (by omega)
           have nt3 : ¬ g = w3.heap.size := (by omega)
           first
             | (have hv : D6 w3 wa.heap.size (.string { data := #[] }) (.string { data := #[] }) (.int .i64 0) (.bool false) (.string { data := #[] }) (.slice none 0 0) := by with_reducible exact D6.keep (dV0 wa) hb3 (dV0 wa).lt)
             | (have hv := D6.keep HV.out hb3 HV.out.lt)
             | (have hv := trivial)
           have HACC := hide hacc
           have HV := hide hv
           have HSAT := hide hsat
           clear hacc hv hsat hb3
           obtain ⟨k0, k1, k2, k3, k4⟩ := (HT6.out.keep HACC.out hw6).cells
           obtain ⟨l0, l1, l2, l3, l4, l5⟩ := (HC6.out.keep HACC.out hV6).cells
           first | (obtain ⟨o0, o1, o2, o3, o4, o5⟩ := HV.out.cells; obtain ⟨z0, z1, z2, z3, z4, z5⟩ := HV.out.thaw) | skip))
      all_goals
        (try go_wp2_with fail)
        go_meet
        case rel =>
          first
          | with_reducible exact ⟨trivial, docl_new HACC.out HSAT.out⟩
          | exact ⟨trivial, docl_old HACC.out HSAT.out HV.out (by omega)⟩
  case rest =>
    obtain ⟨-, V2, so2, cp2, rfl, rfl, hd6, hle, hrow2, hbd⟩ := hcut
    have HD := hide hd6
    have HR2 := hide hrow2
    have HB7 := hide (HB6.out.trans (hbd.mono hs6))
    have HT7 := hide (HT6.out.keep hbd hw6)
    have HC7 := hide (HC6.out.keep hbd hV6)
    have HS7 := hide (HSQ6.out.keep hbd)
    have HRW7 := hide (HR6.out.keep hbd)
    have hs7 := HB7.out.size
    have hw7 : w.heap.size < wc.heap.size := Nat.lt_of_lt_of_le hw6 hbd.size
    have hV7 := HC7.out.lt
    clear hd6 hrow2 hbd HB6 HT6 HC6 HSQ6 HR6 HACC x0 x1 x2 x3 x4 y0 y1 y2 y3 y4 y5 nz0 nz1 nz2 nz3 hV6 hs6 hw6 hle
    have hVV := HD.out.lt
    obtain ⟨y0, y1, y2, y3, y4, y5⟩ := HC7.out.cells
    have hzq := HZS.out q HQM.out
    have HOU := ours_any q.id q.secret q.url q.grants q.ping q.scopes so k cp wc HS7.out.1 (by rw [HS7.out.1]; exact HZ16.out q HQM.out) HS7.out.2.2.1
    go_wp2_with fail
    refine HOU.mono ?_
    rintro e w8 ⟨-, s8, k8, c8, rfl, hs8, -, hb8⟩
    have HCK := rcheck_any q.id q.secret q.url q.grants q.ping q.scopes s8 k8 c8 w8 hs8 (by rw [hs8.1]; exact HZL.out q HQM.out) (HJ.out q HQM.out) (by have := hzq.1; omega) (by have := hzq.2.1; omega) (by have := hzq.2.2.1; omega)
    have HB8 := hide hb8
    clear hs8 hb8 HOU hzq
    by_cases hck : checkB q = true
    rotate_left
    · have hE : errIf (checkB ⟨q.id, q.secret, q.grants, q.ping, q.url, q.scopes⟩) 111 = 111 := if_neg hck
      rw [hE] at HCK
      go_wp2_with fail
      refine HCK.mono ?_
      rintro e w9 ⟨rfl, hb9⟩
      have HB9 := hide (HB7.out.trans ((HB8.out.mono hs7).trans (hb9.mono (by have := HB8.out.size; omega))))
      clear hb9
      go_wp2
      go_ret
      exact ⟨rfl, HB9.out⟩
    have hE : errIf (checkB ⟨q.id, q.secret, q.grants, q.ping, q.url, q.scopes⟩) 111 = 0 := if_pos hck
    rw [hE] at HCK
    have HCKB := hide hck
    clear hE hck
    have hb8s := HB8.out.size
    go_wp2_with fail
    refine HCK.mono ?_
    rintro e w9 ⟨rfl, hb9⟩
    have HB79 : Hid (Below wc.heap.size wc w9) := HB8.out.trans (hb9.mono hb8s)
    have HB9 := hide (HB7.out.trans (HB79.out.mono hs7))
    have HC9 := hide (HC7.out.keep HB79.out hV7)
    have HD9 := hide (HD.out.keep HB79.out hVV)
    have HT9 := hide (HT7.out.keep HB79.out hw7)
    have HRW9 := hide (HRW7.out.keep HB79.out)
    have HSM := fun W (hW : Below w9.heap.size w9 W) => same_any q.id q.secret q.url q2.id q2.secret q2.url q.grants q2.grants q.ping q2.ping q.scopes q2.scopes so so2 k k2 cp cp2 W HS7.out.1 HK2.out (by rw [HS7.out.1]; exact HZL.out q HQM.out) (by rw [HK2.out]; exact HZL.out q2 (find_in HF2.out)) ((HS7.out.keep HB79.out).keep hW).2.2.1 ((HR2.out.keep HB79.out).keep hW)
    have hs9 := HB9.out.size
    have hw9 : w.heap.size < w9.heap.size := Nat.lt_of_lt_of_le hw7 HB79.out.size
    have hV9 := HC9.out.lt
    have hVV9 := HD9.out.lt
    clear hb9 HCK HB8 HB7 HT7 HC7 HRW7 HD y0 y1 y2 y3 y4 y5 hb8s
    obtain ⟨y0, y1, y2, y3, y4, y5⟩ := HC9.out.cells
    obtain ⟨z0, z1, z2, z3, z4, z5⟩ := HD9.out.cells
    have HSM9 := HSM w9 (Below.refl _ _)
    go_wp2_with fail
    refine HSM9.mono ?_
    rintro e wd ⟨rfl, hbd⟩
    clear HSM9
    by_cases hqq : q = q2
    rotate_left
    · rw [sameC_no (a := ⟨q.id, q.secret, q.grants, q.ping, q.url, q.scopes⟩) (b := ⟨q2.id, q2.secret, q2.grants, q2.ping, q2.url, q2.scopes⟩) hqq]
      have HBE := hide (HB9.out.trans (hbd.mono hs9))
      clear hbd
      go_wp2
      go_ret
      exact ⟨rfl, HBE.out⟩
    rw [sameC_yes (a := ⟨q.id, q.secret, q.grants, q.ping, q.url, q.scopes⟩) (b := ⟨q2.id, q2.secret, q2.grants, q2.ping, q2.url, q2.scopes⟩) hqq]
    subst hqq
    have HBD := hide (HB9.out.trans (hbd.mono hs9))
    have HCD := hide (HC9.out.keep hbd hV9)
    have HDD := hide (HD9.out.keep hbd hVV9)
    have HTD := hide (HT9.out.keep hbd hw9)
    have HRWD := hide (HRW9.out.keep hbd)
    have HB9D := hide hbd
    have hwd : w.heap.size < wd.heap.size := Nat.lt_of_lt_of_le hw9 hbd.size
    have hVD := HCD.out.lt
    have hVVD := HDD.out.lt
    have hsz := check_sizes HCKB.out
    obtain ⟨SA, SB, SC, SD, SF, SW, hSP⟩ := spell sch1 (by decide) q.id q.secret (by omega) (by omega)
    have HSP := hide hSP
    have sp1 := hSP.a1
    have sp2 := hSP.a2
    have sp3 : ∀ w, (Op.stringOp .add { data := #[66, 97, 115, 105, 99, 32] } SF).run Tryz.prog w = .ok (.string SW) w := hSP.a3
    obtain ⟨cf, wf, hcvs⟩ := conv_all SD
    have hcv : ∀ W, (convert 9 55 (.string SD)).run Tryz.prog W = .ok (.slice (some ⟨W.heap.size, 0, none⟩) SD.size (cf W)) (wf W) := fun W => (hcvs W).1
    have HCV : Hid (∀ W, Row (wf W) (some ⟨W.heap.size, 0, none⟩) (sbytes SD) ∧ Below W.heap.size W (wf W)) := fun W => (hcvs W).2
    clear hcvs
    clear hbd HB9 HC9 HD9 HT9 HRW9 y0 y1 y2 y3 y4 y5 z0 z1 z2 z3 z4 z5 hSP
    obtain ⟨x0, x1, x2, x3, x4⟩ := HTD.out.cells
    obtain ⟨y0, y1, y2, y3, y4, y5⟩ := HCD.out.cells
    go_upto_region 8 with fail
    have HACC : Hid (Below wd.heap.size wd wd) := Below.refl _ _
    have hswd := HBD.out.size
    go_cut [7] (fun v wx => True ∧ v = .string SW ∧ Below wd.heap.size wd wx)
    case first =>
      as_aux_lemma =>
        go_region_held_law (fun W => W.cell? ⟨g, 0, none⟩ = some (.string q.id) ∧ W.cell? ⟨g, 1, none⟩ = some (.string q.secret)) (first | go_keep | (refine ⟨cell_kept ?_ (HCV.out _).2, cell_kept ?_ (HCV.out _).2⟩ <;> first | assumption | go_keep)) (first
          | (go_at_call 22
             refine Calls.mono (by first | with_reducible exact HSP.out.e1 _ | with_reducible exact HSP.out.e2 _) ?_
             rintro e wa ⟨rfl, hba⟩
             have hacc := bl_go (u := wd) (by repeat (first | exact HACC.out | exact bl_up HACC.out _ | exact bl_drew HACC.out | refine bl_up ?_ _ | refine bl_drew ?_)) hba
             have HACC := hide hacc
             clear hba hacc
             obtain ⟨k0, k1, k2', k3, k4⟩ := (HTD.out.keep HACC.out hwd).cells
             obtain ⟨l0, l1, l2, l3, l4, l5⟩ := (HCD.out.keep HACC.out hVD).cells)
          | (go_at_call 21
             refine (HSP.out.bc _ _ _ (HCV.out _).1).mono ?_
             rintro e wb ⟨rfl, hbb⟩
             have hbb := Below.trans (HCV.out _).2 (hbb.mono (HCV.out _).2.size)
             have hacc := bl_go (u := wd) (by repeat (first | exact HACC.out | exact bl_up HACC.out _ | exact bl_drew HACC.out | refine bl_up ?_ _ | refine bl_drew ?_)) hbb
             have HACC := hide hacc
             clear hbb hacc
             obtain ⟨k0, k1, k2', k3, k4⟩ := (HTD.out.keep HACC.out hwd).cells
             obtain ⟨l0, l1, l2, l3, l4, l5⟩ := (HCD.out.keep HACC.out hVD).cells))
        all_goals
          (try go_wp2_with fail)
          go_meet
          case rel => exact ⟨trivial, rfl, by first | exact HACC.out | exact bl_drew HACC.out⟩
    case rest =>
      obtain ⟨-, rfl, hbx⟩ := hcut
      obtain ⟨we, rfl⟩ : ∃ we, we = wc := ⟨_, rfl⟩
      have HBE := hide (HBD.out.trans (hbx.mono hswd))
      have HTE := hide (HTD.out.keep hbx hwd)
      have HCE := hide (HCD.out.keep hbx hVD)
      have HDE := hide (HDD.out.keep hbx hVVD)
      have HRE := hide (HRWD.out.keep hbx)
      have HB9E := hide (HB9D.out.trans (hbx.mono HB9D.out.size))
      have HSW : Hid (SW = bstr (wordT sch1 q.id q.secret)) := HSP.out.is
      have hwe : w.heap.size < we.heap.size := Nat.lt_of_lt_of_le hwd hbx.size
      have hVE := HCE.out.lt
      have hVVE := HDE.out.lt
      have hswe := HBE.out.size
      clear hbx HBD HTD HCD HDD HRWD HB9D HSP sp1 sp2 sp3 hcv HCV x0 x1 x2 x3 x4 y0 y1 y2 y3 y4 y5 HACC
      obtain ⟨SA2, SB2, SC2, SD2, SF2, SW2, hSP2⟩ := spell sch2 (by decide) q.id sec (by omega) (by omega)
      have HSP := hide hSP2
      have sp1 := hSP2.a1
      have sp2 := hSP2.a2
      have sp3 : ∀ w, (Op.stringOp .add { data := #[98, 97, 115, 105, 99, 32, 32] } SF2).run Tryz.prog w = .ok (.string SW2) w := hSP2.a3
      obtain ⟨cf2, wf2, hcvs⟩ := conv_all SD2
      have hcv : ∀ W, (convert 9 55 (.string SD2)).run Tryz.prog W = .ok (.slice (some ⟨W.heap.size, 0, none⟩) SD2.size (cf2 W)) (wf2 W) := fun W => (hcvs W).1
      have HCV : Hid (∀ W, Row (wf2 W) (some ⟨W.heap.size, 0, none⟩) (sbytes SD2) ∧ Below W.heap.size W (wf2 W)) := fun W => (hcvs W).2
      clear hcvs hSP2
      obtain ⟨x0, x1, x2, x3, x4⟩ := HTE.out.cells
      obtain ⟨y0, y1, y2, y3, y4, y5⟩ := HCE.out.cells
      go_upto_region 9 with fail
      have HACC : Hid (Below we.heap.size we we) := Below.refl _ _
      go_cut [8] (fun v wx => True ∧ v = .string SW2 ∧ Below we.heap.size we wx)
      case first =>
        as_aux_lemma =>
          go_region_held_law (fun W => W.cell? ⟨g, 0, none⟩ = some (.string q.id) ∧ W.cell? ⟨w.heap.size, 2, none⟩ = some (.string sec)) (first | go_keep | (refine ⟨cell_kept ?_ (HCV.out _).2, cell_kept ?_ (HCV.out _).2⟩ <;> first | assumption | go_keep)) (first
            | (go_at_call 22
               refine Calls.mono (by first | with_reducible exact HSP.out.e1 _ | with_reducible exact HSP.out.e2 _) ?_
               rintro e wa ⟨rfl, hba⟩
               have hacc := bl_go (u := we) (by repeat (first | exact HACC.out | exact bl_up HACC.out _ | exact bl_drew HACC.out | refine bl_up ?_ _ | refine bl_drew ?_)) hba
               have HACC := hide hacc
               clear hba hacc
               obtain ⟨k0, k1, k2', k3, k4⟩ := (HTE.out.keep HACC.out hwe).cells
               obtain ⟨l0, l1, l2, l3, l4, l5⟩ := (HCE.out.keep HACC.out hVE).cells)
            | (go_at_call 21
               refine (HSP.out.bc _ _ _ (HCV.out _).1).mono ?_
               rintro e wb ⟨rfl, hbb⟩
               have hbb := Below.trans (HCV.out _).2 (hbb.mono (HCV.out _).2.size)
               have hacc := bl_go (u := we) (by repeat (first | exact HACC.out | exact bl_up HACC.out _ | exact bl_drew HACC.out | refine bl_up ?_ _ | refine bl_drew ?_)) hbb
               have HACC := hide hacc
               clear hbb hacc
               obtain ⟨k0, k1, k2', k3, k4⟩ := (HTE.out.keep HACC.out hwe).cells
               obtain ⟨l0, l1, l2, l3, l4, l5⟩ := (HCE.out.keep HACC.out hVE).cells))
          all_goals
            (try go_wp2_with fail)
            go_meet
            case rel => exact ⟨trivial, rfl, by first | exact HACC.out | exact bl_drew HACC.out⟩
      case rest =>
        obtain ⟨-, rfl, hbx⟩ := hcut
        obtain ⟨wf, rfl⟩ : ∃ wf, wf = wc := ⟨_, rfl⟩
        have HBF := hide (HBE.out.trans (hbx.mono hswe))
        have HTF := hide (HTE.out.keep hbx hwe)
        have HCF := hide (HCE.out.keep hbx hVE)
        have HDF := hide (HDE.out.keep hbx hVVE)
        have HRF := hide (HRE.out.keep hbx)
        have HB9F := hide (HB9E.out.trans (hbx.mono HB9E.out.size))
        have HSW2 : Hid (SW2 = bstr (wordT sch2 q.id sec)) := HSP.out.is
        have hwf : w.heap.size < wf.heap.size := Nat.lt_of_lt_of_le hwe hbx.size
        have hVF := HCF.out.lt
        have hVVF := HDF.out.lt
        have hswf := HBF.out.size
        clear hbx HBE HTE HCE HDE HRE HB9E HSP sp1 sp2 sp3 hcv HCV x0 x1 x2 x3 x4 y0 y1 y2 y3 y4 y5 HACC
        obtain ⟨r1, hr1⟩ : ∃ r, r = authR L (claimT SW []) := ⟨_, rfl⟩
        obtain ⟨r2, hr2⟩ : ∃ r, r = authR L (claimT { data := #[] } [(nId, sbytes q.id), (nSec, sbytes q.secret)]) := ⟨_, rfl⟩
        obtain ⟨r3, hr3⟩ : ∃ r, r = authR L (claimT SW2 [(nId, sbytes q.id)]) := ⟨_, rfl⟩
        obtain ⟨r4, hr4⟩ : ∃ r, r = authR L (claimT { data := #[] } [(nSec, sbytes sec), (nId, sbytes q.id)]) := ⟨_, rfl⟩
        have hid0 : q.id.size ≠ 0 := by omega
        have hidz : q.id.size ≤ 1048576 := by omega
        have hsez : q.secret.size ≤ 1048576 := by omega
        have hTOLD := told L q HF2.out hid0 sec SW SW2 HSW.out HSW2.out
        rw [← hr1, ← hr2, ← hr3, ← hr4] at hTOLD
        obtain ⟨c1, h1, er1⟩ := r1
        obtain ⟨c2, h2, er2⟩ := r2
        obtain ⟨c3, h3, er3⟩ := r3
        obtain ⟨c4, h4, er4⟩ := r4
        have HTOLD := hide hTOLD
        have HA1 : Hid (∀ W fo2 gc, CRow W (some ⟨b1, o1, none⟩) L → PRow W fo2 [] → MaxL W → Calls Tryz.prog 23 #[.slice (some ⟨b1, o1, none⟩) n fc, .string SW, .slice fo2 0 gc] W fun e w' => True ∧ AuthEnd W c1 h1 er1 e w') := fun W fo2 gc hc hp hm => auth_of n _ 0 gc _ fo2 L SW q.id sec [] c1 h1 er1 hr1.symm W HN.out (by omega) hc HZS.out (.inl rfl) hidz hsec rfl hp hm
        have HA2 : Hid (∀ W fo2 gc, CRow W (some ⟨b1, o1, none⟩) L → PRow W fo2 [(nId, sbytes q.id), (nSec, sbytes q.secret)] → MaxL W → Calls Tryz.prog 23 #[.slice (some ⟨b1, o1, none⟩) n fc, .string { data := #[] }, .slice fo2 2 gc] W fun e w' => True ∧ AuthEnd W c2 h2 er2 e w') := fun W fo2 gc hc hp hm => auth_of n _ 2 gc _ fo2 L { data := #[] } q.id q.secret _ c2 h2 er2 hr2.symm W HN.out (by omega) hc HZS.out (.inr (.inr (.inl rfl))) hidz hsez rfl hp hm
        have HA3 : Hid (∀ W fo2 gc, CRow W (some ⟨b1, o1, none⟩) L → PRow W fo2 [(nId, sbytes q.id)] → MaxL W → Calls Tryz.prog 23 #[.slice (some ⟨b1, o1, none⟩) n fc, .string SW2, .slice fo2 1 gc] W fun e w' => True ∧ AuthEnd W c3 h3 er3 e w') := fun W fo2 gc hc hp hm => auth_of n _ 1 gc _ fo2 L SW2 q.id sec _ c3 h3 er3 hr3.symm W HN.out (by omega) hc HZS.out (.inr (.inl rfl)) hidz hsec rfl hp hm
        have HA4 : Hid (∀ W fo2 gc, CRow W (some ⟨b1, o1, none⟩) L → PRow W fo2 [(nSec, sbytes sec), (nId, sbytes q.id)] → MaxL W → Calls Tryz.prog 23 #[.slice (some ⟨b1, o1, none⟩) n fc, .string { data := #[] }, .slice fo2 2 gc] W fun e w' => True ∧ AuthEnd W c4 h4 er4 e w') := fun W fo2 gc hc hp hm => auth_of n _ 2 gc _ fo2 L { data := #[] } q.id sec _ c4 h4 er4 hr4.symm W HN.out (by omega) hc HZS.out (.inr (.inr (.inr rfl))) hidz hsec rfl hp hm
        clear hr1 hr2 hr3 hr4 hTOLD HSW HSW2 hid0
        obtain ⟨y0, y1, y2, y3, y4, y5⟩ := HCF.out.cells
        have HPG : Hid (P2 (wf.alloc (.cells #[.string { data := #[99, 108, 105, 101, 110, 116, 95, 105, 100] }, .string q.id] 58)) wf.heap.size (.string { data := #[99, 108, 105, 101, 110, 116, 95, 105, 100] }) (.string q.id)) := heap_alloc_new wf _
        have hbg : Below wf.heap.size wf (wf.alloc (.cells #[.string { data := #[99, 108, 105, 101, 110, 116, 95, 105, 100] }, .string q.id] 58)) := below_new wf _
        go_upto_region 11 with fail
        generalize (wf.alloc (.cells #[.string { data := #[99, 108, 105, 101, 110, 116, 95, 105, 100] }, .string q.id] 58)) = wg at *
        have HWG : Hid (WB w (some ⟨b1, o1, none⟩) L g V2 wf.heap.size _ _ _ _ _ _ _ _ _ _ _ _ _ _ _ _ _ _ _ so2 q.scopes wg) := ⟨HBF.out.trans (hbg.mono hswf), HTF.out.keep hbg hwf, HCF.out.keep hbg hVF, HDF.out.keep hbg hVVF, HPG.out, HRF.out.keep hbg, (HR2.out.keep HB79.out).keep (HB9F.out.trans (hbg.mono HB9F.out.size))⟩
        generalize hgp : wf.heap.size = gp at *
        clear hgp HBF HTF HCF HDF HRF HPG hbg hwf hVF hVVF hswf HB9F y0 y1 y2 y3 y4 y5
        have t2 := HWG.out.t.cells.2.2.1
        obtain ⟨y0, y1, y2, y3, y4, y5⟩ := HWG.out.c.cells
        obtain ⟨u0, u1⟩ := HWG.out.p.cells
        have hAA := HA1.out wg none 0 HWG.out.r (.inl rfl) (HM.out.keep HWG.out.bel)
        go_wp2_with fail
        refine hAA.mono ?_
        rintro e wh ⟨-, z1, s1, n1, p1, rfl, hz1, hn1, hs1, hb1⟩
        have hWW := HWG.out.keep hb1
        have HKC1 := hide hz1
        have HNK1 := hide hn1
        have hbx1 : Below wh.heap.size wh (wh.alloc (.cells #[.string z1.id, .string z1.secret, .int .i64 z1.grants, .bool z1.ping, .string z1.url, .slice s1 n1 p1] 47)) := below_new _ _
        have hx1 : C6 (wh.alloc (.cells #[.string z1.id, .string z1.secret, .int .i64 z1.grants, .bool z1.ping, .string z1.url, .slice s1 n1 p1] 47)) wh.heap.size (.string z1.id) (.string z1.secret) (.int .i64 z1.grants) (.bool z1.ping) (.string z1.url) (.slice s1 n1 p1) := heap_alloc_new _ _
        have HXN := hide hx1
        clear hAA hz1 hn1 hx1 t2 y0 y1 y2 y3 y4 y5 u0 u1
        go_upto_region 12 with fail
        generalize (wh.alloc (.cells #[.string z1.id, .string z1.secret, .int .i64 z1.grants, .bool z1.ping, .string z1.url, .slice s1 n1 p1] 47)) = v1 at *
        have HW1 := hide (hWW.keep hbx1)
        have HX1 := HXN
        have HSX1 := hide (hs1.keep hbx1)
        generalize wh.heap.size = g1 at *
        clear hWW hs1 hb1 hbx1 HXN HWG
        have t2 := HW1.out.t.cells.2.2.1
        obtain ⟨y0, y1, y2, y3, y4, y5⟩ := HW1.out.c.cells
        obtain ⟨u0, u1⟩ := HW1.out.p.cells
        have hba2 : Below v1.heap.size v1 (v1.alloc (.cells #[.string { data := #[99, 108, 105, 101, 110, 116, 95, 105, 100] }, .string q.id, .string { data := #[99, 108, 105, 101, 110, 116, 95, 115, 101, 99, 114, 101, 116] }, .string q.secret] 58)) := below_new _ _
        have hAA := HA2.out (v1.alloc (.cells #[.string { data := #[99, 108, 105, 101, 110, 116, 95, 105, 100] }, .string q.id, .string { data := #[99, 108, 105, 101, 110, 116, 95, 115, 101, 99, 114, 101, 116] }, .string q.secret] 58)) (some ⟨v1.heap.size, 0, none⟩) 2 (HW1.out.keep hba2).r (prow_two v1 q.id q.secret) (HM.out.keep (HW1.out.keep hba2).bel)
        go_wp2_with fail
        refine hAA.mono ?_
        rintro e wi ⟨-, z2, s2, n2, p2, rfl, hz2, hn2, hs2, hb2⟩
        have hWW := (HW1.out.keep hba2).keep hb2
        have HX1 := hide ((HX1.out.keep hba2 HX1.out.lt).keep hb2 (HX1.out.keep hba2 HX1.out.lt).lt)
        have HSX1 := hide ((HSX1.out.keep hba2).keep hb2)
        have HKC2 := hide hz2
        have HNK2 := hide hn2
        have hbx2 : Below wi.heap.size wi (wi.alloc (.cells #[.string z2.id, .string z2.secret, .int .i64 z2.grants, .bool z2.ping, .string z2.url, .slice s2 n2 p2] 47)) := below_new _ _
        have hx2 : C6 (wi.alloc (.cells #[.string z2.id, .string z2.secret, .int .i64 z2.grants, .bool z2.ping, .string z2.url, .slice s2 n2 p2] 47)) wi.heap.size (.string z2.id) (.string z2.secret) (.int .i64 z2.grants) (.bool z2.ping) (.string z2.url) (.slice s2 n2 p2) := heap_alloc_new _ _
        have HXN := hide hx2
        clear hAA hz2 hn2 hx2 t2 y0 y1 y2 y3 y4 y5 u0 u1
        go_upto_region 13 with fail
        generalize (wi.alloc (.cells #[.string z2.id, .string z2.secret, .int .i64 z2.grants, .bool z2.ping, .string z2.url, .slice s2 n2 p2] 47)) = v2 at *
        have HW2 := hide (hWW.keep hbx2)
        have HX1 := hide (HX1.out.keep hbx2 HX1.out.lt)
        have HSX1 := hide (HSX1.out.keep hbx2)
        have HX2 := HXN
        have HSX2 := hide (hs2.keep hbx2)
        generalize wi.heap.size = g2 at *
        clear hWW hs2 hb2 hbx2 HXN HW1 hba2
        have t2 := HW2.out.t.cells.2.2.1
        obtain ⟨y0, y1, y2, y3, y4, y5⟩ := HW2.out.c.cells
        obtain ⟨u0, u1⟩ := HW2.out.p.cells
        have hba3 : Below v2.heap.size v2 (v2.alloc (.cells #[.string { data := #[99, 108, 105, 101, 110, 116, 95, 105, 100] }, .string q.id] 58)) := below_new _ _
        have hAA := HA3.out (v2.alloc (.cells #[.string { data := #[99, 108, 105, 101, 110, 116, 95, 105, 100] }, .string q.id] 58)) (some ⟨v2.heap.size, 0, none⟩) 1 (HW2.out.keep hba3).r (prow_one v2 q.id) (HM.out.keep (HW2.out.keep hba3).bel)
        go_wp2_with fail
        refine hAA.mono ?_
        rintro e wj ⟨-, z3, s3, n3, p3, rfl, hz3, hn3, hs3, hb3⟩
        have hWW := (HW2.out.keep hba3).keep hb3
        have HX1 := hide ((HX1.out.keep hba3 HX1.out.lt).keep hb3 (HX1.out.keep hba3 HX1.out.lt).lt)
        have HSX1 := hide ((HSX1.out.keep hba3).keep hb3)
        have HX2 := hide ((HX2.out.keep hba3 HX2.out.lt).keep hb3 (HX2.out.keep hba3 HX2.out.lt).lt)
        have HSX2 := hide ((HSX2.out.keep hba3).keep hb3)
        have HKC3 := hide hz3
        have HNK3 := hide hn3
        have hbx3 : Below wj.heap.size wj (wj.alloc (.cells #[.string z3.id, .string z3.secret, .int .i64 z3.grants, .bool z3.ping, .string z3.url, .slice s3 n3 p3] 47)) := below_new _ _
        have hx3 : C6 (wj.alloc (.cells #[.string z3.id, .string z3.secret, .int .i64 z3.grants, .bool z3.ping, .string z3.url, .slice s3 n3 p3] 47)) wj.heap.size (.string z3.id) (.string z3.secret) (.int .i64 z3.grants) (.bool z3.ping) (.string z3.url) (.slice s3 n3 p3) := heap_alloc_new _ _
        have HXN := hide hx3
        clear hAA hz3 hn3 hx3 t2 y0 y1 y2 y3 y4 y5 u0 u1
        go_upto_region 14 with fail
        generalize (wj.alloc (.cells #[.string z3.id, .string z3.secret, .int .i64 z3.grants, .bool z3.ping, .string z3.url, .slice s3 n3 p3] 47)) = v3 at *
        have HW3 := hide (hWW.keep hbx3)
        have HX1 := hide (HX1.out.keep hbx3 HX1.out.lt)
        have HSX1 := hide (HSX1.out.keep hbx3)
        have HX2 := hide (HX2.out.keep hbx3 HX2.out.lt)
        have HSX2 := hide (HSX2.out.keep hbx3)
        generalize wj.heap.size = g3 at *
        clear hWW hs3 hb3 hbx3 HXN HW2 hba3
        have t2 := HW3.out.t.cells.2.2.1
        obtain ⟨y0, y1, y2, y3, y4, y5⟩ := HW3.out.c.cells
        obtain ⟨u0, u1⟩ := HW3.out.p.cells
        have hba4 : Below v3.heap.size v3 (v3.alloc (.cells #[.string { data := #[99, 108, 105, 101, 110, 116, 95, 115, 101, 99, 114, 101, 116] }, .string sec, .string { data := #[99, 108, 105, 101, 110, 116, 95, 105, 100] }, .string q.id] 58)) := below_new _ _
        have hAA := HA4.out (v3.alloc (.cells #[.string { data := #[99, 108, 105, 101, 110, 116, 95, 115, 101, 99, 114, 101, 116] }, .string sec, .string { data := #[99, 108, 105, 101, 110, 116, 95, 105, 100] }, .string q.id] 58)) (some ⟨v3.heap.size, 0, none⟩) 2 (HW3.out.keep hba4).r (prow_two2 v3 q.id sec) (HM.out.keep (HW3.out.keep hba4).bel)
        go_wp2_with fail
        refine hAA.mono ?_
        rintro e wk ⟨-, z4, s4, n4, p4, rfl, hz4, hn4, hs4, hb4⟩
        have hWW := (HW3.out.keep hba4).keep hb4
        have HX1 := hide ((HX1.out.keep hba4 HX1.out.lt).keep hb4 (HX1.out.keep hba4 HX1.out.lt).lt)
        have HSX1 := hide ((HSX1.out.keep hba4).keep hb4)
        have HX2 := hide ((HX2.out.keep hba4 HX2.out.lt).keep hb4 (HX2.out.keep hba4 HX2.out.lt).lt)
        have HSX2 := hide ((HSX2.out.keep hba4).keep hb4)
        have HKC4 := hide hz4
        have HNK4 := hide hn4
        have hbx4 : Below wk.heap.size wk (wk.alloc (.cells #[.string z4.id, .string z4.secret, .int .i64 z4.grants, .bool z4.ping, .string z4.url, .slice s4 n4 p4] 47)) := below_new _ _
        have hx4 : C6 (wk.alloc (.cells #[.string z4.id, .string z4.secret, .int .i64 z4.grants, .bool z4.ping, .string z4.url, .slice s4 n4 p4] 47)) wk.heap.size (.string z4.id) (.string z4.secret) (.int .i64 z4.grants) (.bool z4.ping) (.string z4.url) (.slice s4 n4 p4) := heap_alloc_new _ _
        have HXN := hide hx4
        clear hAA hz4 hn4 hx4 t2 y0 y1 y2 y3 y4 y5 u0 u1
        go_upto_region 15 with fail
        generalize (wk.alloc (.cells #[.string z4.id, .string z4.secret, .int .i64 z4.grants, .bool z4.ping, .string z4.url, .slice s4 n4 p4] 47)) = v4 at *
        have HW4 := hide (hWW.keep hbx4)
        have HX1 := hide (HX1.out.keep hbx4 HX1.out.lt)
        have HSX1 := hide (HSX1.out.keep hbx4)
        have HX2 := hide (HX2.out.keep hbx4 HX2.out.lt)
        have HSX2 := hide (HSX2.out.keep hbx4)
        generalize wk.heap.size = g4 at *
        clear hWW hs4 hb4 hbx4 HXN HW3 hba4
        obtain ⟨x0, x1, x2, x3, x4⟩ := HW4.out.t.cells
        obtain ⟨y0, y1, y2, y3, y4, y5⟩ := HW4.out.c.cells
        by_cases hL1 : 1024 < SW.size
        · have hL1i : (1024 : Int) < (SW.size : Int) := by omega
          have hbl := HW4.out.bel
          go_wp2
          go_ret
          exact ⟨rfl, hbl⟩
        have hL1i : ¬ (1024 : Int) < (SW.size : Int) := by omega
        by_cases hL2 : 1024 < SW2.size
        · have hL2i : (1024 : Int) < (SW2.size : Int) := by omega
          have hbl := HW4.out.bel
          go_wp2
          go_ret
          exact ⟨rfl, hbl⟩
        have hL2i : ¬ (1024 : Int) < (SW2.size : Int) := by omega
        obtain ⟨e1, e3⟩ := HTOLD.out.own (by omega) (by omega)
        have e2 := HTOLD.out.two
        have e4 := HTOLD.out.four
        have HSQ : Hid (∀ W s n' p', Below v4.heap.size v4 W → SRow W s q.scopes → n' = q.scopes.length → Calls Tryz.prog 20 #[.agg #[.string q.id, .string q.secret, .int .i64 q.grants, .bool q.ping, .string q.url, .slice s n' p'], .agg #[.string q.id, .string q.secret, .int .i64 q.grants, .bool q.ping, .string q.url, .slice so2 k2 cp2]] W fun e w' => e = .returned (.bool true) ∧ Below W.heap.size W w') := fun W s n' p' hW hs hn' => by
          have hzl := HZL.out q (find_in HF2.out)
          have := same_any q.id q.secret q.url q.id q.secret q.url q.grants q.grants q.ping q.ping q.scopes q.scopes s so2 n' k2 p' cp2 W hn' HK2.out (by rw [hn']; exact hzl) (by rw [HK2.out]; exact hzl) hs (HW4.out.s.keep hW)
          rw [sameC_yes rfl] at this
          exact this
        have HACC : Hid (Below v4.heap.size v4 v4) := Below.refl _ _
        obtain ⟨d0, d1, d2, d3, d4, d5⟩ := HW4.out.d.cells
        clear HTOLD HA1 HA2 HA3 HA4 HFND HSM
        by_cases hz : q.secret.size = 0
        · have hz0 : ¬ 0 < q.secret.size := by omega
          rw [if_neg hz0] at e1
          rw [if_neg (fun h => hz0 h.1)] at e3
          rw [if_pos hz] at e2
          injection e1 with a1 a2 a3
          injection e2 with a4 a5 a6
          injection e3 with a7 a8 a9
          subst a1 a2 a3 a4 a5 a6 a7 a8 a9
          have hz2 : z2 = q := HKC2.out.symm
          rw [hz2] at HX2 HSX2 HNK2
          obtain ⟨l0, l1, l2, l3, l4, l5⟩ := HX2.out.cells
          have HS2 : Hid (∀ W, Below v4.heap.size v4 W → Calls Tryz.prog 20 #[.agg #[.string q.id, .string q.secret, .int .i64 q.grants, .bool q.ping, .string q.url, .slice s2 n2 p2], .agg #[.string q.id, .string q.secret, .int .i64 q.grants, .bool q.ping, .string q.url, .slice so2 k2 cp2]] W fun e w' => e = .returned (.bool true) ∧ Below W.heap.size W w') := fun W hW => HSQ.out W s2 n2 p2 hW (HSX2.out.keep hW) HNK2.out
          have hq0 : (q.secret.toList == ([] : List UInt8)) = true := by rw [empty_of hz, Lib.toList_data]; rfl
          clear hz2 HSQ HX1 HSX1 HKC1 HKC2 HNK1
          by_cases hq : sec = q.secret
          · rw [if_pos hq, if_pos (by rw [hq]; exact hz)] at e4
            injection e4 with b1' b2' b3'
            subst b1' b2' b3'
            have ht : (sec.toList == ([] : List UInt8)) = true := by rw [hq]; exact hq0
            clear hq
            go_upto_region 18 with fail
            go_region_held3 (fun W => W.cell? ⟨w.heap.size, 2, none⟩ = some (.string sec) ∧ W.cell? ⟨g2, 0, none⟩ = some (.string q.id) ∧ W.cell? ⟨g2, 1, none⟩ = some (.string q.secret) ∧ W.cell? ⟨g2, 2, none⟩ = some (.int .i64 q.grants) ∧ W.cell? ⟨g2, 3, none⟩ = some (.bool q.ping) ∧ W.cell? ⟨g2, 4, none⟩ = some (.string q.url) ∧ W.cell? ⟨g2, 5, none⟩ = some (.slice s2 n2 p2) ∧ W.cell? ⟨V2, 0, none⟩ = some (.string q.id) ∧ W.cell? ⟨V2, 1, none⟩ = some (.string q.secret) ∧ W.cell? ⟨V2, 2, none⟩ = some (.int .i64 q.grants) ∧ W.cell? ⟨V2, 3, none⟩ = some (.bool q.ping) ∧ W.cell? ⟨V2, 4, none⟩ = some (.string q.url) ∧ W.cell? ⟨V2, 5, none⟩ = some (.slice so2 k2 cp2)) (go_keep) (first | (go_at_call 9; refine (num_any _ _).mono ?_; rintro e wx ⟨rfl, rfl⟩) | (go_at_call 20; refine (HS2.out _ (by first | exact HACC.out | exact bl_drew HACC.out)).mono ?_; rintro e wy ⟨rfl, hby⟩; have HNW : Hid (Below v4.heap.size v4 wy) := (by first | exact acc_drew HACC.out hby | exact acc_step HACC.out hby); clear HACC hby; have HACC := HNW; clear HNW; obtain ⟨x0, x1, x2, x3, x4⟩ := (HW4.out.keep HACC.out).t.cells; obtain ⟨y0, y1, y2, y3, y4, y5⟩ := (HW4.out.keep HACC.out).c.cells; obtain ⟨d0, d1, d2, d3, d4, d5⟩ := (HW4.out.keep HACC.out).d.cells; obtain ⟨l0, l1, l2, l3, l4, l5⟩ := (HX2.out.keep HACC.out HX2.out.lt).cells))
            go_wp2
            go_ret
            exact ⟨rfl, HW4.out.bel.trans (HACC.out.mono HW4.out.bel.size)⟩
          · rw [if_neg hq] at e4
            injection e4 with b1' b2' b3'
            subst b1' b2' b3'
            have ht : (sec.toList == ([] : List UInt8)) = false := by
              have hs0 : sec.size ≠ 0 := fun h => hq (by rw [empty_of h, empty_of hz])
              exact ne_of_size hs0
            clear hq
            go_upto_region 18 with fail
            go_region_held3 (fun W => W.cell? ⟨w.heap.size, 2, none⟩ = some (.string sec) ∧ W.cell? ⟨g2, 0, none⟩ = some (.string q.id) ∧ W.cell? ⟨g2, 1, none⟩ = some (.string q.secret) ∧ W.cell? ⟨g2, 2, none⟩ = some (.int .i64 q.grants) ∧ W.cell? ⟨g2, 3, none⟩ = some (.bool q.ping) ∧ W.cell? ⟨g2, 4, none⟩ = some (.string q.url) ∧ W.cell? ⟨g2, 5, none⟩ = some (.slice s2 n2 p2) ∧ W.cell? ⟨V2, 0, none⟩ = some (.string q.id) ∧ W.cell? ⟨V2, 1, none⟩ = some (.string q.secret) ∧ W.cell? ⟨V2, 2, none⟩ = some (.int .i64 q.grants) ∧ W.cell? ⟨V2, 3, none⟩ = some (.bool q.ping) ∧ W.cell? ⟨V2, 4, none⟩ = some (.string q.url) ∧ W.cell? ⟨V2, 5, none⟩ = some (.slice so2 k2 cp2)) (go_keep) (first | (go_at_call 9; refine (num_any _ _).mono ?_; rintro e wx ⟨rfl, rfl⟩) | (go_at_call 20; refine (HS2.out _ (by first | exact HACC.out | exact bl_drew HACC.out)).mono ?_; rintro e wy ⟨rfl, hby⟩; have HNW : Hid (Below v4.heap.size v4 wy) := (by first | exact acc_drew HACC.out hby | exact acc_step HACC.out hby); clear HACC hby; have HACC := HNW; clear HNW; obtain ⟨x0, x1, x2, x3, x4⟩ := (HW4.out.keep HACC.out).t.cells; obtain ⟨y0, y1, y2, y3, y4, y5⟩ := (HW4.out.keep HACC.out).c.cells; obtain ⟨d0, d1, d2, d3, d4, d5⟩ := (HW4.out.keep HACC.out).d.cells; obtain ⟨l0, l1, l2, l3, l4, l5⟩ := (HX2.out.keep HACC.out HX2.out.lt).cells))
            go_wp2
            go_ret
            exact ⟨rfl, HW4.out.bel.trans (HACC.out.mono HW4.out.bel.size)⟩
        · have hz0 : 0 < q.secret.size := by omega
          rw [if_pos hz0] at e1
          rw [if_neg hz] at e2
          injection e1 with a1 a2 a3
          injection e2 with a4 a5 a6
          subst a1 a2 a3 a4 a5 a6
          have hz1 : z1 = q := HKC1.out.symm
          have hz2 : z2 = q := HKC2.out.symm
          rw [hz1] at HX1 HSX1 HNK1
          rw [hz2] at HX2 HSX2 HNK2
          obtain ⟨l0, l1, l2, l3, l4, l5⟩ := HX2.out.cells
          obtain ⟨m0, m1, m2, m3, m4, m5⟩ := HX1.out.cells
          have HS1 : Hid (∀ W, Below v4.heap.size v4 W → Calls Tryz.prog 20 #[.agg #[.string q.id, .string q.secret, .int .i64 q.grants, .bool q.ping, .string q.url, .slice s1 n1 p1], .agg #[.string q.id, .string q.secret, .int .i64 q.grants, .bool q.ping, .string q.url, .slice so2 k2 cp2]] W fun e w' => e = .returned (.bool true) ∧ Below W.heap.size W w') := fun W hW => HSQ.out W s1 n1 p1 hW (HSX1.out.keep hW) HNK1.out
          have HS2 : Hid (∀ W, Below v4.heap.size v4 W → Calls Tryz.prog 20 #[.agg #[.string q.id, .string q.secret, .int .i64 q.grants, .bool q.ping, .string q.url, .slice s2 n2 p2], .agg #[.string q.id, .string q.secret, .int .i64 q.grants, .bool q.ping, .string q.url, .slice so2 k2 cp2]] W fun e w' => e = .returned (.bool true) ∧ Below W.heap.size W w') := fun W hW => HSQ.out W s2 n2 p2 hW (HSX2.out.keep hW) HNK2.out
          have hq0 : (q.secret.toList == ([] : List UInt8)) = false := ne_of_size hz
          clear hz1 hz2 HSQ HKC1 HKC2
          go_upto_region 19 with fail
          go_wp2_with (first | (go_at_call 9; refine (num_any _ _).mono ?_; rintro e wx ⟨rfl, hwx⟩; have hwy := hwx.symm; subst hwy; clear hwx))
          refine (HS1.out _ HACC.out).mono ?_
          rintro e wy ⟨rfl, hby⟩
          clear m0 m1 m2 m3 m4 m5
          have HNW : Hid (Below v4.heap.size v4 wy) := HACC.out.trans (hby.mono HACC.out.size)
          clear HACC hby
          have HACC := HNW
          clear HNW x0 x1 x2 x3 x4 y0 y1 y2 y3 y4 y5 d0 d1 d2 d3 d4 d5 l0 l1 l2 l3 l4 l5
          obtain ⟨x0, x1, x2, x3, x4⟩ := (HW4.out.keep HACC.out).t.cells
          obtain ⟨y0, y1, y2, y3, y4, y5⟩ := (HW4.out.keep HACC.out).c.cells
          obtain ⟨d0, d1, d2, d3, d4, d5⟩ := (HW4.out.keep HACC.out).d.cells
          obtain ⟨l0, l1, l2, l3, l4, l5⟩ := (HX2.out.keep HACC.out HX2.out.lt).cells
          go_wp2_with (first | (go_at_call 9; refine (num_any _ _).mono ?_; rintro e wx ⟨rfl, hwx⟩; have hwy := hwx.symm; subst hwy; clear hwx))
          refine (HS2.out _ HACC.out).mono ?_
          rintro e wz ⟨rfl, hby⟩
          have HNW : Hid (Below v4.heap.size v4 wz) := HACC.out.trans (hby.mono HACC.out.size)
          clear HACC hby
          have HACC := HNW
          clear HNW x0 x1 x2 x3 x4 y0 y1 y2 y3 y4 y5 d0 d1 d2 d3 d4 d5 l0 l1 l2 l3 l4 l5
          obtain ⟨x0, x1, x2, x3, x4⟩ := (HW4.out.keep HACC.out).t.cells
          obtain ⟨y0, y1, y2, y3, y4, y5⟩ := (HW4.out.keep HACC.out).c.cells
          obtain ⟨d0, d1, d2, d3, d4, d5⟩ := (HW4.out.keep HACC.out).d.cells
          obtain ⟨l0, l1, l2, l3, l4, l5⟩ := (HX2.out.keep HACC.out HX2.out.lt).cells
          by_cases hq : sec = q.secret
          · rw [if_pos ⟨hz0, hq⟩] at e3
            rw [if_pos hq, if_neg (by rw [hq]; exact hz)] at e4
            injection e3 with a7 a8 a9
            injection e4 with b1' b2' b3'
            subst a7 a8 a9 b1' b2' b3'
            have ht : (sec.toList == q.secret.toList) = true := by rw [str_eq, decide_eq_true hq]
            clear hq
            go_upto_region 21 with fail
            go_region_held3 (fun W => W.cell? ⟨w.heap.size, 2, none⟩ = some (.string sec) ∧ W.cell? ⟨g, 1, none⟩ = some (.string q.secret)) (go_keep) (first | (go_at_call 9; refine (num_any _ _).mono ?_; rintro e wx ⟨rfl, rfl⟩))
            go_wp2
            go_ret
            exact ⟨by simp, HW4.out.bel.trans ((bl_drew HACC.out).mono HW4.out.bel.size)⟩
          · rw [if_neg (fun h => hq h.2)] at e3
            rw [if_neg hq] at e4
            injection e3 with a7 a8 a9
            injection e4 with b1' b2' b3'
            subst a7 a8 a9 b1' b2' b3'
            have ht : (sec.toList == q.secret.toList) = false := by rw [str_eq, decide_eq_false hq]
            clear hq
            go_upto_region 21 with fail
            go_region_held3 (fun W => W.cell? ⟨w.heap.size, 2, none⟩ = some (.string sec) ∧ W.cell? ⟨g, 1, none⟩ = some (.string q.secret)) (go_keep) (first | (go_at_call 9; refine (num_any _ _).mono ?_; rintro e wx ⟨rfl, rfl⟩))
            go_wp2
            go_ret
            exact ⟨by simp, HW4.out.bel.trans ((bl_drew HACC.out).mono HW4.out.bel.size)⟩
end Go.Proofs.YtghmabohodnbpaaGreatDoor
