/- The walk of the law ClientShows: every proof, with every list of clients: true, and nothing old turns. -/
import Derived.Test.YtmmcgfikmcppfaaGreatDoorLAuthO
import Derived.Test.YtmmcgfikmcppfaaGreatDoorLForm
import Derived.Test.YtmmcgfikmcppfaaGreatDoorLLive
import Derived.BigQuiet
namespace Go.Proofs.YtmmcgfikmcppfaaGreatDoor
open Go.RowKit

theorem COwn.rowS {w : World} {B n c : Nat} {ao : Option Addr} {l : List Cl} (h : COwn w B (.slice ao n c) l) : CRow w ao l := by
  obtain ⟨a, c', e, _, hr, _⟩ := h.shape
  cases e
  exact hr
theorem DOwn.rowS {w : World} {B n c : Nat} {ao : Option Addr} {l : List Cl} (h : DOwn w B (.slice ao n c) l) : CRow w ao l := by
  obtain ⟨a, c', e, _, hr, _⟩ := h.shape
  cases e
  exact hr
theorem infoAP : (Tryz.prog.info? 63).map (fun i => (i.zero, i.size, i.bytes)) = some (some (.agg #[.string { data := #[] }, .string { data := #[] }]), 2, 32) := by kernel_rfl
theorem form_m (n c : Nat) (ao : Option Addr) (l : List Two) (w : World) (hn : n = l.length) (hl : n ≤ 4398046511104) (hr : PRow w ao l) :
    Calls Tryz.prog 28 #[.slice ao n c] w fun e w' => ∃ fo fc, e = .returned (.slice fo n fc) ∧ Hid (POwn 108 w' w.heap.size (.slice fo n fc) l ∧ Below w.heap.size w w') := by
  refine (form_any n c ao l w hn hl hr).mono ?_
  rintro e w' ⟨v, rfl, h⟩
  obtain ⟨fo, fc, rfl, _⟩ := h.out.1.shape
  rw [← hn] at h ⊢
  exact ⟨fo, fc, rfl, h⟩
/-- What the two lists of an answer may be. -/
def ClBound (L : List Cl) : Prop := ∀ c ∈ L, ClSmall c ∧ (c.scopes.length + 16) * 16 ≤ 140737488355328
theorem auth_cl {L : List Cl} {t : Clm} {c : Cl} (h : (authR L t).cl = some c) : c ∈ L := by
  unfold authR at h
  split at h
  · cases h
  · unfold authF at h
    cases hF : findR L t.nm with
    | none => rw [hF] at h; cases h
    | some q =>
      rw [hF] at h
      dsimp only at h
      have hq : q ∈ L := by
        unfold findR at hF
        cases hp : posOf L t.nm with
        | none => rw [hp] at hF; cases hF
        | some i =>
          rw [hp] at hF
          exact List.mem_of_getElem? hF
      split at h
      · injection h with h; rw [← h]; exact hq
      · cases h
set_option maxHeartbeats 4000000 in
set_option maxRecDepth 100000 in
theorem clientShows_walk (n c m d : Nat) (ao po : Option Addr) (L : List Cl) (l : List Two) (x : ByteArray) (w : World) (hn : n = L.length) (hl : n ≤ 1048576) (hr : CRow0 w ao L) (hz : ClBound L)
    (hm : m = l.length) (hml : m ≤ 1048576) (hp : PRow w po l) (hb : ∀ q ∈ l, bytes2 q) (hq : ∀ q ∈ l, q.2.length ≤ 1048576) (hM : MaxL w) :
    Calls Tryz.prog 7 #[.slice ao n c, .string x, .slice po m d] w fun e w' => e = .returned (.bool true) ∧ Below w.heap.size w w' := by
  have HN : Hid (n = L.length) := hn
  have HR : Hid (CRow0 w ao L) := hr
  have HM : Hid (MaxL w) := hM
  have HZS : Hid (∀ c ∈ L, ClSmall c) := fun c hc => (hz c hc).1
  have HZ16 : Hid (∀ c ∈ L, c.scopes.length * 16 ≤ 140737488355328) := fun c hc => by have := (hz c hc).2; omega
  have HZL : Hid (∀ c ∈ L, c.scopes.length ≤ 140737488355328) := fun c hc => by have := (hz c hc).2; omega
  have HML : Hid (m = l.length) := hm
  have HP : Hid (PRow w po l) := hp
  have HBY : Hid (∀ q ∈ l, bytes2 q) := hb
  have HQL : Hid (∀ q ∈ l, q.2.length ≤ 1048576) := hq
  obtain ⟨i0, hi, hz0, hz1, hz2⟩ := info_parts infoAP
  obtain ⟨t, HTT⟩ : ∃ t, Hid (t = claimT x l) := ⟨_, hide rfl⟩
  obtain ⟨R, HRR⟩ : ∃ R, Hid (R = authR L t) := ⟨_, hide rfl⟩
  have HQZ : Hid (((R.cl.getD zeroCl).scopes.length + 16) * 16 ≤ 140737488355328) := by
    show _ ≤ _
    cases h : R.cl with
    | none => show (zeroCl.scopes.length + 16) * 16 ≤ 140737488355328; decide
    | some c => exact (hz c (auth_cl (by rw [← HRR.out]; exact h))).2
  have HCF : Hid ((t.how = 0 ∨ t.how = 1 ∨ t.how = 2) ∧ t.sec.size ≤ 1048576) := by rw [HTT.out]; exact claimT_facts x l hq
  have HC := lcopied_any n c ao L w hn (by omega) HZ16.out hr
  clear hn hr hM hz hm hp hb hq
  go_enter Tryz.func7, Tryz.ntmps7
  go_wp2_with fail
  refine HC.mono ?_
  rintro e w1 ⟨-, fo, fc, rfl, hown, hb1⟩
  have HB1 := hide hb1
  have HR1 := hide hown.rowS
  have hs1 := hb1.size
  clear hown hb1 HC
  have HP1 := hide (HP.out.keep HB1.out)
  go_wp2_with (first | (at_builtin; refine wpList_append_pairs (i0 := i0) rfl _ _ rfl Tryz.underlying55 hi hz0 hz1 hz2 w1.heap.size _ [] l rfl (pown_new 63 w1 _ (Nat.le_refl _)) po m d HML.out rfl (HP1.out.keep (below_new w1 _)) (by rw [← HML.out]; simp; omega) (by simp) ?_) | fail)
  intro v2 w2 hown2 hgr2
  have HB2a : Hid (Below w1.heap.size w1 w2) := (below_new w1 _).grown hgr2 (by simp) (fun k hk => by simp [Value.ownBlock] at hk; omega)
  obtain ⟨qo, qc, rfl, hqc, hq2, -⟩ := hown2.shape
  rw [← HML.out] at hqc ⊢
  have HP2 := hide hq2
  have HB2 := hide (HB1.out.trans (HB2a.out.mono hs1))
  have hs2 := HB2a.out.size
  clear hown2 hgr2 hq2 hqc
  have HAU := auth_own n fc m qc fo qo L x t w2 HN.out (by omega) (HR1.out.keep HB2a.out) HZS.out (fun W hW => by rw [HTT.out]; exact claimT_any x m qc qo l W HML.out (by omega) HBY.out (fun q hq => by have := HQL.out q hq; omega) (HP2.out.keep hW) (HM.out.keep (HB2.out.trans (hW.mono HB2.out.size)))) HCF.out.1 (by have := HCF.out.2; omega)
  rw [← HRR.out] at HAU
  go_wp2_with fail
  refine HAU.mono ?_
  rintro e w3 ⟨-, B, q, so, k, cp, rfl, hqq, hBB, hkk, hown3, hb3⟩
  have HQ := hide hqq
  have HKK := hide hkk
  have HO3 := hide hown3
  have HB3 := hide hb3
  have HBB := hide hBB
  have hs3 := hb3.size
  have HX : Hid (Below w3.heap.size w3 (w3.alloc (.cells #[.string q.id, .string q.secret, .int .i64 q.grants, .bool q.ping, .string q.url, .slice so k cp] 43))) := below_new w3 _
  have HCX : Hid (C6 (w3.alloc (.cells #[.string q.id, .string q.secret, .int .i64 q.grants, .bool q.ping, .string q.url, .slice so k cp] 43)) w3.heap.size (.string q.id) (.string q.secret) (.int .i64 q.grants) (.bool q.ping) (.string q.url) (.slice so k cp)) := heap_alloc_new w3 _
  clear hqq hkk hown3 hb3 hBB HAU
  go_upto_region 4 with fail
  generalize (w3.alloc (.cells #[.string q.id, .string q.secret, .int .i64 q.grants, .bool q.ping, .string q.url, .slice so k cp] 43)) = w4 at *
  have hs4 := HCX.out.lt
  have HB4 : Hid (Below w.heap.size w w4) := (HB2.out.trans (HB3.out.mono (by omega))).trans (HX.out.mono (by omega))
  have HB24 : Hid (Below w2.heap.size w2 w4) := HB3.out.trans (HX.out.mono hs3)
  have HAL := all_any n c ao L w4 HN.out (by omega) HZ16.out (HR.out.keep HB4.out)
  have hs04 := HB4.out.size
  go_wp2_with fail
  refine HAL.mono ?_
  rintro e w5 ⟨-, go, gc, rfl, hdown, hb5⟩
  have HB5 := hide hb5
  have HD5 := hide hdown.rowS
  have hs5 := hb5.size
  clear hdown hb5 HAL
  have HFM := form_m m d po l w5 HML.out (by omega) (HP.out.keep (HB4.out.trans (HB5.out.mono hs04)))
  go_wp2_with fail
  refine HFM.mono ?_
  rintro e w6 ⟨ho, hc, rfl, hh⟩
  have HB6 := hide hh.out.2
  have HP6 := hide hh.out.1.row
  have hs6 := HB6.out.size
  clear hh HFM
  have HRA := rauth_any n gc m hc go ho L x l w6 HN.out (by omega) (HD5.out.keep HB6.out) HML.out (by omega) HBY.out HP6.out
  rw [← HTT.out, ← HRR.out] at HRA
  go_wp2_with fail
  refine HRA.mono ?_
  rintro e w7 ⟨-, q2, so2, k2, cp2, rfl, hq2, hsat2, hb7⟩
  obtain rfl : q2 = q := by rw [← hq2, HQ.out]
  obtain rfl : k2 = k := by rw [hsat2.1, HKK.out]
  have HB7 := hide hb7
  have HS7 := hide hsat2
  have hs7 := hb7.size
  have HY : Hid (Below w7.heap.size w7 (w7.alloc (.cells #[.string q2.id, .string q2.secret, .int .i64 q2.grants, .bool q2.ping, .string q2.url, .slice so2 k2 cp2] 46))) := below_new w7 _
  have HDY : Hid (D6 (w7.alloc (.cells #[.string q2.id, .string q2.secret, .int .i64 q2.grants, .bool q2.ping, .string q2.url, .slice so2 k2 cp2] 46)) w7.heap.size (.string q2.id) (.string q2.secret) (.int .i64 q2.grants) (.bool q2.ping) (.string q2.url) (.slice so2 k2 cp2)) := heap_alloc_new w7 _
  clear hq2 hsat2 hb7 HRA
  go_upto_region 5 with fail
  generalize (w7.alloc (.cells #[.string q2.id, .string q2.secret, .int .i64 q2.grants, .bool q2.ping, .string q2.url, .slice so2 k2 cp2] 46)) = w8 at *
  have hs8 := HDY.out.lt
  have HB48 : Hid (Below w4.heap.size w4 w8) := ((HB5.out.trans (HB6.out.mono hs5)).trans (HB7.out.mono (by omega))).trans (HY.out.mono (by omega))
  have HC8 := hide (HCX.out.keep HB48.out hs4)
  have HO8 : Hid (SOwn w8 B (.slice so k2 cp) q2.scopes) := (HO3.out.keep HX.out).keep HB48.out
  obtain ⟨a0, a1, a2, a3, a4, a5⟩ := HC8.out.cells
  obtain ⟨d0, d1, d2, d3, d4, d5⟩ := HDY.out.cells
  have HSM := same_true q2.id q2.secret q2.url q2.grants q2.ping q2.scopes so so2 k2 cp cp2 w8 HKK.out (by have := HQZ.out; rw [HQ.out, ← HKK.out] at this; omega) HO8.out.row (HS7.out.keep HY.out).2.2.1
  go_wp2_with fail
  refine (num_any _ _).mono ?_
  rintro e w9 ⟨rfl, hw9⟩
  have hw9b := hw9.symm
  subst hw9b
  clear hw9
  go_wp2_with fail
  refine HSM.mono ?_
  rintro e w9 ⟨rfl, hb9⟩
  have HB9 := hide hb9
  have hs9 := hb9.size
  have HC9 := hide (HC8.out.keep hb9 HC8.out.lt)
  have HO9 := hide (HO8.out.keep hb9)
  obtain ⟨t0, t1, t2, t3, t4, t5⟩ := HC9.out.cells
  have HV : Hid (Below w9.heap.size w9 (w9.alloc (.cells #[.string q2.id, .string q2.secret, .int .i64 q2.grants, .bool q2.ping, .string q2.url, .slice so k2 cp] 43))) := below_new w9 _
  have HCV : Hid (C6 (w9.alloc (.cells #[.string q2.id, .string q2.secret, .int .i64 q2.grants, .bool q2.ping, .string q2.url, .slice so k2 cp] 43)) w9.heap.size (.string q2.id) (.string q2.secret) (.int .i64 q2.grants) (.bool q2.ping) (.string q2.url) (.slice so k2 cp)) := heap_alloc_new w9 _
  have hB9 : B ≤ w9.heap.size := by have := HBB.out.2; omega
  have HSP := spoil_one w9.heap.size B k2 cp so q2.scopes _ _ _ _ _ _ HCV.out HKK.out (by have := HQZ.out; rw [HQ.out, ← HKK.out] at this; omega) (HO9.out.keep HV.out) hB9
  clear hb9 HSM
  go_wp2_with fail
  refine HSP.mono ?_
  rintro e w10 ⟨rfl, hb10⟩
  have HB210 : Hid (Below w2.heap.size w2 w10) := ((HB24.out.trans (HB48.out.mono (by omega))).trans (HB9.out.mono (by omega))).trans ((HV.out.mono (by omega)).trans (hb10.mono HBB.out.1))
  have HB10 : Hid (Below w.heap.size w w10) := HB2.out.trans (HB210.out.mono HB2.out.size)
  have HPA := hide (HP.out.keep HB10.out)
  have HPB := hide (HP2.out.keep HB210.out)
  have hs10 := HB10.out.size
  clear hb10 HSP
  go_wp2
  go_loopw [15] (fun i wr => ∃ k : Nat, k ≤ m ∧ i = .int .i64 (k : Int) ∧ ∃ q, wr = w10.drewN q) (fun i _ => m - (intOf i).toNat)
  case atStart => exact ⟨0, Nat.zero_le _, rfl, 0, rfl⟩
  case round =>
    obtain ⟨j, hj, rfl, dq, rfl⟩ := hrel
    by_cases hlt : j < m
    · obtain ⟨b, off, rfl⟩ := HPB.out.form (by rw [← HML.out]; omega)
      obtain ⟨b', off', rfl⟩ := HPA.out.form (by rw [← HML.out]; omega)
      obtain ⟨u, hu⟩ : ∃ u, l[j]? = some u := ⟨_, List.getElem?_eq_getElem (by rw [← HML.out]; exact hlt)⟩
      have c0 : w10.cell? ⟨b, off + j * 2, none⟩ = some (.string (bstr u.1)) := by have := (HPB.out.cell hu).1; rw [Nat.mul_comm] at this; exact this
      have c1 : w10.cell? ⟨b, off + j * 2 + 1, none⟩ = some (.string (bstr u.2)) := by have := (HPB.out.cell hu).2; rw [Nat.mul_comm] at this; exact this
      have c2 : w10.cell? ⟨b', off' + j * 2, none⟩ = some (.string (bstr u.1)) := by have := (HPA.out.cell hu).1; rw [Nat.mul_comm] at this; exact this
      have c3 : w10.cell? ⟨b', off' + j * 2 + 1, none⟩ = some (.string (bstr u.2)) := by have := (HPA.out.cell hu).2; rw [Nat.mul_comm] at this; exact this
      clear hu
      generalize bstr u.1 = s1 at *
      generalize bstr u.2 = s2 at *
      have li : (j : Int) < (m : Int) := by omega
      go_wp2
      go_quiet (fail)
      go_wp2
      go_roundw
      case rel => exact ⟨j + 1, by omega, by go_num, dq + nq, by simp [World.drewN]⟩
      case measure => simp [intOf]; omega
    · have HB11 : Hid (Below w.heap.size w (w10.drewN dq)) := below_drewN HB10.out dq
      have HB211 : Hid (Below w2.heap.size w2 (w10.drewN dq)) := below_drewN HB210.out dq
      generalize w10.drewN dq = w11 at *
      have hs11 := HB11.out.size
      have HA8 := all_any n c ao L w11 HN.out (by omega) HZ16.out (HR.out.keep HB11.out)
      go_wp2_with fail
      refine HA8.mono ?_
      rintro e w12 ⟨-, io, ic, rfl, hdown12, hb12⟩
      have HB12 := hide hb12
      have hs12 := hb12.size
      have HLT := list_true n fc ic fo io L w12 HN.out (by omega) HZL.out (((HR1.out.keep HB2a.out).keep HB211.out).keep hb12) hdown12.rowS
      clear hdown12 hb12 HA8
      go_wp2_with fail
      refine HLT.mono ?_
      rintro e w13 ⟨rfl, hb13⟩
      have HB13 : Hid (Below w.heap.size w w13) := (HB11.out.trans (HB12.out.mono hs11)).trans (hb13.mono (by omega))
      have HLV := live_true w13 (HM.out.keep HB13.out)
      have hs13 := HB13.out.size
      clear hb13 HLT
      go_wp2_with fail
      refine HLV.mono ?_
      rintro e w14 ⟨rfl, hb14⟩
      have HB14 := hide (HB13.out.trans (hb14.mono (by omega)))
      clear hb14
      go_wp2
      go_ret
      exact ⟨rfl, HB14.out⟩
end Go.Proofs.YtmmcgfikmcppfaaGreatDoor
