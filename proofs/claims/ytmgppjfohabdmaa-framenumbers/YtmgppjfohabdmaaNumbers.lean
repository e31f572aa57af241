/- The walk of the law FrameNumbers: every row of bytes and every number: it returns true and turns nothing old. -/
import Derived.Test.YtmgppjfohabdmaaUintRef
import Derived.Test.YtmgppjfohabdmaaAloneN
import Derived.Test.YtmgppjfohabdmaaSmall
namespace Go.Proofs.Ytmgppjfohabdmaa
open Go.RowKit

theorem not64 (c : Nat) (hc : c < 18446744073709551616) : bits BinOp.xor IntKind.u64 IntKind.u64.max (c : Int) = ((18446744073709551615 - c : Nat) : Int) := by
  rw [show IntKind.u64.max = ((18446744073709551615 : Nat) : Int) from by decide, u64_xor_nat _ _ (by omega) hc]
  congr 1
  apply Nat.eq_of_testBit_eq
  intro i
  rw [Nat.testBit_xor, show 18446744073709551615 - c = 2 ^ 64 - (c + 1) by omega, Nat.testBit_two_pow_sub_succ hc, show 18446744073709551615 = 2 ^ 64 - 1 by rfl, Nat.testBit_two_pow_sub_one]
  by_cases h : i < 64
  · simp [h]
  · have : c.testBit i = false := Nat.testBit_lt_two_pow (Nat.lt_of_lt_of_le hc (Nat.pow_le_pow_right (n := 2) (by decide) (show 64 ≤ i by omega)))
    simp [h, this]
theorem rest_member {w w' : World} {a b c : Option Nat} (B : Nat) (h : Rest w w' [a, b, c]) (hB : B ≤ w.heap.size) (ha : ∀ k, a = some k → B ≤ k) (hb : ∀ k, b = some k → B ≤ k) (hc : ∀ k, c = some k → B ≤ k) : Below B w w' :=
  h.below hB (fun k hk => by
    simp only [List.mem_cons, List.not_mem_nil, or_false] at hk
    rcases hk with hk | hk | hk
    · exact ha k hk.symm
    · exact hb k hk.symm
    · exact hc k hk.symm)
theorem rest_row3 {w w' : World} {a b c : Option Nat} {ao : Option Addr} {xs : List Nat} {L : Nat} (h : Rest w w' [a, b, c]) (hr : Row w ao xs) (hge : ∀ x, ao = some x → L ≤ x.block) (ha : ∀ k, a = some k → k < L) (hb : ∀ k, b = some k → k < L) (hc : ∀ k, c = some k → k < L) : Row w' ao xs :=
  h.row hr (fun x hx hk => by
    have hg := hge x hx
    simp only [List.mem_cons, List.not_mem_nil, or_false] at hk
    rcases hk with hk | hk | hk
    · have := ha _ hk.symm; omega
    · have := hb _ hk.symm; omega
    · have := hc _ hk.symm; omega)

set_option maxHeartbeats 1600000 in
set_option maxRecDepth 100000 in
theorem frameNumbers_walk (v cb : Nat) (bo : Option Addr) (xs : List Nat) (w : World) (hv : v < 18446744073709551616) (hl : xs.length ≤ 140737488351232) (hx : ∀ x ∈ xs, x < 256) (hb : Row w bo xs) :
    Calls Try.prog 3 #[.slice bo xs.length cb, .int .u64 (v : Int)] w fun e w' => e = .returned (.bool true) ∧ Below w.heap.size w w' := by
  have HX : Hid (∀ x ∈ xs, x < 256) := hx
  have HB : Hid (Row w bo xs) := hb
  obtain ⟨nv, hnv, hnv2⟩ : ∃ nv : Nat, bits BinOp.xor IntKind.u64 IntKind.u64.max (v : Int) = (nv : Int) ∧ nv < 18446744073709551616 := ⟨_, not64 v hv, by omega⟩
  obtain ⟨ps, HPS⟩ : ∃ ps, Hid (ps = xs ++ uenc v) := ⟨_, rfl⟩
  obtain ⟨qs, HQS⟩ : ∃ qs, Hid (qs = xs ++ uenc nv) := ⟨_, rfl⟩
  have HPB : Hid (∀ x ∈ ps, x < 256) := by show ∀ x ∈ ps, x < 256; rw [HPS.out]; exact lt_append hx (uenc_lt hv)
  have HQB : Hid (∀ x ∈ qs, x < 256) := by show ∀ x ∈ qs, x < 256; rw [HQS.out]; exact lt_append hx (uenc_lt hnv2)
  have hpl : ps.length + 64 ≤ 140737488355328 := by have := uenc_length v; rw [HPS.out, List.length_append]; omega
  have hql : qs.length + 64 ≤ 140737488355328 := by have := uenc_length nv; rw [HQS.out, List.length_append]; omega
  obtain ⟨rv, rk, re, hu⟩ : ∃ rv rk re, uread xs = (rv, rk, re) := ⟨_, _, _, rfl⟩
  have HUR : Hid (uread xs = (rv, rk, re)) := hu
  clear hx hb hu
  go_enter Try.func3, Try.ntmps3
  go_wp2_with fail
  refine (lent_row cb bo xs w hl HB.out).mono ?_
  rintro e w1 ⟨g, c1, rfl, h1⟩
  have hle1 := h1.out.1
  have hgl : g < w1.heap.size := h1.out.2.2.1
  have HF1 : Hid (Row w1 (some ⟨g, 0, none⟩) (xs ++ marks 64)) := h1.out.2.2.2.2.1
  have HL1 : Hid (Below w.heap.size w w1) := h1.out.2.2.2.2.2
  have hs1 := HL1.out.size
  clear h1
  go_wp2_with fail
  refine (putUint_any v xs.length c1 _ xs w1 hv rfl hl HF1.out.take).mono ?_
  rintro e w2 ⟨po, pn, pc, rfl, h2⟩
  have HM2 : Hid (Made w1 w2 po pn pc ps) := by show Made w1 w2 po pn pc ps; rw [HPS.out]; exact h2.out
  have HL2 : Hid (Below w1.heap.size w1 w2) := HM2.out.2.2.2.2
  have hs2 := HL2.out.size
  have HF2 : Hid (Row w2 (some ⟨g, 0, none⟩) (xs ++ marks 64)) := HF1.out.keep HL2.out
  clear h2 HF1
  go_wp2_with fail
  refine (putUint_any nv xs.length c1 _ xs w2 hnv2 rfl hl HF2.out.take).mono ?_
  rintro e w3 ⟨qo, qn, qc, rfl, h3⟩
  have HM3 : Hid (Made w2 w3 qo qn qc qs) := by show Made w2 w3 qo qn qc qs; rw [HQS.out]; exact h3.out
  have HL3 : Hid (Below w2.heap.size w2 w3) := HM3.out.2.2.2.2
  have hs3 := HL3.out.size
  have HF3 : Hid (Row w3 (some ⟨g, 0, none⟩) (xs ++ marks 64)) := HF2.out.keep HL3.out
  clear h3 HF2
  go_wp2_with fail
  refine (putUint_any v xs.length c1 _ xs w3 hv rfl hl HF3.out.take).mono ?_
  rintro e w4 ⟨ro, rn, rc, rfl, h4⟩
  have HM4 : Hid (Made w3 w4 ro rn rc ps) := by show Made w3 w4 ro rn rc ps; rw [HPS.out]; exact h4.out
  have HL4 : Hid (Below w3.heap.size w3 w4) := HM4.out.2.2.2.2
  have hs4 := HL4.out.size
  have HLw4 : Hid (Below w.heap.size w w4) := ((HL1.out.trans (HL2.out.mono hs1)).trans (HL3.out.mono (by omega))).trans (HL4.out.mono (by omega))
  clear h4
  go_wp2_with fail
  refine (refPutUint_any v xs.length cb bo xs w4 hv rfl hl (HB.out.keep HLw4.out)).mono ?_
  rintro e w5 ⟨so, sn, sc, rfl, h5⟩
  have HM5 : Hid (Made w4 w5 so sn sc ps) := by show Made w4 w5 so sn sc ps; rw [HPS.out]; exact h5.out
  have HL5 : Hid (Below w4.heap.size w4 w5) := HM5.out.2.2.2.2
  have hs5 := HL5.out.size
  have HLw5 : Hid (Below w.heap.size w w5) := HLw4.out.trans (HL5.out.mono (by omega))
  have HP5 : Hid (Row w5 po ps ∧ Own w5 w1.heap.size (.slice po pn pc) ps) := ⟨((HM2.out.2.2.1.keep HL3.out).keep HL4.out).keep HL5.out, ((HM2.out.2.2.2.1.keep HL3.out).keep HL4.out).keep HL5.out⟩
  have HQ5 : Hid (Row w5 qo qs ∧ Own w5 w2.heap.size (.slice qo qn qc) qs) := ⟨(HM3.out.2.2.1.keep HL4.out).keep HL5.out, (HM3.out.2.2.2.1.keep HL4.out).keep HL5.out⟩
  have HR5 : Hid (Row w5 ro ps ∧ Own w5 w3.heap.size (.slice ro rn rc) ps) := ⟨HM4.out.2.2.1.keep HL5.out, HM4.out.2.2.2.1.keep HL5.out⟩
  have HPL : Hid (∀ k, (Value.slice po pn pc).ownBlock = some k → k < w2.heap.size) := HM2.out.2.2.2.1.ltSize
  have HQL : Hid (∀ k, (Value.slice qo qn qc).ownBlock = some k → k < w3.heap.size) := HM3.out.2.2.2.1.ltSize
  have HRL : Hid (∀ k, (Value.slice ro rn rc).ownBlock = some k → k < w4.heap.size) := HM4.out.2.2.2.1.ltSize
  have HPN : Hid (pn = ps.length) := HM2.out.1
  have HQN : Hid (qn = qs.length) := HM3.out.1
  have HRN : Hid (rn = ps.length) := HM4.out.1
  have HF5 : Hid (Row w5 (some ⟨g, 0, none⟩) (xs ++ marks 64)) := (HF3.out.keep HL4.out).keep HL5.out
  clear h5 HM2 HM3 HM4 HF3 HL2 HL3 HL4 HLw4
  go_wp2_with fail
  refine (same_true' pn sn pc sc po so ps _ HPN.out HM5.out.1 HP5.out.1 HM5.out.2.2.1 HPB.out).mono ?_
  rintro e w' ⟨rfl, rfl⟩
  go_wp2_with fail
  refine (refPutUint_any nv xs.length cb bo xs _ hnv2 rfl hl (HB.out.keep HLw5.out)).mono ?_
  rintro e w6 ⟨to, tn, tc, rfl, h6⟩
  have HM6 : Hid (Made w' w6 to tn tc qs) := by show Made w' w6 to tn tc qs; rw [HQS.out]; exact h6.out
  have HL6 : Hid (Below w'.heap.size w' w6) := HM6.out.2.2.2.2
  have hs6 := HL6.out.size
  have HLw6 : Hid (Below w.heap.size w w6) := HLw5.out.trans (HL6.out.mono (by omega))
  have HP6 : Hid (Row w6 po ps ∧ Own w6 w1.heap.size (.slice po pn pc) ps) := ⟨HP5.out.1.keep HL6.out, HP5.out.2.keep HL6.out⟩
  have HQ6 : Hid (Row w6 qo qs ∧ Own w6 w2.heap.size (.slice qo qn qc) qs) := ⟨HQ5.out.1.keep HL6.out, HQ5.out.2.keep HL6.out⟩
  have HR6 : Hid (Row w6 ro ps ∧ Own w6 w3.heap.size (.slice ro rn rc) ps) := ⟨HR5.out.1.keep HL6.out, HR5.out.2.keep HL6.out⟩
  have HS6 : Hid (Row w6 so ps ∧ ∀ x, so = some x → w4.heap.size ≤ x.block) := ⟨HM5.out.2.2.1.keep HL6.out, fun x hx => HM5.out.2.2.2.1.ge x.block (by rw [hx]; rfl)⟩
  have HSN : Hid (sn = ps.length) := HM5.out.1
  have HF6 : Hid (Row w6 (some ⟨g, 0, none⟩) (xs ++ marks 64)) := HF5.out.keep HL6.out
  have HB6 : Hid (Row w6 bo xs) := HB.out.keep HLw6.out
  clear h6 HP5 HQ5 HR5 HM5 HF5 HL5 HLw5
  go_wp2_with fail
  refine (same_true' qn tn qc tc qo to qs _ HQN.out HM6.out.1 HQ6.out.1 HM6.out.2.2.1 HQB.out).mono ?_
  rintro e w7 ⟨rfl, rfl⟩
  go_wp2_with fail
  refine (same_true' rn sn rc sc ro so ps _ HRN.out HSN.out HR6.out.1 HS6.out.1 HPB.out).mono ?_
  rintro e w8 ⟨rfl, rfl⟩
  go_wp2_with fail
  refine (kept_true _ c1 cb g 0 bo xs _ hl rfl hle1 HF6.out HB6.out HX.out).mono ?_
  rintro e w9 ⟨rfl, rfl⟩
  go_wp2_with fail
  refine (uint_any xs.length c1 _ xs _ rfl hl HX.out HF6.out.take).mono ?_
  rintro e w10 ⟨rfl, rfl⟩
  rw [HUR.out]
  go_wp2_with fail
  refine (refUint_any xs.length cb bo xs _ rfl hl HX.out HB6.out).mono ?_
  rintro e w11 ⟨rfl, rfl⟩
  rw [HUR.out]
  have e1 : (((rv : Nat) : Int) != ((rv : Nat) : Int)) = false := by simp
  have e2 : (((rk : Nat) : Int) != ((rk : Nat) : Int)) = false := by simp
  have e3 : (((re : Nat) : Int) != ((re : Nat) : Int)) = false := by simp
  go_wp2_with (go_at_call 12; refine (num_any _ _).mono ?_; rintro e w12 ⟨rfl, rfl⟩)
  refine (kept_true _ c1 cb g 0 bo xs _ hl rfl hle1 HF6.out HB6.out HX.out).mono ?_
  rintro e w13 ⟨rfl, rfl⟩
  have hpn : pn + 64 ≤ 140737488355328 := by rw [HPN.out]; exact hpl
  have hqn : qn + 64 ≤ 140737488355328 := by rw [HQN.out]; exact hql
  have hrn : rn + 64 ≤ 140737488355328 := by rw [HRN.out]; exact hpl
  have HSEP : Hid ((∀ k, (Value.slice po pn pc).ownBlock = some k → (Value.slice qo qn qc).ownBlock ≠ some k ∧ (Value.slice ro rn rc).ownBlock ≠ some k) ∧ (∀ k, (Value.slice qo qn qc).ownBlock = some k → (Value.slice ro rn rc).ownBlock ≠ some k)) := by
    refine ⟨fun k hk => ⟨fun e => ?_, fun e => ?_⟩, fun k hk e => ?_⟩
    · have a := HPL.out k hk; have b := HQ6.out.2.ge k e; omega
    · have a := HPL.out k hk; have b := HR6.out.2.ge k e; omega
    · have a := HQL.out k hk; have b := HR6.out.2.ge k e; omega
  go_wp2_with fail
  refine (alone_three _ w1.heap.size pn pc qn qc rn rc po qo ro ps qs ps (by omega) HP6.out.2 (HQ6.out.2.lower hs2) (HR6.out.2.lower (by omega)) hpn hqn hrn HSEP.out.1 HSEP.out.2).mono ?_
  rintro e w14 ⟨rfl, h14⟩
  have hb14 := rest_member w1.heap.size h14.out (by omega) HP6.out.2.ge (fun k hk => Nat.le_trans hs2 (HQ6.out.2.ge k hk)) (fun k hk => Nat.le_trans (by omega) (HR6.out.2.ge k hk))
  have HL14 : Hid (Below w.heap.size w w14) := HLw6.out.trans (hb14.mono hs1)
  have HF14 : Hid (Row w14 (some ⟨g, 0, none⟩) (xs ++ marks 64)) := HF6.out.below hb14 (fun a ha => by cases ha; exact hgl)
  have HB14 : Hid (Row w14 bo xs) := HB.out.keep HL14.out
  have HS14 : Hid (Row w14 so ps) := rest_row3 h14.out HS6.out.1 HS6.out.2 (fun k hk => by have := HPL.out k hk; omega) (fun k hk => by have := HQL.out k hk; omega) HRL.out
  have hs14 := HL14.out.size
  clear h14 hb14 HP6 HQ6 HR6 HS6 HF6 HB6 HLw6 HSEP HPL HQL HRL HM6 HL6
  go_wp2_with fail
  refine (kept_true _ c1 cb g 0 bo xs _ hl rfl hle1 HF14.out HB14.out HX.out).mono ?_
  rintro e w15 ⟨rfl, rfl⟩
  go_wp2_with fail
  refine (putUint_any v xs.length cb bo xs _ hv rfl hl HB14.out).mono ?_
  rintro e w16 ⟨yo, yn, yc, rfl, h16⟩
  have HM16 : Hid (Made w15 w16 yo yn yc ps) := by show Made w15 w16 yo yn yc ps; rw [HPS.out]; exact h16.out
  have HL16 : Hid (Below w.heap.size w w16) := HL14.out.trans (HM16.out.2.2.2.2.mono hs14)
  have HS16 : Hid (Row w16 so ps) := HS14.out.keep HM16.out.2.2.2.2
  clear h16
  go_wp2_with fail
  refine (same_true' yn sn yc sc yo so ps _ HM16.out.1 HSN.out HM16.out.2.2.1 HS16.out HPB.out).mono ?_
  rintro e w17 ⟨rfl, rfl⟩
  go_wp2
  go_ret
  exact ⟨rfl, HL16.out⟩
end Go.Proofs.Ytmgppjfohabdmaa
