/- The walk of the law DigestOwn: for every row of bytes and every text it returns true and turns nothing old; the tables of roots are a condition. -/
import Derived.Test.YtjdglpfjemoodabDoorCopyFn
import Derived.Test.YtjdglpfjemoodabDoorAloneE
import Derived.Test.YtjdglpfjemoodabDoorFromHexFn
import Derived.Test.YtjdglpfjemoodabDoorCodesFn
import Derived.Test.YtjdglpfjemoodabDoorRefTotal
import Derived.Test.YtjdglpfjemoodabDoorLive2
import Derived.Test.YtjdglpfjemoodabDoorArrEq
import Derived.Test.YtjdglpfjemoodabDoorSmallOwn
import Derived.Test.YtjdglpfjemoodabDoorAppText
namespace Go.Proofs.YtjdglpfjemoodabDoor
open Go.RowKit

theorem Own.row' {w : World} {B n c : Nat} {ao : Option Addr} {xs : List Nat} (h : Own w B (.slice ao n c) xs) : Row w ao xs := by
  obtain ⟨a', c', e, _, r⟩ := h.read
  cases e
  exact r

set_option maxHeartbeats 8000000 in
set_option maxRecDepth 100000 in
theorem digestOwn_walk (n cap : Nat) (ao : Option Addr) (xs : List Nat) (s : ByteArray) (w : World) (hl : n ≤ 1048576) (hn : n = xs.length) (hx : ∀ x ∈ xs, x < 256) (hr : Row w ao xs) (hT : Roots w 0) (hT1 : Roots w 1) :
    Calls Tryd.prog 5 #[.slice ao n cap, .string s] w fun e w' => e = .returned (.bool true) ∧ Below w.heap.size w w' := by
  have HN : Hid (n = xs.length) := hn
  have HX : Hid (∀ x ∈ xs, x < 256) := hx
  have HR : Hid (Row w ao xs) := hr
  have HT : Hid (Roots w 0) := hT
  have HT1 : Hid (Roots w 1) := hT1
  have h00 := hT.lt
  obtain ⟨t1, ht1⟩ : ∃ t, t = bstr (b64of xs) := ⟨_, rfl⟩
  have HF1 : Hid (t1.size ≤ 65536 → fb64 (sbytes t1) = (xs, 0, 0)) := fun h => by
    have e : sbytes t1 = b64of xs := by rw [ht1]; exact sbytes_bstr (b64of_lt hx)
    rw [e]; exact fb64_b64of xs hx (by rw [← e, sbytes_length]; exact h)
  have HT3 : Hid (bstr (b64of xs) = t1) := ht1.symm
  obtain ⟨t2, ht2⟩ : ∃ t, t = bstr (hexOf xs) := ⟨_, rfl⟩
  have HT4 : Hid (bstr (hexOf xs) = t2) := ht2.symm
  have L1 : Hid ((fb64 (sbytes t1)).1.length ≤ 65536) := fb64_len _
  have L2 : Hid ((fhex (sbytes t2)).1.length ≤ 65536) := fhex_len _
  have L3 : Hid ((fb64 (sbytes s)).1.length ≤ 65536) := fb64_len _
  have kc := fun (w : World) (C : Array Value) (n c : Nat) => Lib.run_convert_bytes_const (P := Tryd.prog) w 22 5 C n c Tryd.underlying22 Tryd.underlying5
  have HSE : Hid (total first8 0 ([] ++ xs) = sha xs) := rfl
  have HSM : Hid (total first8 0 ([] ++ xs ++ [109, 111, 114, 101]) = sha (xs ++ [109, 111, 114, 101])) := rfl
  have HS1 : Hid ((sha xs).length = 32) := sha_length _
  have HS2 : Hid ((sha (xs ++ [109, 111, 114, 101])).length = 32) := sha_length _
  clear hx hr hT hT1 ht1 ht2 hn
  go_enter Tryd.func5, Tryd.ntmps5
  go_wp2_with fail
  refine (live_true w HT.out).mono ?_
  rintro e w1 ⟨rfl, h1⟩
  have HB1 : Hid (Below w.heap.size w w1) := h1
  have hs1 := HB1.out.size
  clear h1
  go_wp2_with fail
  refine (newState_any w1).mono ?_
  rintro e w2 ⟨g, rfl, h2⟩
  have hg : w.heap.size ≤ g := by have := h2.out.1; omega
  have HB2 : Hid (Below w.heap.size w w2) := HB1.out.trans (h2.out.2.2.2.mono hs1)
  have HS2' : Hid (HState w2 g first8 0 []) := h2.out.2.2.1
  have hg2 : g < w2.heap.size := h2.out.2.1
  have hs2 := HB2.out.size
  clear h2
  go_wp2_with (first | (at_builtin; refine wpList_append_bytes rfl _ _ rfl w2.heap.size _ [] rfl (own_new w2 w2.heap.size [] (Nat.le_refl _) (Nat.zero_le _)) ao _ cap xs HN.out rfl ((HR.out.keep HB2.out).keep (below_new w2 _)) (by simp; rw [← HN.out]; omega) (by simp) ?_) | fail)
  rintro v3 w3 hown3 hgr3
  have HO3 : Hid (Own w3 w2.heap.size v3 ([] ++ xs)) := hown3
  obtain ⟨ao3, c3, rfl, hc3, hr3, hb3⟩ := copied hown3 hgr3 HN.out
  have HB3 : Hid (Below w.heap.size w w3) := HB2.out.trans (hb3.mono hs2)
  have HR3 : Hid (Row w3 ao3 xs) := hr3
  have HS3 : Hid (HState w3 g first8 0 []) := HS2'.out.keep hb3
  have hs3 := HB3.out.size
  have HAO : Hid (0 < n → ∀ a, ao3 = some a → a.block ≠ g) := fun h0 a ha => by
    subst ha
    have := HO3.out.blocks a.block (by
      rcases HO3.out.2 with ⟨e, _⟩ | ⟨gg, cap', cur, e, _⟩
      · cases e
      · cases e; rfl)
    omega
  clear hown3 hgr3 hr3 hb3 HO3
  go_wp2_with fail
  refine (writeState_any g n c3 0 ao3 xs first8 [] w3 HS3.out (by rw [← HN.out]; simp; omega) HX.out HR3.out HAO.out HN.out hc3 (HT.out.keep HB3.out) (by omega)).mono ?_
  rintro e w4 ⟨rfl, h4⟩
  have HS4 : Hid (HState w4 g first8 0 ([] ++ xs)) := h4.out.1
  have HB4 : Hid (Below w.heap.size w w4) := HB3.out.trans (h4.out.2.below hg hs3)
  have hs4 := HB4.out.size
  clear h4 HS3 HR3 HAO HS2'
  go_wp2_with fail
  refine (copy_any g 0 first8 ([] ++ xs) w4 HS4.out).mono ?_
  rintro e w5 ⟨k, rfl, h5⟩
  have hgk : g < k := by have := h5.out.1; have := HS4.out.lt; omega
  have HK5 : Hid (HState w5 k first8 0 ([] ++ xs)) := h5.out.2.2.1
  have HS5 : Hid (HState w5 g first8 0 ([] ++ xs)) := HS4.out.keep h5.out.2.2.2
  have HB5 : Hid (Below w.heap.size w w5) := HB4.out.trans (h5.out.2.2.2.mono hs4)
  have hs5 := HB5.out.size
  clear h5 HS4
  go_wp2_with fail
  refine (refBase64_any n cap ao xs w5 (by omega) HN.out HX.out (HR.out.keep HB5.out)).mono ?_
  rintro e w6 ⟨rfl, h6⟩
  rw [HT3.out]
  have HK6 : Hid (HState w6 k first8 0 ([] ++ xs)) := HK5.out.keep h6
  have HS6 : Hid (HState w6 g first8 0 ([] ++ xs)) := HS5.out.keep h6
  have HB6 : Hid (Below w.heap.size w w6) := HB5.out.trans (h6.mono hs5)
  have hs6 := HB6.out.size
  clear h6 HK5 HS5
  go_wp2_with fail
  refine (refHex_any n cap ao xs w6 (by omega) HN.out HX.out (HR.out.keep HB6.out)).mono ?_
  rintro e w7 ⟨rfl, h7⟩
  rw [HT4.out]
  have HK7 : Hid (HState w7 k first8 0 ([] ++ xs)) := HK6.out.keep h7
  have HS7 : Hid (HState w7 g first8 0 ([] ++ xs)) := HS6.out.keep h7
  have HB7 : Hid (Below w.heap.size w w7) := HB6.out.trans (h7.mono hs6)
  have hs7 := HB7.out.size
  have hk7 : k < w7.heap.size := HK7.out.lt
  clear h7 HK6 HS6
  go_wp2_with fail
  refine (fromBase64_any t1 w7).mono ?_
  rintro e w8 ⟨ra, na, ca, rfl, h8⟩
  have HA8 : Hid (Own w8 w7.heap.size (.slice ra na ca) (fb64 (sbytes t1)).1) := h8.out.2.2.1
  have BA := hide HA8.out.blocks
  have HL8 : Hid (Below w7.heap.size w7 w8) := h8.out.2.2.2
  have hs8 := HL8.out.size
  clear h8
  go_wp2_with fail
  refine (fromBase64_any t1 w8).mono ?_
  rintro e w9 ⟨rb, nb, cb, rfl, h9⟩
  have HBo9 : Hid (Own w9 w8.heap.size (.slice rb nb cb) (fb64 (sbytes t1)).1) := h9.out.2.2.1
  have BB := hide HBo9.out.blocks
  have HA9 : Hid (Own w9 w7.heap.size (.slice ra na ca) (fb64 (sbytes t1)).1) := HA8.out.keep h9.out.2.2.2
  have HL9 : Hid (Below w7.heap.size w7 w9) := HL8.out.trans (h9.out.2.2.2.mono hs8)
  have hs9 := h9.out.2.2.2.size
  clear h9
  go_wp2_with fail
  refine (fromHex_any t2 w9).mono ?_
  rintro e w10 ⟨rd, nd, cd, rfl, h10⟩
  have HD10 : Hid (Own w10 w9.heap.size (.slice rd nd cd) (fhex (sbytes t2)).1) := h10.out.2.2.1
  have BD := hide HD10.out.blocks
  have HA10 : Hid (Own w10 w7.heap.size (.slice ra na ca) (fb64 (sbytes t1)).1) := HA9.out.keep h10.out.2.2.2
  have HBo10 : Hid (Own w10 w8.heap.size (.slice rb nb cb) (fb64 (sbytes t1)).1) := HBo9.out.keep h10.out.2.2.2
  have HL10 : Hid (Below w7.heap.size w7 w10) := HL9.out.trans (h10.out.2.2.2.mono (by omega))
  have hs10 := h10.out.2.2.2.size
  clear h10
  go_wp2_with fail
  refine (fromHex_any t2 w10).mono ?_
  rintro e w11 ⟨rf, nf, cf, rfl, h11⟩
  have HF11 : Hid (Own w11 w10.heap.size (.slice rf nf cf) (fhex (sbytes t2)).1) := h11.out.2.2.1
  have BF := hide HF11.out.blocks
  have HA11 : Hid (Own w11 w7.heap.size (.slice ra na ca) (fb64 (sbytes t1)).1) := HA10.out.keep h11.out.2.2.2
  have HBo11 : Hid (Own w11 w8.heap.size (.slice rb nb cb) (fb64 (sbytes t1)).1) := HBo10.out.keep h11.out.2.2.2
  have HD11 : Hid (Own w11 w9.heap.size (.slice rd nd cd) (fhex (sbytes t2)).1) := HD10.out.keep h11.out.2.2.2
  have HL11 : Hid (Below w7.heap.size w7 w11) := HL10.out.trans (h11.out.2.2.2.mono (by omega))
  have hs11 := h11.out.2.2.2.size
  clear h11
  go_wp2_with fail
  refine (fromBase64_any s w11).mono ?_
  rintro e w12 ⟨rg, ng, cg, rfl, h12⟩
  have HG12 : Hid (Own w12 w11.heap.size (.slice rg ng cg) (fb64 (sbytes s)).1) := h12.out.2.2.1
  have BG := hide HG12.out.blocks
  have HA12 : Hid (Own w12 w7.heap.size (.slice ra na ca) (fb64 (sbytes t1)).1) := HA11.out.keep h12.out.2.2.2
  have HBo12 : Hid (Own w12 w8.heap.size (.slice rb nb cb) (fb64 (sbytes t1)).1) := HBo11.out.keep h12.out.2.2.2
  have HD12 : Hid (Own w12 w9.heap.size (.slice rd nd cd) (fhex (sbytes t2)).1) := HD11.out.keep h12.out.2.2.2
  have HF12 : Hid (Own w12 w10.heap.size (.slice rf nf cf) (fhex (sbytes t2)).1) := HF11.out.keep h12.out.2.2.2
  have HL12 : Hid (Below w7.heap.size w7 w12) := HL11.out.trans (h12.out.2.2.2.mono (by omega))
  have hs12 := h12.out.2.2.2.size
  clear h12 HA8 HA9 HA10 HA11 HBo9 HBo10 HBo11 HD10 HD11 HF11
  go_wp2_with fail
  refine (save_any g 0 first8 ([] ++ xs) w12 (HS7.out.keep HL12.out)).mono ?_
  rintro e w13 ⟨rfl, h13⟩
  have HP13 : Hid (Own w13 w12.heap.size (.slice (some ⟨w12.heap.size, 0, none⟩) 104 104) (saved first8 0 ([] ++ xs))) := h13.out.1
  have BP := hide HP13.out.blocks
  have HL13 : Hid (Below w12.heap.size w12 w13) := h13.out.2
  have hs13 := HL13.out.size
  have HB13 : Hid (Below w7.heap.size w7 w13) := HL12.out.trans (HL13.out.mono (by omega))
  clear h13
  go_wp2_with fail
  refine (save_any k 0 first8 ([] ++ xs) w13 (HK7.out.keep HB13.out)).mono ?_
  rintro e w14 ⟨rfl, h14⟩
  have HQ14 : Hid (Own w14 w13.heap.size (.slice (some ⟨w13.heap.size, 0, none⟩) 104 104) (saved first8 0 ([] ++ xs))) := h14.out.1
  have BQ := hide HQ14.out.blocks
  have HP14 : Hid (Own w14 w12.heap.size (.slice (some ⟨w12.heap.size, 0, none⟩) 104 104) (saved first8 0 ([] ++ xs))) := HP13.out.keep h14.out.2
  have HL14 : Hid (Below w12.heap.size w12 w14) := HL13.out.trans (h14.out.2.mono hs13)
  have hs14 := h14.out.2.size
  have HB14 : Hid (Below w7.heap.size w7 w14) := HL12.out.trans (HL14.out.mono (by omega))
  clear h14
  go_wp2_with fail
  refine (save_any g 0 first8 ([] ++ xs) w14 (HS7.out.keep HB14.out)).mono ?_
  rintro e w15 ⟨rfl, h15⟩
  have HV15 : Hid (Own w15 w14.heap.size (.slice (some ⟨w14.heap.size, 0, none⟩) 104 104) (saved first8 0 ([] ++ xs))) := h15.out.1
  have BV := hide HV15.out.blocks
  have HP15 : Hid (Own w15 w12.heap.size (.slice (some ⟨w12.heap.size, 0, none⟩) 104 104) (saved first8 0 ([] ++ xs))) := HP14.out.keep h15.out.2
  have HQ15 : Hid (Own w15 w13.heap.size (.slice (some ⟨w13.heap.size, 0, none⟩) 104 104) (saved first8 0 ([] ++ xs))) := HQ14.out.keep h15.out.2
  have HL15 : Hid (Below w12.heap.size w12 w15) := HL14.out.trans (h15.out.2.mono (by omega))
  have hs15 := h15.out.2.size
  have HB15 : Hid (Below w7.heap.size w7 w15) := HL12.out.trans (HL15.out.mono (by omega))
  have HSL : Hid ((saved first8 0 ([] ++ xs)).length = 104) := HV15.out.shape.1.symm
  clear h15 HP13 HP14 HQ14
  go_wp2_with fail
  have HEQ : Hid (Calls Tryd.prog 22 #[.slice (some ⟨w15.heap.size, 0, none⟩) 8 8] (w15.alloc (.cells #[.slice (some ⟨w12.heap.size, 0, none⟩) 104 104, .slice ra na ca, .slice (some ⟨w13.heap.size, 0, none⟩) 104 104, .slice rb nb cb, .slice rd nd cd, .slice (some ⟨w14.heap.size, 0, none⟩) 104 104, .slice rf nf cf, .slice rg ng cg] 22)) fun e w' => e = .returned (.bool true) ∧ Below w7.heap.size w7 w') := by
    refine (alone_eight w15 w7.heap.size w8.heap.size w9.heap.size w10.heap.size w11.heap.size w12.heap.size w13.heap.size w14.heap.size w15.heap.size _ _ _ _ _ _ _ _ hs8 hs9 hs10 hs11 hs12 hs13 hs14 hs15 (Nat.le_refl _)
      ⟨_, HP15.out, by have := HSL.out; omega⟩ (fun g hg => (BP.out g hg).2) ⟨_, HA12.out.keep HL15.out, by have := L1.out; omega⟩ (fun g hg => (BA.out g hg).2) ⟨_, HQ15.out, by have := HSL.out; omega⟩ (fun g hg => (BQ.out g hg).2) ⟨_, HBo12.out.keep HL15.out, by have := L1.out; omega⟩ (fun g hg => (BB.out g hg).2)
      ⟨_, HD12.out.keep HL15.out, by have := L2.out; omega⟩ (fun g hg => (BD.out g hg).2) ⟨_, HV15.out, by have := HSL.out; omega⟩ (fun g hg => (BV.out g hg).2) ⟨_, HF12.out.keep HL15.out, by have := L2.out; omega⟩ (fun g hg => (BF.out g hg).2) ⟨_, HG12.out.keep HL15.out, by have := L3.out; omega⟩ (fun g hg => (BG.out g hg).2)).mono ?_
    rintro e w' ⟨rfl, h⟩
    exact ⟨rfl, HB15.out.trans h⟩
  refine HEQ.out.mono ?_
  rintro e w16 ⟨rfl, h16⟩
  have HB16 : Hid (Below w7.heap.size w7 w16) := h16
  have HS16 : Hid (HState w16 g first8 0 ([] ++ xs)) := HS7.out.keep h16
  have HK16 : Hid (HState w16 k first8 0 ([] ++ xs)) := HK7.out.keep h16
  have HW16 : Hid (Below w.heap.size w w16) := HB7.out.trans (h16.mono hs7)
  have hs16 := HW16.out.size
  have hk16 : k < w16.heap.size := HK16.out.lt
  clear h16 HEQ BA BB BD BF BG BP BQ BV HP15 HQ15 HV15 HA12 HBo12 HD12 HF12 HG12 HL8 HL9 HL10 HL11 HL12 HL13 HL14 HL15 HB13 HB14 HB15 HSL
  go_wp2_with fail
  refine (writeState_any k 4 4 0 (some ⟨w16.heap.size, 0, none⟩) [109, 111, 114, 101] first8 ([] ++ xs) _ (by exact HK16.out.keep (below_mark w16 _ _ _)) (by rw [List.nil_append, ← HN.out]; simp; omega) (by decide) (by exact row_mark w16 [109, 111, 114, 101] 4 5) (fun _ a ha => by cases ha; simp; omega) rfl (by decide) (by exact (HT.out.keep HW16.out).keep (below_mark w16 _ _ _)) (by omega)).mono ?_
  rintro e w17 ⟨rfl, h17⟩
  have HK17 : Hid (HState w17 k first8 0 ([] ++ xs ++ [109, 111, 114, 101])) := h17.out.1
  have HS17 : Hid (HState w17 g first8 0 ([] ++ xs)) := (HS16.out.keep (below_mark w16 _ _ _)).but h17.out.2 (by omega)
  have HW17 : Hid (Below w.heap.size w w17) := (HW16.out.trans ((below_mark w16 _ _ _).mono hs16)).trans (h17.out.2.below (by omega) (by simp; omega))
  have hs17 := HW17.out.size
  clear h17 HK16 HS16 kc
  go_wp2_with fail
  refine (fromBase64_any t1 w17).mono ?_
  rintro e w18 ⟨ri, ni, ci, rfl, h18⟩
  have HW18 : Hid (Below w.heap.size w w18) := HW17.out.trans (h18.out.2.2.2.mono hs17)
  have hs18 := HW18.out.size
  have HK18 : Hid (HState w18 k first8 0 ([] ++ xs ++ [109, 111, 114, 101])) := HK17.out.keep h18.out.2.2.2
  have HS18 : Hid (HState w18 g first8 0 ([] ++ xs)) := HS17.out.keep h18.out.2.2.2
  have HO18 : Hid (t1.size ≤ 65536 → ni = n ∧ Row w18 ri xs ∧ (fb64 (sbytes t1)).2.1 = 0) := fun h => by
    have h18 := h18.out
    rw [HF1.out h] at h18 ⊢
    obtain ⟨a0, c0, e0, _, r0⟩ := h18.2.2.1.read
    cases e0
    exact ⟨HN.out.symm, r0, rfl⟩
  clear h18 HF1 HK17 HS17 L1 L2 L3
  generalize (fb64 (sbytes t1)).2.1 = e1 at *
  generalize (fb64 (sbytes t1)).2.2 = p1 at *
  generalize hsx : sha xs = sx at *
  replace hsx := hide hsx
  generalize hsm : sha (xs ++ [109, 111, 114, 101]) = sm at *
  replace hsm := hide hsm
  have hq1 : ∀ W, (Op.equalIn 10000 24 (.agg (sx.map bv).toArray) (.agg (sx.map bv).toArray)).run Tryd.prog W = .ok true W := fun W => by rw [arr32_eq _ _ W HS1.out HS1.out]; simp
  have hq2 : ∀ W, (Op.equalIn 10000 24 (.agg (sm.map bv).toArray) (.agg (sm.map bv).toArray)).run Tryd.prog W = .ok true W := fun W => by rw [arr32_eq _ _ W HS2.out HS2.out]; simp
  go_wp2_with fail
  refine (sumState_any g 0 first8 ([] ++ xs) w18 HS18.out (HT.out.keep HW18.out)).mono ?_
  rintro e w19 ⟨rfl, h19⟩
  rw [HSE.out]
  have HW19 : Hid (Below w.heap.size w w19) := HW18.out.trans (h19.mono hs18)
  have HK19 : Hid (HState w19 k first8 0 ([] ++ xs ++ [109, 111, 114, 101])) := HK18.out.keep h19
  have HO19 : Hid (t1.size ≤ 65536 → ni = n ∧ Row w19 ri xs ∧ e1 = 0) := fun h => ⟨(HO18.out h).1, (HO18.out h).2.1.keep h19, (HO18.out h).2.2⟩
  have hs19 := HW19.out.size
  clear h19 HS18 HK18 HO18
  go_wp2_with fail
  refine (refSum_any n cap ao xs w19 HN.out (by omega) HX.out (HR.out.keep HW19.out) (HT1.out.keep HW19.out)).mono ?_
  rintro e w20 ⟨rfl, h20⟩
  rw [hsx.out]
  have HW20 : Hid (Below w.heap.size w w20) := HW19.out.trans (h20.mono hs19)
  have HK20 : Hid (HState w20 k first8 0 ([] ++ xs ++ [109, 111, 114, 101])) := HK19.out.keep h20
  have HO20 : Hid (t1.size ≤ 65536 → ni = n ∧ Row w20 ri xs ∧ e1 = 0) := fun h => ⟨(HO19.out h).1, (HO19.out h).2.1.keep h20, (HO19.out h).2.2⟩
  have hs20 := HW20.out.size
  clear h20 HK19 HO19
  go_wp2_with fail
  refine (sumState_any k 0 first8 _ w20 HK20.out (HT.out.keep HW20.out)).mono ?_
  rintro e w21 ⟨rfl, h21⟩
  rw [HSM.out]
  have HW21 : Hid (Below w.heap.size w w21) := HW20.out.trans (h21.mono hs20)
  have HO21 : Hid (t1.size ≤ 65536 → ni = n ∧ Row w21 ri xs ∧ e1 = 0) := fun h => ⟨(HO20.out h).1, (HO20.out h).2.1.keep h21, (HO20.out h).2.2⟩
  have hs21 := HW21.out.size
  clear h21 HK20 HO20
  go_wp2_with (first | (at_builtin; refine wpList_append_g (by rfl) _ _ rfl w21.heap.size _ [] rfl (own_new w21 w21.heap.size [] (Nat.le_refl _) (Nat.zero_le _)) ao n cap xs HN.out rfl ((HR.out.keep HW21.out).keep (below_new w21 _)) (by simp; rw [← HN.out]; omega) (by simp) ?_) | fail)
  rintro v22 w22 hown22 hgr22 _
  have HL22 : Hid (Below w21.heap.size w21 w22) := ((Below.refl _ _).alloc (Nat.le_refl _) _).grown hgr22 (by simp) (fun k hk => by simp [Value.ownBlock] at hk; omega)
  have HO22 : Hid (Own w22 w21.heap.size v22 xs) := hown22
  have hs22 := HL22.out.size
  clear hown22 hgr22
  go_wp2_with (first | (refine wpList_append_text_g (by rfl) _ _ rfl w21.heap.size _ xs rfl HO22.out _ rfl (by rw [← HN.out]; show n + 4 ≤ _; omega) hs22 ?_) | fail)
  rintro v23 w23 hown23 hgr23
  have HO23 : Hid (Own w23 w21.heap.size v23 (xs ++ [109, 111, 114, 101])) := hown23
  have HL23 : Hid (Below w21.heap.size w21 w23) := HL22.out.grown hgr23 hs22 HO22.out.ge
  have HW23 : Hid (Below w.heap.size w w23) := HW21.out.trans (HL23.out.mono hs21)
  have HO24 : Hid (t1.size ≤ 65536 → ni = n ∧ Row w23 ri xs ∧ e1 = 0) := fun h => ⟨(HO21.out h).1, (HO21.out h).2.1.keep HL23.out, (HO21.out h).2.2⟩
  have hs23 := HW23.out.size
  have HM4 : Hid (n + 4 = (xs ++ [109, 111, 114, 101]).length) := by show _ = _; rw [List.length_append, ← HN.out]; rfl
  have HX4 : Hid (∀ x ∈ xs ++ [109, 111, 114, 101], x < 256) := lt_append HX.out (by decide)
  obtain ⟨a23, c23, hv23, hc23, hr23⟩ := HO23.out.read
  rw [← HM4.out] at hv23 hc23
  subst hv23
  have HR23 : Hid (Row w23 a23 (xs ++ [109, 111, 114, 101])) := hr23
  clear hown23 hgr23 hr23 HO22 HO23 HL22 HL23 HO21
  go_wp2_with fail
  refine (refSum_any (n + 4) c23 a23 (xs ++ [109, 111, 114, 101]) w23 HM4.out (by omega) HX4.out HR23.out (HT1.out.keep HW23.out)).mono ?_
  rintro e w24 ⟨rfl, h24⟩
  rw [hsm.out]
  have HW24 : Hid (Below w.heap.size w w24) := HW23.out.trans (h24.mono hs23)
  have HO25 : Hid (t1.size ≤ 65536 → ni = n ∧ Row w24 ri xs ∧ e1 = 0) := fun h => ⟨(HO24.out h).1, (HO24.out h).2.1.keep h24, (HO24.out h).2.2⟩
  clear h24 HO24 HR23
  by_cases hle : t1.size ≤ 65536
  · obtain ⟨h1, h2, h3⟩ := HO25.out hle
    subst h1 h3
    have HR24 : Hid (Row w24 ri xs) := h2
    clear h2 HO25
    go_wp2_with (go_at_call 13; refine (num_any _ _).mono ?_; rintro e w11 ⟨rfl, rfl⟩)
    rw [HN.out]
    refine (same_any ci cap ri ao xs xs _ HR24.out (HR.out.keep HW24.out) HX.out HX.out).mono ?_
    rw [← HN.out]
    rintro e w25 ⟨rfl, rfl⟩
    simp only [decide_true]
    go_wp2
    go_ret
    exact ⟨rfl, HW24.out⟩
  · clear HO25
    go_wp2
    go_ret
    exact ⟨rfl, HW24.out⟩
end Go.Proofs.YtjdglpfjemoodabDoor
