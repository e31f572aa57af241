/- The walk of the law FrameTexts: every row of bytes, every text, every bound (lengths up to 2^20): it returns true and turns nothing old. -/
import Derived.Test.YtmgppjfohabdmaaTextRef
import Derived.Test.YtmgppjfohabdmaaAloneN
namespace Go.Proofs.Ytmgppjfohabdmaa
open Go.RowKit

theorem rest_member2 {w w' : World} {a b : Option Nat} (B : Nat) (h : Rest w w' [a, b]) (hB : B ≤ w.heap.size) (ha : ∀ k, a = some k → B ≤ k) (hb : ∀ k, b = some k → B ≤ k) : Below B w w' :=
  h.below hB (fun k hk => by
    simp only [List.mem_cons, List.not_mem_nil, or_false] at hk
    rcases hk with hk | hk
    · exact ha k hk.symm
    · exact hb k hk.symm)
theorem rest_row2 {w w' : World} {a b : Option Nat} {ao : Option Addr} {xs : List Nat} {L : Nat} (h : Rest w w' [a, b]) (hr : Row w ao xs) (hge : ∀ x, ao = some x → L ≤ x.block) (ha : ∀ k, a = some k → k < L) (hb : ∀ k, b = some k → k < L) : Row w' ao xs :=
  h.row hr (fun x hx hk => by
    have hg := hge x hx
    simp only [List.mem_cons, List.not_mem_nil, or_false] at hk
    rcases hk with hk | hk
    · have := ha _ hk.symm; omega
    · have := hb _ hk.symm; omega)
theorem Row.grown {w w' : World} {ao : Option Addr} {xs : List Nat} {row : Option Nat} (h : Row w ao xs) (hg : w.grownBy w' row) (hne : ∀ x, ao = some x → some x.block ≠ row) : Row w' ao xs := by
  rcases h with h | ⟨b, off, rfl, hc⟩
  · exact .inl h
  · refine .inr ⟨b, off, rfl, fun i hi => ?_⟩
    rw [World.cell?_of_block (hg.block b (World.block_lt_of_cell? w _ (hc i hi)) (hne _ rfl))]
    exact hc i hi

set_option maxHeartbeats 1600000 in
set_option maxRecDepth 100000 in
theorem frameTexts_walk (cb : Nat) (bo : Option Addr) (xs : List Nat) (s : ByteArray) (most : Int) (w : World) (hl : xs.length ≤ 1048576) (hcb : xs.length ≤ cb) (hsl : s.size ≤ 1048576) (hm : -9223372036854775808 ≤ most ∧ most ≤ 9223372036854775807) (hx : ∀ x ∈ xs, x < 256) (hb : Row w bo xs) :
    Calls Try.prog 4 #[.slice bo xs.length cb, .string s, .int .i64 most] w fun e w' => e = .returned (.bool true) ∧ Below w.heap.size w w' := by
  have HX : Hid (∀ x ∈ xs, x < 256) := hx
  have HB : Hid (Row w bo xs) := hb
  have HM : Hid (-9223372036854775808 ≤ most ∧ most ≤ 9223372036854775807) := hm
  obtain ⟨ps, HPS⟩ : ∃ ps, Hid (ps = xs ++ uenc s.size ++ sbytes s) := ⟨_, rfl⟩
  have HPB : Hid (∀ x ∈ ps, x < 256) := by show ∀ x ∈ ps, x < 256; rw [HPS.out]; exact lt_append (lt_append hx (uenc_lt (by omega))) (sbytes_lt s)
  have hpl : ps.length + 64 ≤ 140737488355328 := by have := uenc_length s.size; rw [HPS.out, List.length_append, List.length_append, sbytes_length]; omega
  obtain ⟨out, ok, oe, hu⟩ : ∃ out ok oe, textOf xs most = (out, ok, oe) := ⟨_, _, _, rfl⟩
  have HUR : Hid (textOf xs most = (out, ok, oe)) := hu
  obtain ⟨ob, HOB⟩ : ∃ ob, Hid (bstr out = ob) := ⟨_, rfl⟩
  clear hx hb hu hm
  go_enter Try.func4, Try.ntmps4
  go_wp2_with fail
  refine (lent_row cb bo xs w (by omega) HB.out).mono ?_
  rintro e w1 ⟨g, c1, rfl, h1⟩
  have hle1 := h1.out.1
  have hgl : g < w1.heap.size := h1.out.2.2.1
  have hgw : w.heap.size ≤ g := h1.out.2.1
  have HO1 : Hid (Own w1 w.heap.size (.slice (some ⟨g, 0, none⟩) (xs.length + 64) c1) (xs ++ marks 64)) := h1.out.2.2.2.1
  have HF1 : Hid (Row w1 (some ⟨g, 0, none⟩) (xs ++ marks 64)) := h1.out.2.2.2.2.1
  have HL1 : Hid (Below w.heap.size w w1) := h1.out.2.2.2.2.2
  have hs1 := HL1.out.size
  clear h1
  go_wp2_with fail
  refine (putText_any xs.length c1 _ xs s w1 rfl (by omega) (by omega) HF1.out.take).mono ?_
  rintro e w2 ⟨po, pn, pc, rfl, h2⟩
  have HM2 : Hid (Made w1 w2 po pn pc ps) := by show Made w1 w2 po pn pc ps; rw [HPS.out]; exact h2.out
  have HL2 : Hid (Below w1.heap.size w1 w2) := HM2.out.2.2.2.2
  have hs2 := HL2.out.size
  have HF2 : Hid (Row w2 (some ⟨g, 0, none⟩) (xs ++ marks 64)) := HF1.out.keep HL2.out
  clear h2 HF1
  go_wp2_with fail
  refine (putText_any xs.length c1 _ xs s w2 rfl (by omega) (by omega) HF2.out.take).mono ?_
  rintro e w3 ⟨qo, qn, qc, rfl, h3⟩
  have HM3 : Hid (Made w2 w3 qo qn qc ps) := by show Made w2 w3 qo qn qc ps; rw [HPS.out]; exact h3.out
  have HL3 : Hid (Below w2.heap.size w2 w3) := HM3.out.2.2.2.2
  have hs3 := HL3.out.size
  have HLw3 : Hid (Below w.heap.size w w3) := (HL1.out.trans (HL2.out.mono hs1)).trans (HL3.out.mono (by omega))
  clear h3
  go_wp2_with fail
  refine (refPutText_any xs.length cb bo xs s w3 rfl (by omega) (by omega) (HB.out.keep HLw3.out)).mono ?_
  rintro e w4 ⟨so, sn, sc, rfl, h4⟩
  have HM4 : Hid (Made w3 w4 so sn sc ps) := by show Made w3 w4 so sn sc ps; rw [HPS.out]; exact h4.out
  have HL4 : Hid (Below w3.heap.size w3 w4) := HM4.out.2.2.2.2
  have hs4 := HL4.out.size
  have HLw4 : Hid (Below w.heap.size w w4) := HLw3.out.trans (HL4.out.mono (by omega))
  have HP4 : Hid (Row w4 po ps ∧ Own w4 w1.heap.size (.slice po pn pc) ps) := ⟨(HM2.out.2.2.1.keep HL3.out).keep HL4.out, (HM2.out.2.2.2.1.keep HL3.out).keep HL4.out⟩
  have HQ4 : Hid (Row w4 qo ps ∧ Own w4 w2.heap.size (.slice qo qn qc) ps) := ⟨HM3.out.2.2.1.keep HL4.out, HM3.out.2.2.2.1.keep HL4.out⟩
  have HS4 : Hid (Row w4 so ps ∧ ∀ x, so = some x → w3.heap.size ≤ x.block) := ⟨HM4.out.2.2.1, fun x hx => HM4.out.2.2.2.1.ge x.block (by rw [hx]; rfl)⟩
  have HPL : Hid (∀ k, (Value.slice po pn pc).ownBlock = some k → k < w2.heap.size) := HM2.out.2.2.2.1.ltSize
  have HQL : Hid (∀ k, (Value.slice qo qn qc).ownBlock = some k → k < w3.heap.size) := HM3.out.2.2.2.1.ltSize
  have HPN : Hid (pn = ps.length) := HM2.out.1
  have HQN : Hid (qn = ps.length) := HM3.out.1
  have HSN : Hid (sn = ps.length) := HM4.out.1
  have HF4 : Hid (Row w4 (some ⟨g, 0, none⟩) (xs ++ marks 64)) := (HF2.out.keep HL3.out).keep HL4.out
  have HO4 : Hid (Own w4 w.heap.size (.slice (some ⟨g, 0, none⟩) (xs.length + 64) c1) (xs ++ marks 64)) := ((HO1.out.keep HL2.out).keep HL3.out).keep HL4.out
  have HB4 : Hid (Row w4 bo xs) := HB.out.keep HLw4.out
  clear h4 HM2 HM3 HM4 HF2 HL2 HL3 HL4 HLw3 HO1
  go_wp2_with fail
  refine (same_true' pn sn pc sc po so ps _ HPN.out HSN.out HP4.out.1 HS4.out.1 HPB.out).mono ?_
  rintro e w' ⟨rfl, rfl⟩
  go_wp2_with fail
  refine (same_true' qn sn qc sc qo so ps _ HQN.out HSN.out HQ4.out.1 HS4.out.1 HPB.out).mono ?_
  rintro e w5 ⟨rfl, rfl⟩
  go_wp2_with fail
  refine (kept_true _ c1 cb g 0 bo xs _ (by omega) rfl hle1 HF4.out HB4.out HX.out).mono ?_
  rintro e w6 ⟨rfl, rfl⟩
  go_wp2_with fail
  refine (text_any xs.length c1 _ most xs _ rfl (by omega) (by omega) HM.out HX.out HF4.out.take).mono ?_
  rintro e w7 ⟨rfl, rfl⟩
  rw [HUR.out]
  simp only [HOB.out]
  go_wp2_with fail
  refine (refText_any xs.length cb bo most xs _ rfl hcb (by omega) HM.out HX.out HB4.out).mono ?_
  rintro e w8 ⟨rfl, rfl⟩
  rw [HUR.out]
  simp only [HOB.out]
  have e2 : (((ok : Nat) : Int) != ((ok : Nat) : Int)) = false := by simp
  have e3 : (((oe : Nat) : Int) != ((oe : Nat) : Int)) = false := by simp
  go_wp2_with (go_at_call 12; refine (num_any _ _).mono ?_; rintro e w9 ⟨rfl, rfl⟩)
  refine (kept_true _ c1 cb g 0 bo xs _ (by omega) rfl hle1 HF4.out HB4.out HX.out).mono ?_
  rintro e w10 ⟨rfl, rfl⟩
  go_wp2
  go_loopw [17] (fun i wr => ∃ k : Nat, k ≤ xs.length ∧ i = .int .i64 k ∧ Hid ((∃ ys, ys.length = xs.length + 64 ∧ Own wr w.heap.size (.slice (some ⟨g, 0, none⟩) (xs.length + 64) c1) ys) ∧ w10.grownBy wr (some g))) (fun i _ => xs.length - (intOf i).toNat)
  case atStart => exact ⟨0, Nat.zero_le _, rfl, ⟨_, by simp [marks_length], HO4.out⟩, World.grownBy.refl _ _⟩
  case round =>
    obtain ⟨k, hk, rfl, HK⟩ := hrel
    by_cases hlt : k < xs.length
    · obtain ⟨ys, hyl, hyo⟩ := HK.out.1
      have hc := hyo.cellOf k (by omega)
      have hf := hyo.freeOf k
      have HK2 : Hid ((∃ ys, ys.length = xs.length + 64 ∧ Own (wr.setCell ⟨g, k, none⟩ (.int .u8 238)) w.heap.size (.slice (some ⟨g, 0, none⟩) (xs.length + 64) c1) ys) ∧ w10.grownBy (wr.setCell ⟨g, k, none⟩ (.int .u8 238)) (some g)) := by
        rw [← hyl] at hyo
        have := hyo.set (j := k) (x := 238)
        refine ⟨⟨ys.set k 238, by simp [hyl], ?_⟩, grown_trans HK.out.2 (grownBy_set _ _ _ _)⟩
        rw [List.length_set, hyl] at this
        exact this
      clear hyo HK
      go_wp2
      go_roundw
      case rel => exact ⟨k + 1, by omega, by go_num, HK2⟩
      case measure => simp [intOf]; omega
    · have hgr := HK.out.2
      have hsr := hgr.size
      have HPr : Hid (Own wr w1.heap.size (.slice po pn pc) ps) := HP4.out.2.kept hgr (.inr (fun e => by have := HP4.out.2.ge g e; omega))
      have HQr : Hid (Own wr w2.heap.size (.slice qo qn qc) ps) := HQ4.out.2.kept hgr (.inr (fun e => by have := HQ4.out.2.ge g e; omega))
      have HSr : Hid (Row wr so ps) := HS4.out.1.grown hgr (fun x hx e => by have := HS4.out.2 x hx; cases e; omega)
      have HSg : Hid (∀ x, so = some x → w3.heap.size ≤ x.block) := HS4.out.2
      have HLr : Hid (Below w.heap.size w wr) := HLw4.out.grown hgr (by omega) (fun k hk => by cases hk; exact hgw)
      have HSEP : Hid (∀ k, (Value.slice po pn pc).ownBlock = some k → (Value.slice qo qn qc).ownBlock ≠ some k) := fun k hk e => by
        have a := HPL.out k hk
        have b := HQr.out.ge k e
        omega
      have hpn : pn + 64 ≤ 140737488355328 := by rw [HPN.out]; exact hpl
      have hqn : qn + 64 ≤ 140737488355328 := by rw [HQN.out]; exact hpl
      clear hgr HK HP4 HQ4 HS4 HF4 HO4 HB4 HLw4
      go_wp2_with fail
      refine (alone_two _ w1.heap.size pn pc qn qc po qo ps ps (by omega) HPr.out (HQr.out.lower hs2) hpn hqn HSEP.out).mono ?_
      rintro e w14 ⟨rfl, h14⟩
      have hb14 := rest_member2 w1.heap.size h14.out (by omega) HPr.out.ge (fun k hk => Nat.le_trans hs2 (HQr.out.ge k hk))
      have HL14 : Hid (Below w.heap.size w w14) := HLr.out.trans (hb14.mono hs1)
      have HB14 : Hid (Row w14 bo xs) := HB.out.keep HL14.out
      have HS14 : Hid (Row w14 so ps) := rest_row2 h14.out HSr.out HSg.out (fun k hk => by have := HPL.out k hk; omega) HQL.out
      have hs14 := HL14.out.size
      clear h14 hb14 HPr HQr HSr HSg HLr HSEP HPL HQL
      go_wp2_with fail
      refine (putText_any xs.length cb bo xs s _ rfl (by omega) (by omega) HB14.out).mono ?_
      rintro e w16 ⟨yo, yn, yc, rfl, h16⟩
      have HM16 : Hid (Made w14 w16 yo yn yc ps) := by show Made w14 w16 yo yn yc ps; rw [HPS.out]; exact h16.out
      have HL16 : Hid (Below w.heap.size w w16) := HL14.out.trans (HM16.out.2.2.2.2.mono hs14)
      have HS16 : Hid (Row w16 so ps) := HS14.out.keep HM16.out.2.2.2.2
      clear h16
      go_wp2_with fail
      refine (same_true' yn sn yc sc yo so ps _ HM16.out.1 HSN.out HM16.out.2.2.1 HS16.out HPB.out).mono ?_
      rintro e w17 ⟨rfl, rfl⟩
      go_wp2
      go_ret
      exact ⟨rfl, HL16.out⟩
end Go.Proofs.Ytmgppjfohabdmaa
