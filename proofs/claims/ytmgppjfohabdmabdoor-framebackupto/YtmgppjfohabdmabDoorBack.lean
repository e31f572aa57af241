/- The walk of the law FrameBack: every number, text, kinds, texts and bytes behind within a size: it returns true and turns nothing old. -/
import Derived.Deep.DeepCutAuto
import Derived.BigQuiet
import Derived.Deep.RegionHeld
import Derived.Test.YtmgppjfohabdmabDoorBackMath
import Derived.Test.YtmgppjfohabdmabDoorScan
import Derived.Test.YtmgppjfohabdmabDoorSmall
namespace Go.Proofs.YtmgppjfohabdmabDoor
open Go.RowKit

theorem below_drewN2 {B n : Nat} {w w' : World} (h : Below B w w') : Below B w (w'.drewN n) := ⟨h.os, h.tape, h.output, h.size, h.block⟩
theorem bstr_size' (xs : List Nat) : (bstr xs).size = xs.length := by show (bstr xs).data.size = _; simp [bstr]

theorem made_n (nk nt ck ct : Nat) (ko tx : Option Addr) (ks : List Nat) (ts : List ByteArray) (fr : List (Nat × List Nat)) (w : World) (hnk : nk = ks.length) (hnt : nt = ts.length) (hfr : fr = mkF (ks.zip ts)) (hlk : nk ≤ 1073741824) (hlt : nt ≤ 1073741824) (hsz : ∀ s ∈ ts, s.size ≤ 1073741824) (hfit : (fileOf fr).length ≤ 1073741824)
    (hk : ∀ x ∈ ks, x < 256) (hrk : Row w ko ks) (hrt : SRow w tx ts) (hT : Tab w) :
    Calls Tryd.prog 24 #[.slice ko nk ck, .slice tx nt ct] w fun e w' => ∃ bo bn bc, e = .returned (.tuple #[.slice bo bn bc, .int .i64 (fr.length : Nat), .bool true]) ∧ Hid (Made w w' bo bn bc (fileOf fr)) := by
  subst hnk; subst hnt; subst hfr
  exact made_any ck ct ko tx ks ts w hlk hlt hsz hfit hk hrk hrt hT
theorem scan_n (n cap : Nat) (ao : Option Addr) (xs : List Nat) (fr : List (Nat × List Nat)) (en er : Nat) (w : World) (hn : n = xs.length) (hsc : scanR xs.length xs = (fr, en, er)) (hl : n ≤ 1073741824) (hnc : n ≤ cap) (hx : ∀ x ∈ xs, x < 256) (hr : Row w ao xs) (hT : Tab w) :
    Calls Tryd.prog 10 #[.slice ao n cap] w fun e w' => ∃ fo fc ls, e = .returned (.tuple #[.slice fo fr.length fc, .int .i64 (en : Int), .int .i64 (er : Int)]) ∧ Hid (FInv w.heap.size w' (.slice fo fr.length fc) fr ls ∧ Below w.heap.size w w') := by
  subst hn
  refine (scan_any cap ao xs w hl hnc hx hr hT).mono ?_
  rintro e w' ⟨v, ls, rfl, h⟩
  rw [hsc] at h ⊢
  obtain ⟨fo, fc, rfl, _⟩ := h.out.1.shape
  exact ⟨fo, fc, ls, rfl, h⟩

set_option maxHeartbeats 3200000 in
set_option maxRecDepth 100000 in
theorem frameBack_walk (nv ck ct cb : Nat) (ko tx bo : Option Addr) (ks bs : List Nat) (ts : List ByteArray) (s : ByteArray) (w : World) (hnv : nv < 18446744073709551616) (hlk : ks.length ≤ 1048576) (hlt : ts.length ≤ 1048576) (hlb : bs.length ≤ 1048576) (hsz : ∀ s ∈ ts, s.size ≤ 1048576) (hfit : (fileOf (mkF (ks.zip ts))).length ≤ 536870912) (hs : s.size ≤ 1048576)
    (hk : ∀ x ∈ ks, x < 256) (hbx : ∀ x ∈ bs, x < 256) (hrk : Row w ko ks) (hrt : SRow w tx ts) (hrb : Row w bo bs) (hT : Tab w) :
    Calls Tryd.prog 5 #[.agg #[.int .u64 (nv : Int), .string s, .slice ko ks.length ck, .slice tx ts.length ct, .slice bo bs.length cb]] w fun e w' => e = .returned (.bool true) ∧ Below w.heap.size w w' := by
  have HK : Hid (∀ x ∈ ks, x < 256) := hk
  have HBX : Hid (∀ x ∈ bs, x < 256) := hbx
  have HRK : Hid (Row w ko ks) := hrk
  have HRT : Hid (SRow w tx ts) := hrt
  have HRB : Hid (Row w bo bs) := hrb
  have HT : Hid (Tab w) := hT
  have HSZ : Hid (∀ s ∈ ts, s.size ≤ 1048576) := hsz
  obtain ⟨nk, hnk⟩ : ∃ n, n = ks.length := ⟨_, rfl⟩
  obtain ⟨nt, hnt⟩ : ∃ n, n = ts.length := ⟨_, rfl⟩
  obtain ⟨nb, hnb⟩ : ∃ n, n = bs.length := ⟨_, rfl⟩
  have HNK : Hid (nk = ks.length) := hnk
  have HNT : Hid (nt = ts.length) := hnt
  have HNB : Hid (nb = bs.length) := hnb
  rw [← hnk] at hlk ⊢
  rw [← hnt] at hlt ⊢
  rw [← hnb] at hlb ⊢
  obtain ⟨fr, HFR⟩ : ∃ fr, Hid (fr = mkF (ks.zip ts)) := ⟨_, rfl⟩
  have HFIT : Hid ((fileOf fr).length ≤ 536870912) := by show _ ≤ _; rw [HFR.out]; exact hfit
  have HMEM : Hid (∀ x ∈ fr, 0 < x.1 ∧ x.1 < 256 ∧ x.2.length ≤ 2097152 ∧ ∀ y ∈ x.2, y < 256) := fun x hx => by
    rw [HFR.out] at hx
    exact mkF_mem hx (fun y hy => hk _ (List.of_mem_zip hy).1)
  obtain ⟨ul, HUL⟩ : ∃ u, Hid (u = (uenc nv).length) := ⟨_, rfl⟩
  have hul : 1 ≤ ul ∧ ul ≤ 11 := by rw [HUL.out]; exact uenc_length nv
  obtain ⟨ys, HYS⟩ : ∃ ys, Hid (ys = ([] ++ uenc nv) ++ bs) := ⟨([] ++ uenc nv) ++ bs, rfl⟩
  obtain ⟨la, HLA⟩ : ∃ la, Hid (la = ys.length) := ⟨_, rfl⟩
  have HLE : Hid (la = ul + nb) := by show _ = _; rw [HLA.out, HYS.out, List.nil_append, List.length_append, HUL.out, hnb]
  have hla : ul + nb ≤ la ∧ la ≤ ul + nb := by have := HLE.out; omega
  have hlb1 : IntKind.i64.wrap ((la : Int) - (nb : Int)) = (ul : Int) := by have := HLE.out; rw [IntKind.wrap_i64]; omega
  have HYX : Hid (∀ x ∈ ys, x < 256) := by rw [HYS.out, List.nil_append]; exact lt_append (uenc_lt hnv) hbx
  have HUR : Hid (uread ys = (nv, ul, 0)) := by show _ = _; rw [HYS.out, List.nil_append, uread_back hnv, HUL.out]
  have HYT : Hid (ys.take ul = [] ++ uenc nv) := by show _ = _; rw [HYS.out, List.nil_append, HUL.out, List.take_left]
  have HUN : Hid (([] ++ uenc nv).length = ul) := by show _ = _; rw [List.nil_append]; exact HUL.out.symm
  obtain ⟨zs, HZS⟩ : ∃ zs, Hid (zs = ([] ++ uenc s.size ++ sbytes s) ++ bs) := ⟨([] ++ uenc s.size ++ sbytes s) ++ bs, rfl⟩
  obtain ⟨lz, HLZ⟩ : ∃ lz, Hid (lz = zs.length) := ⟨_, rfl⟩
  obtain ⟨tm, HTM⟩ : ∃ tm, Hid (tm = (uenc s.size).length + s.size) := ⟨_, rfl⟩
  have htm : 1 ≤ tm ∧ tm ≤ s.size + 11 := by have := uenc_length s.size; rw [HTM.out]; omega
  have HZ0 : Hid (([] ++ uenc s.size ++ sbytes s).length = tm) := by show _ = _; rw [List.nil_append, List.length_append, sbytes_length, HTM.out]
  have HLE2 : Hid (lz = tm + nb) := by show _ = _; rw [HLZ.out, HZS.out, List.length_append, HZ0.out, hnb]
  have hlz : tm + nb ≤ lz ∧ lz ≤ tm + nb := by have := HLE2.out; omega
  have hlb2 : IntKind.i64.wrap ((lz : Int) - (nb : Int)) = (tm : Int) := by have := HLE2.out; rw [IntKind.wrap_i64]; omega
  have hlb3 : ((tm : Int) == (lz : Int) - (nb : Int)) = true := by have := HLE2.out; rw [beq_iff_eq]; omega
  have HZX : Hid (∀ x ∈ zs, x < 256) := by rw [HZS.out, List.nil_append]; exact lt_append (lt_append (uenc_lt (by omega)) (sbytes_lt s)) hbx
  have HTX : Hid (textOf zs (s.size : Int) = (sbytes s, tm, 0)) := by show _ = _; rw [HZS.out, textOf_back s (by omega), HTM.out]
  clear hk hrk hrt hT hsz hfit hnk hnt hnb hbx hrb
  go_enter Tryd.func5, Tryd.ntmps5
  go_upto_region 1 with fail
  go_cut [3, 4, 5, 6, 7] (fun a b c d e wx => a = .int .u64 (nv : Int) ∧ b = .string s ∧ c = .slice ko nk ck ∧ d = .slice tx nt ct ∧ e = .slice bo nb cb ∧ Hid (Below w.heap.size w wx))
  case first =>
    go_quiet (fail)
    go_wp2
    go_meet
    case rel => exact ⟨rfl, rfl, rfl, rfl, rfl, below_drewN2 (below_new w _)⟩
  case rest =>
    obtain ⟨rfl, rfl, rfl, rfl, rfl, HL1⟩ := hcut
    have hs1 := HL1.out.size
    go_wp2_with fail
    refine (putUint_any nv 0 0 none [] wc hnv rfl (by decide) (.inl rfl)).mono ?_
    rintro e w2 ⟨ro, rn, rc, rfl, h2⟩
    have HO2 : Hid (Own w2 w.heap.size (.slice ro rn rc) ([] ++ uenc nv)) := h2.out.2.2.2.1.lower hs1
    have HL2 : Hid (Below w.heap.size w w2) := HL1.out.trans (h2.out.2.2.2.2.mono hs1)
    have hs2 := HL2.out.size
    clear h2
    go_wp2_with (at_builtin; refine wpList_append_bytes rfl _ _ rfl w.heap.size _ ([] ++ uenc nv) rfl HO2.out bo nb cb bs HNB.out rfl (by exact HRB.out.keep HL2.out) (by rw [List.nil_append, ← HUL.out, ← HNB.out]; omega) hs2 ?_; intro v3 w3 hown3 hgrow3; rw [← HYS.out] at hown3; obtain ⟨g3, cp3, rfl, hcp3, hrow3⟩ := own_read0 hown3 la HLA.out (by omega))
    have HL3 : Hid (Below w.heap.size w w3) := HL2.out.grown hgrow3 hs2 (fun j hj => (World.ownsRow.lt HO2.out j hj).1)
    have HR3 : Hid (Row w3 (some ⟨g3, 0, none⟩) ys) := hrow3
    have hs3 := HL3.out.size
    clear hown3 hgrow3 hrow3 HL2 HO2 hs2
    refine (uint_any la cp3 (some ⟨g3, 0, none⟩) ys w3 HLA.out (by omega) HYX.out HR3.out).mono ?_
    rintro e w4 ⟨rfl, rfl⟩
    rw [HUR.out]
    have hsl := slice_hi g3 la cp3 ul (by omega)
    go_upto_region 4 with fail
    go_cut [69] (fun c wx => c = .bool false ∧ Hid (Below w4.heap.size w4 wx))
    case first =>
      go_region_held (fun _ => True) (trivial) (first
        | (go_at_call 12; refine (num_any _ _).mono ?_; rintro e w5 ⟨rfl, rfl⟩)
        | (go_at_call 20; refine (putUint_any nv 0 0 none [] _ hnv rfl (by decide) (.inl rfl)).mono ?_; rintro e w6 ⟨po, pn, pc, rfl, h6⟩)
        | (go_at_call 19; refine (same_true' pn ul pc cp3 po (some ⟨g3, 0, none⟩) ([] ++ uenc nv) _ h6.out.1 HUN.out.symm h6.out.2.2.1 (by rw [← HYT.out]; exact (HR3.out.takeN ul).keep (below_undrewN (n := 1) h6.out.2.2.2.2)) (by rw [List.nil_append]; exact uenc_lt hnv)).mono ?_; rintro e w7 ⟨rfl, hw7⟩; subst hw7))
      go_wp2
      go_meet
      case rel => exact ⟨rfl, below_undrewN (n := 1) h6.out.2.2.2.2⟩
    case rest =>
      obtain ⟨rfl, hL4⟩ := hcut
      have HL4 : Hid (Below w.heap.size w wc) := HL3.out.trans (hL4.out.mono hs3)
      have hs4 := HL4.out.size
      clear HR3 hL4 HL3 hs3 hsl hlb1 HYX HUR HYT HUN
      go_wp2_with fail
      refine (putText_any 0 0 none [] s wc rfl (by decide) (by omega) (.inl rfl)).mono ?_
      rintro e w5 ⟨qo, qn, qc, rfl, h5⟩
      have HO5 : Hid (Own w5 w.heap.size (.slice qo qn qc) ([] ++ uenc s.size ++ sbytes s)) := h5.out.2.2.2.1.lower hs4
      have HL5 : Hid (Below w.heap.size w w5) := HL4.out.trans (h5.out.2.2.2.2.mono hs4)
      have hs5 := HL5.out.size
      clear h5
      go_wp2_with (at_builtin; refine wpList_append_bytes rfl _ _ rfl w.heap.size _ ([] ++ uenc s.size ++ sbytes s) rfl HO5.out bo nb cb bs HNB.out rfl (by exact HRB.out.keep HL5.out) (by rw [HZ0.out, ← HNB.out]; omega) hs5 ?_; intro v6 w6 hown6 hgrow6; rw [← HZS.out] at hown6; obtain ⟨g6, cp6, rfl, hcp6, hrow6⟩ := own_read0 hown6 lz HLZ.out (by omega))
      have HL6 : Hid (Below w.heap.size w w6) := HL5.out.grown hgrow6 hs5 (fun j hj => (World.ownsRow.lt HO5.out j hj).1)
      have HR6 : Hid (Row w6 (some ⟨g6, 0, none⟩) zs) := hrow6
      have hs6 := HL6.out.size
      clear hown6 hgrow6 hrow6 HL5 HO5 hs5
      refine (text_any lz cp6 (some ⟨g6, 0, none⟩) (s.size : Int) zs w6 HLZ.out hcp6 (by omega) (by omega) HZX.out HR6.out).mono ?_
      rintro e w7 ⟨rfl, rfl⟩
      rw [HTX.out]
      simp only [bstr_sbytes]
      go_wp2_with (go_at_call 12; refine (num_any _ _).mono ?_; rintro e w8 ⟨rfl, rfl⟩)
      refine (made_n nk nt ck ct ko tx ks ts fr _ HNK.out HNT.out HFR.out (by omega) (by omega) (fun s hs => by have := HSZ.out s hs; omega) (by have := HFIT.out; omega) HK.out (by exact HRK.out.keep HL6.out) (by exact HRT.out.keep HL6.out) (by exact HT.out.keep HL6.out)).mono ?_
      rintro e w9 ⟨mo, mn, mc, rfl, h9⟩
      have HL9 : Hid (Below w.heap.size w w9) := HL6.out.trans (h9.out.2.2.2.2.mono hs6)
      have HM9 : Hid (Row w9 mo (fileOf fr)) := h9.out.2.2.1
      have HMN : Hid (mn = (fileOf fr).length) := h9.out.1
      have hmc : mn ≤ mc := h9.out.2.1
      have hmn : mn ≤ 536870912 := by have := HFIT.out; rw [HMN.out]; exact this
      have hs9 := HL9.out.size
      clear h9 HR6 HL6 hs6 HL4 hs4
      go_wp2_with fail
      refine (live_true _ (by exact HT.out.keep HL9.out)).mono ?_
      rintro e w10 ⟨rfl, h10⟩
      have HL10 : Hid (Below w.heap.size w w10) := HL9.out.trans (h10.mono hs9)
      have HM10 : Hid (Row w10 mo (fileOf fr)) := HM9.out.keep h10
      have hs10 := HL10.out.size
      clear h10 HM9 HL9 hs9
      go_wp2_with fail
      refine (scan_n mn mc mo (fileOf fr) fr mn 0 _ HMN.out (by rw [HMN.out]; exact scan_whole (fun x hx => ⟨(HMEM.out x hx).1, (HMEM.out x hx).2.2.1⟩)) (by omega) hmc (fileOf_lt (fun x hx => ⟨(HMEM.out x hx).2.1, (HMEM.out x hx).2.2.2⟩)) (by exact HM10.out) (by exact HT.out.keep HL10.out)).mono ?_
      rintro e w11 ⟨fo, fc, ls, rfl, h11⟩
      have HL11 : Hid (Below w.heap.size w w11) := HL10.out.trans (h11.out.2.mono hs10)
      have HF11 : Hid (FInv w10.heap.size w11 (.slice fo fr.length fc) fr ls) := h11.out.1
      have hs11 := HL11.out.size
      clear h11 HM10 HL10 hs10
      go_wp2_with (go_at_call 12; refine (num_any _ _).mono ?_; rintro e w12 ⟨rfl, rfl⟩)
      go_loopw [22, 23] (fun a i wr => ∃ (p q : Nat), (p ≤ nk ∧ p ≤ nt ∧ q ≤ p) ∧ a = .int .i64 (q : Int) ∧ i = .int .i64 (p : Int) ∧ Hid (q = (mkF ((ks.zip ts).take p)).length) ∧ Hid (Below w12.heap.size w12 wr)) (fun _ i _ => nk - (intOf i).toNat)
      case atStart => exact ⟨0, 0, ⟨by omega, by omega, by omega⟩, rfl, rfl, rfl, Below.refl _ _⟩
      case round =>
        obtain ⟨p, q, hp, rfl, rfl, HQ, HB⟩ := hrel
        have HLR : Hid (Below w.heap.size w wr) := HL11.out.trans (HB.out.mono hs11)
        by_cases hlp : p < nk ∧ p < nt
        · obtain ⟨kb, koff, rfl⟩ := HRK.out.form (by rw [← HNK.out]; omega)
          obtain ⟨tb, toff, rfl, htc⟩ := HRT.out.form (by rw [← HNT.out]; omega)
          have HKC : Hid (wr.cell? ⟨kb, koff + p, none⟩ = some (.int .u8 ((ks.getD p 0 : Nat) : Int))) := (HRK.out.keep HLR.out).cell p (by rw [← HNK.out]; omega)
          have HTC : Hid (wr.cell? ⟨tb, toff + p, none⟩ = some (.string (ts.getD p ByteArray.empty))) := cell_kept (htc p (by rw [← HNT.out]; omega)) HLR.out
          have HST := mkF_step (ks := ks) (ts := ts) (i := p) (by rw [← HNK.out]; omega) (by rw [← HNT.out]; omega)
          have HAT := mkF_at (ks := ks) (ts := ts) (i := p) (by rw [← HNK.out]; omega) (by rw [← HNT.out]; omega)
          rw [← HFR.out, ← HQ.out] at HAT
          have hts : (ts.getD p ByteArray.empty).size ≤ 1048576 := by
            have h : p < ts.length := by rw [← HNT.out]; omega
            rw [show ts.getD p ByteArray.empty = ts[p] by simp [List.getD, h]]
            exact HSZ.out _ (List.getElem_mem h)
          obtain ⟨k, hkk⟩ : ∃ k, k = ks.getD p 0 := ⟨_, rfl⟩
          obtain ⟨x, hxx⟩ : ∃ x, x = ts.getD p ByteArray.empty := ⟨_, rfl⟩
          rw [← hkk, ← hxx] at HST HAT
          rw [← hxx] at hts
          have hkc : wr.cell? ⟨kb, koff + p, none⟩ = some (.int .u8 (k : Int)) := by rw [hkk]; exact HKC.out
          have htc2 : wr.cell? ⟨tb, toff + p, none⟩ = some (.string x) := by rw [hxx]; exact HTC.out
          clear HKC HTC hkk hxx htc
          by_cases hk0 : k = 0
          · subst hk0
            go_wp2
            go_roundw
            case rel => exact ⟨p + 1, q, ⟨by omega, by omega, by omega⟩, rfl, rfl, by show q = _; rw [HST, if_pos (.inl rfl), List.append_nil]; exact HQ.out, HB⟩
            case measure => simp [intOf]; omega
          · have hkb : ((k : Int) == 0) = false := by rw [beq_eq_false_iff_ne]; omega
            have hbb : decide ((2097152 : Int) < (x.size : Int)) = false := by simp; omega
            have hat := HAT (by omega)
            obtain ⟨l, hl1, hl2⟩ := (HF11.out.below HB.out).own q k (sbytes x) hat
            obtain ⟨gF, fcF, hv, hfcF, _, hc0, hc1⟩ := (HF11.out.below HB.out).cells hat hl1
            have hql : q < fr.length := (List.getElem?_eq_some_iff.1 hat).1
            simp only [Value.slice.injEq] at hv
            obtain ⟨rfl, _, rfl⟩ := hv
            obtain ⟨lo, lc, rfl, hlc, hlr⟩ := hl2.read
            have hcv : ∀ n, (convert 22 9 (.slice lo (sbytes x).length lc)).run Tryd.prog (wr.drewN n) = .ok (.string x) (wr.drewN n) := fun n => by
              have h := conv_row lc (hlr.drewN n)
              rw [bstr_sbytes] at h
              exact h
            have HST2 : Hid (q + 1 = (mkF ((ks.zip ts).take (p + 1))).length) := by show _ = _; rw [HST, if_neg (by omega), List.length_append, ← HQ.out]; rfl
            clear HST HAT hat hl1 hl2 hlr
            generalize (sbytes x).length = ln at *
            have hqi : (q : Int) < (fr.length : Int) := by omega
            have hpk : (p : Int) < (nk : Int) := by omega
            have hpt : (p : Int) < (nt : Int) := by omega
            have hd0 : wr.cell? ⟨gF, q * 2, none⟩ = some (.int .u8 (k : Int)) := by rw [Nat.mul_comm]; exact hc0
            have hd1 : wr.cell? ⟨gF, q * 2 + 1, none⟩ = some (.slice lo ln lc) := by rw [Nat.mul_comm]; exact hc1
            go_upto_region 21 with fail
            go_cut [180] (fun c wx => c = .bool false ∧ Hid (Below w12.heap.size w12 wx))
            case first =>
              go_quiet (fail)
              go_wp2
              go_meet
              case rel => exact ⟨rfl, below_drewN2 HB.out⟩
            case rest =>
              obtain ⟨rfl, HBc⟩ := hcut
              go_wp2
              go_roundw
              case rel =>
                first
                  | exact ⟨p + 1, q + 1, ⟨by omega, by omega, by omega⟩, rfl, rfl, HST2, HBc⟩
                  | ((repeat apply Exists.intro); exact ⟨⟨p + 1, q + 1, ⟨by omega, by omega, by omega⟩, rfl, rfl, HST2, HBc⟩, rfl⟩)
              case measure => simp [intOf]; omega
        · rcases (show (p < nk ∧ nt ≤ p) ∨ nk ≤ p by omega) with ⟨h1, h2⟩ | h1
          · have hg1 : decide ((p : Int) < nt) = false := by simp; omega
            go_wp2
            go_ret
            exact ⟨rfl, HLR.out⟩
          · have hg1 : decide ((p : Int) < nk) = false := by simp; omega
            go_wp2
            go_ret
            exact ⟨rfl, HLR.out⟩
end Go.Proofs.YtmgppjfohabdmabDoor
