/- The walk of the law FrameTorn: every kinds, texts, last text and place within a size: it returns true and turns nothing old. -/
import Derived.Deep.DeepCutAuto
import Derived.BigQuiet
import Derived.Deep.RegionLaw
import Derived.Test.YtmgppjfohabdmabDoorFileMath
import Derived.Test.YtmgppjfohabdmabDoorScan
import Derived.Test.YtmgppjfohabdmabDoorSmall
namespace Go.Proofs.YtmgppjfohabdmabDoor
open Go.RowKit

theorem below_drewN' {B n : Nat} {w w' : World} (h : Below B w w') : Below B w (w'.drewN n) := ⟨h.os, h.tape, h.output, h.size, h.block⟩

theorem grown_new {wc w8 : World} {o : Obj} {n c : Nat} (h : ((wc.alloc o).drew).grownBy w8 (Value.slice (some ⟨wc.heap.size, 0, none⟩) n c).ownBlock) : Below wc.heap.size wc w8 := by
  refine ((below_new wc o).drew).grown h ?_ ?_
  · show wc.heap.size ≤ (wc.alloc o).heap.size
    simp
  · intro k hk
    cases hk
    exact Nat.le_refl _
theorem cut_form (A n : Nat) (hn : n ≤ 1073741824) : wrap64 (1 + (A : Int) % (9 + (n : Int) - 1)) = ((1 + A % (8 + n) : Nat) : Int) := by
  have e : (9 + (n : Int) - 1) = ((8 + n : Nat) : Int) := by omega
  have h : A % (8 + n) < 8 + n := Nat.mod_lt _ (by omega)
  rw [e, ← Int.natCast_emod]
  generalize A % (8 + n) = r at *
  unfold wrap64
  omega
theorem slice_to (g n cap hi : Nat) (hh : hi ≤ cap) (w : World) : (Instr.slice 22 (.slice (some ⟨g, 0, none⟩) n cap) none (some (.int .i64 (hi : Int))) none).run Tryd.prog w = .ok (.slice (some ⟨g, 0, none⟩) hi cap) w := by
  rw [run_slice_h w 22 (some ⟨g, 0, none⟩) n cap underBytes .i64 (hi : Int) (by omega) (by omega), sizeRun]
  simp [Result.andThen, sliced, add_none]

set_option maxHeartbeats 1600000 in
set_option maxRecDepth 100000 in
theorem frameTorn_walk (ck ct : Nat) (ko tx : Option Addr) (ks : List Nat) (ts : List ByteArray) (s : ByteArray) (cut : Int) (w : World) (hlk : ks.length ≤ 1073741824) (hlt : ts.length ≤ 1073741824) (hsz : ∀ s ∈ ts, s.size ≤ 1073741824) (hfit : (fileOf (mkF (ks.zip ts))).length ≤ 536870912) (hs : s.size ≤ 1073741824)
    (hm : -9223372036854775808 ≤ cut ∧ cut ≤ 9223372036854775807) (hk : ∀ x ∈ ks, x < 256) (hrk : Row w ko ks) (hrt : SRow w tx ts) (hT : Tab w) :
    Calls Tryd.prog 7 #[.agg #[.slice ko ks.length ck, .slice tx ts.length ct, .string s, .int .i64 cut]] w fun e w' => e = .returned (.bool true) ∧ Below w.heap.size w w' := by
  have HK : Hid (∀ x ∈ ks, x < 256) := hk
  have HRK : Hid (Row w ko ks) := hrk
  have HRT : Hid (SRow w tx ts) := hrt
  have HT : Hid (Tab w) := hT
  have HSZ : Hid (∀ s ∈ ts, s.size ≤ 1073741824) := hsz
  obtain ⟨fr, HFR⟩ : ∃ fr, Hid (fr = mkF (ks.zip ts)) := ⟨_, rfl⟩
  have HFIT : Hid ((fileOf fr).length ≤ 536870912) := by show _ ≤ _; rw [HFR.out]; exact hfit
  have HMEM : Hid (∀ x ∈ fr, 0 < x.1 ∧ x.1 < 256 ∧ x.2.length ≤ 2097152 ∧ ∀ y ∈ x.2, y < 256) := fun x hx => by
    rw [HFR.out] at hx
    exact mkF_mem hx (fun y hy => hk _ (List.of_mem_zip hy).1)
  clear hk hrk hrt hT hsz hfit
  go_enter Tryd.func7, Tryd.ntmps7
  go_upto_region 1 with fail
  go_cut [3, 4, 5, 6] (fun a b c d wx => a = .slice ko ks.length ck ∧ b = .slice tx ts.length ct ∧ c = .string s ∧ d = .int .i64 cut ∧ Hid (Below w.heap.size w wx))
  case first =>
    go_quiet (fail)
    go_wp2
    go_meet
    case rel => exact ⟨rfl, rfl, rfl, rfl, below_drewN' (below_new w _)⟩
  case rest =>
    obtain ⟨rfl, rfl, rfl, rfl, hc1⟩ := hcut
    have HT1 : Hid (Tab wc) := HT.out.keep hc1.out
    have HRK1 : Hid (Row wc ko ks) := HRK.out.keep hc1.out
    have HRT1 : Hid (SRow wc tx ts) := HRT.out.keep hc1.out
    have hs1 := hc1.out.size
    clear HRK HRT
    go_wp2_with fail
    refine (made_any ck ct ko tx ks ts wc hlk hlt HSZ.out (by rw [← HFR.out]; have := HFIT.out; omega) HK.out HRK1.out HRT1.out HT1.out).mono ?_
    rintro e w2 ⟨bo, bn, bc, rfl, h2⟩
    rw [← HFR.out] at h2 ⊢
    have HM2 : Hid (Made wc w2 bo bn bc (fileOf fr)) := h2
    have HL2 : Hid (Below w.heap.size w w2) := hc1.out.trans (HM2.out.2.2.2.2.mono hs1)
    have HT2 : Hid (Tab w2) := HT1.out.keep HM2.out.2.2.2.2
    have hs2 := HL2.out.size
    clear h2 HT1 HRK1 HRT1 hlk hlt HSZ
    go_wp2_with fail
    refine (live_true _ (by exact HT2.out)).mono ?_
    rintro e w3 ⟨rfl, h3⟩
    have HL3 : Hid (Below w.heap.size w w3) := HL2.out.trans (h3.mono hs2)
    have HT3 : Hid (Tab w3) := HT2.out.keep h3
    have HR3 : Hid (Row w3 bo (fileOf fr)) := HM2.out.2.2.1.keep h3
    have HBN : Hid (bn = (fileOf fr).length ∧ bn ≤ bc) := ⟨HM2.out.1, HM2.out.2.1⟩
    have hs3 := HL3.out.size
    clear h3 HM2 HT2 HL2 hs2 hc1 hs1
    by_cases hbig : 2097152 < s.size
    · have hbb : decide ((2097152 : Int) < (s.size : Int)) = true := by simp; omega
      go_wp2
      go_ret
      exact ⟨rfl, HL3.out⟩
    · have hbb : decide ((2097152 : Int) < (s.size : Int)) = false := by simp; omega
      obtain ⟨sc, w4, hcv, hrow4, hb4⟩ : ∃ sc w4, (convert 9 22 (.string s)).run Tryd.prog w3 = .ok (.slice (some ⟨w3.heap.size, 0, none⟩) s.size sc) w4 ∧ Hid (Row w4 (some ⟨w3.heap.size, 0, none⟩) (sbytes s)) ∧ Hid (Below w3.heap.size w3 w4) := by
        obtain ⟨sc, w4, h1, h2, h3⟩ := conv_text w3 s
        exact ⟨sc, w4, h1, h2, h3⟩
      have HL4 : Hid (Below w.heap.size w w4) := HL3.out.trans (hb4.out.mono hs3)
      have HSL : Hid (s.size = (sbytes s).length) := (sbytes_length s).symm
      go_wp2_with fail
      refine (seal_n sc 255 255 rfl (some ⟨w3.heap.size, 0, none⟩) s.size (sbytes s) w4 (by decide) (by decide) HSL.out (by omega) (sbytes_lt s) hrow4.out (HT3.out.keep hb4.out)).mono ?_
      rintro e w5 ⟨rfl, h5⟩
      have HL5 : Hid (Below w.heap.size w w5) := HL4.out.trans (h5.out.2.mono HL4.out.size)
      have HP5 : Hid (Blk w5 w4.heap.size (sealed 255 (sbytes s))) := h5.out.1
      have HR5 : Hid (Row w5 bo (fileOf fr)) := (HR3.out.keep hb4.out).keep h5.out.2
      have HT5 : Hid (Tab w5) := (HT3.out.keep hb4.out).keep h5.out.2
      have hs5 := HL5.out.size
      clear h5 HL4 HL3 HT3 HR3 hs3 hb4 hrow4 hcv
      obtain ⟨g, HG⟩ : ∃ g, Hid (g = w4.heap.size) := ⟨_, rfl⟩
      rw [← HG.out] at HP5 ⊢
      clear HG
      go_upto_if 57 with (go_at_call 12; refine (num_any _ _).mono ?_; rintro e w6 ⟨rfl, rfl⟩)
      go_cut [6] (fun a wx => ∃ A0 : Nat, a = .int .i64 (A0 : Int) ∧ A0 ≤ 9223372036854775807 ∧ wx = w6)
      case first =>
        by_cases hneg : cut < 0
        · have hnb : decide (cut < 0) = true := by simp [hneg]
          go_wp2
          go_meet
          case rel => exact ⟨(-(cut + 1)).toNat, by congr 1; omega, by omega, rfl⟩
        · have hnb : decide (cut < 0) = false := by simp [hneg]
          go_wp2
          go_meet
          case rel => exact ⟨cut.toNat, by congr 1; omega, by omega, rfl⟩
      case rest =>
        obtain ⟨A0, rfl, hA0, hw⟩ := hcut
        subst hw
        go_upto_region 12 with fail
        go_cut [6] (fun a wx => ∃ c : Nat, a = .int .i64 (c : Int) ∧ (0 < c ∧ c < 9 + s.size) ∧ wx = wc)
        case first =>
          go_wp2
          go_meet
          case rel =>
            have hlt : A0 % (8 + s.size) < 8 + s.size := Nat.mod_lt _ (by omega)
            exact ⟨1 + A0 % (8 + s.size), by rw [cut_form A0 s.size hs], by omega, rfl⟩
        case rest =>
          obtain ⟨c, rfl, hc, hw⟩ := hcut
          subst hw
          have hsl := slice_to g (9 + s.size) (9 + s.size) c (by omega)
          have HTL : Hid (c = ((sealed 255 (sbytes s)).take c).length) := by show c = _; rw [List.length_take, sealed_length, sbytes_length]; omega
          have HXL : Hid ((fileOf fr).length + c ≤ 1073741824) := by show _ ≤ _; have := HFIT.out; omega
          have HW : ∀ o, Hid (Below wc.heap.size wc (wc.alloc o).drew) := fun o => (below_new wc o).drew
          have HO0 : Hid (Own (wc.alloc (.cells #[] 5)).drew w.heap.size (.slice (some ⟨wc.heap.size, 0, none⟩) 0 0) []) := own_new wc w.heap.size [] (by omega) (Nat.zero_le _)
          obtain ⟨ys, HYS⟩ : ∃ ys, Hid (ys = ([] ++ fileOf fr) ++ (sealed 255 (sbytes s)).take c) := ⟨([] ++ fileOf fr) ++ (sealed 255 (sbytes s)).take c, rfl⟩
          have HYL : Hid (ys.length ≤ 1073741824) := by show _ ≤ _; rw [HYS.out, List.length_append, ← HTL.out]; exact HXL.out
          have HYX : Hid (∀ x ∈ ys, x < 256) := by
            rw [HYS.out, List.nil_append]
            exact lt_append (fileOf_lt (fun x hx => ⟨(HMEM.out x hx).2.1, (HMEM.out x hx).2.2.2⟩)) (lt_take (sealed_lt (by decide) (sbytes_lt s)) c)
          have HSCAN : Hid (scanR ys.length ys = (fr, bn, 3)) := by
            show _ = _
            rw [HYS.out, List.nil_append, HBN.out.1]
            exact scan_torn (fun x hx => ⟨(HMEM.out x hx).1, (HMEM.out x hx).2.2.1⟩) (by rw [sbytes_length]; omega) (by rw [sbytes_length]; exact hc.2) hc.1
          go_upto_region 13 with fail
          go_region_law? (first
            | (refine law_append rfl (.tmp 68) (.tmp 69) rfl w.heap.size _ [] rfl HO0.out bo bn bc (fileOf fr) HBN.out.1 rfl (by exact HR5.out.keep (HW _).out) (by have := HXL.out; simp; omega) (by simp; omega) ?_; intro v1 w8 hown1 hgrow1; have HL8 : Hid (Below wc.heap.size wc w8) := grown_new hgrow1)
            | (refine law_append rfl (.tmp 70) (.tmp 73) rfl w.heap.size _ ([] ++ fileOf fr) rfl hown1 (some ⟨g, 0, none⟩) c (9 + s.size) ((sealed 255 (sbytes s)).take c) HTL.out rfl (by exact (HP5.out.row.takeN c).keep HL8.out) (by rw [← HTL.out, List.nil_append]; have := HXL.out; omega) (Nat.le_trans hs5 HL8.out.size) ?_; intro v2 w9 hown2 hgrow2; have HL9 : Hid (Below w.heap.size w w9) := (HL5.out.trans (HL8.out.mono hs5)).grown hgrow2 (Nat.le_trans hs5 HL8.out.size) (fun j hj => (World.ownsRow.lt hown1 j hj).1); rw [← HYS.out] at hown2; obtain ⟨ao2, cp2, rfl, hcp2, hrow2⟩ := hown2.read)
            | (refine law_call rfl 10 #[.slice ao2 ys.length cp2] (by unfold execOp; simp; go_simp) ?_; refine (scan_any cp2 ao2 ys w9 HYL.out hcp2 HYX.out hrow2 (HT.out.keep HL9.out)).mono ?_; rintro e w10 ⟨v, ls, rfl, h10⟩; rw [HSCAN.out] at h10 ⊢; obtain ⟨fo, fc, rfl, hfc⟩ := h10.out.1.shape; refine ⟨_, rfl, ?_⟩))
          have HL10 : Hid (Below w.heap.size w w10) := HL9.out.trans (h10.out.2.mono HL9.out.size)
          clear h10 hown2 hgrow2 hrow2 hown1 hgrow1 HL8 HL9
          go_wp2_with (go_at_call 12; refine (num_any _ _).mono ?_; rintro e w11 ⟨rfl, rfl⟩)
          go_ret
          exact ⟨by simp, HL10.out⟩
end Go.Proofs.YtmgppjfohabdmabDoor
