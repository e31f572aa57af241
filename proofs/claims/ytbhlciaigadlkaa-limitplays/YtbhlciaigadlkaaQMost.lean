/- LimitMost, walked. -/
import Derived.Test.YtbhlciaigadlkaaQMade
import Derived.Test.YtbhlciaigadlkaaQOps
import Derived.Test.YtbhlciaigadlkaaQMostM
namespace Go.Proofs.Ytbhlciaigadlkaa
open Go.RowKit Go.Maps Go.Shelf

theorem Mine.rebase {u w w' : World} {lp : Nat} {S : LS} {G : List Nat} (h : Mine [] u w' lp S) (hb : Below w.heap.size w u) (hg : ∀ b ∈ G, b < u.heap.size) : Mine G w w' lp S := by
  obtain ⟨Y, h1, h2⟩ := h.rep
  exact ⟨⟨Y, h1, fun b hm => ⟨Nat.le_trans hb.size (h2 b hm).1, fun e => by have := hg b e; have := (h2 b hm).1; omega⟩⟩, hb.trans (h.bel.mono hb.size), fun b hb' => Nat.lt_of_lt_of_le (hg b hb') h.bel.size⟩
theorem refBad (t wn sb : Int) (h : ¬ good t wn sb) (W : World) : Calls Try.prog 9 #[.int .i64 t, .int .u64 wn, .int .i64 sb] W fun e w' => e = .returned (.tuple #[.agg #[.int .i64 0, .int .u64 0, .int .i64 0, .int .u64 0, .slice none 0 0], .int .i64 2]) ∧ Below W.heap.size W w' := by
  have := refNew_any t wn sb W
  unfold newR newE at this
  rw [if_neg h, if_neg h] at this
  exact this
def scells (t wn sb : Int) (v : Value) : List Value := [.int .i64 t, .int .u64 wn, .int .i64 sb, v]
theorem good_nat {t : Int} {wn : Nat} {sb : Int} (h : good t wn sb) (hw : wn < 18446744073709551616) : ∃ tn sn : Nat, t = (tn : Int) ∧ sb = (sn : Int) ∧ 1 ≤ tn ∧ tn ≤ 1000000 ∧ 1 ≤ wn ∧ wn < 18446744073709551616 ∧ 1 ≤ sn ∧ sn ≤ 4096 := by
  obtain ⟨h1, h2, h3, h4, h5⟩ := h
  exact ⟨t.toNat, sb.toNat, by omega, by omega, by omega, by omega, by omega, hw, by omega, by omega⟩
/-- What the law has at each round's head. -/
structure MoI (w wr : World) (N lp : Nat) (S : LS) (cs : List Value) (nm : Nm) (B K : Nat) : Prop where
  mine : Mine [N] w wr lp S
  box : Bl wr N cs 25
  mi : MI S nm B K
set_option maxHeartbeats 4000000 in
set_option maxRecDepth 100000 in
theorem limitMost_walk (t : Int) (wn : Nat) (sb : Int) (ao : Option Addr) (c : Nat) (l : List Oc) (nm : Nm) (w : World) (hw : wn < 18446744073709551616) (hS : OSee w ao l) (hO : OOk l) (hl : l.length ≤ 9223372036854775807) :
    Calls Try.prog 4 #[sval t wn sb (.slice ao l.length c), .string (str nm)] w fun e w' => e = .returned (.bool true) ∧ Below w.heap.size w w' := by
  have HLV : Hid (∀ W, Calls Try.prog 10 #[] W fun e w' => e = .returned (.bool true) ∧ Below W.heap.size W w') := hide live_true
  by_cases hg : good t wn sb
  · obtain ⟨tn, sn, rfl, rfl, hgd⟩ := good_nat hg hw
    have HM : Hid (∀ W, Calls Try.prog 13 #[sval tn wn sn (.slice ao l.length c)] W fun e w' => ∃ lp, e = .returned (pf lp) ∧ Mine [] W w' lp (fresh tn wn sn)) := hide fun W => made_any tn wn sn ao l.length c W hgd
    have HGD := hide hgd
    have HB := hide (Bl.new w #[.int .i64 (tn : Int), .int .u64 (wn : Int), .int .i64 (sn : Int), .slice ao l.length c] 25)
    have HBN := hide (below_new w (.cells #[.int .i64 (tn : Int), .int .u64 (wn : Int), .int .i64 (sn : Int), .slice ao l.length c] 25))
    have HS := hide hS
    have HO := hide hO
    have hn := hl
    generalize hnl : l.length = n at *
    have HNL := hide hnl
    clear hg hgd hw hS hO hnl hl
    unfold sval pf at *
    go_enter Try.func4, Try.ntmps4
    go_upto_region 1 with fail
    obtain ⟨N, hN⟩ : ∃ N, N = w.heap.size := ⟨_, rfl⟩
    have HNW := hide hN
    rw [← hN] at HB ⊢
    clear hN
    generalize w.alloc (.cells #[.int .i64 (tn : Int), .int .u64 (wn : Int), .int .i64 (sn : Int), .slice ao n c] 25) = u at *
    have b0 : u.cell? ⟨N, 0, none⟩ = some (.int .i64 (tn : Int)) := HB.out.cell 0
    have b1 : u.cell? ⟨N, 1, none⟩ = some (.int .u64 (wn : Int)) := HB.out.cell 1
    have b2 : u.cell? ⟨N, 2, none⟩ = some (.int .i64 (sn : Int)) := HB.out.cell 2
    have b3 : u.cell? ⟨N, 3, none⟩ = some (.slice ao n c) := HB.out.cell 3
    go_wp2_with (first
      | (go_at_call 13; refine (HM.out _).mono ?_; rintro e w1 ⟨lp, rfl, h1⟩; have H1 := hide (h1.rebase (G := [N]) HBN.out (fun b hb => by rw [List.mem_singleton.1 hb]; exact HB.out.lt)); have HB1 := hide (HB.out.keep h1.bel); clear h1 b0 b1 b2 b3)
      | (go_at_call 10; refine (HLV.out _).mono ?_; rintro e w2 ⟨rfl, h2⟩; have H2 := hide (H1.out.below h2).1; have HB2 := hide (HB1.out.keep h2); clear h2))
    go_loopw [8, 9, 10, 11] (fun a8 a9 a10 a11 wr => ∃ (C B K i : Nat), a8 = .int .u64 (C : Int) ∧ a9 = .int .u64 (B : Int) ∧ a10 = .int .i64 (K : Int) ∧ a11 = .int .i64 (i : Int) ∧ i ≤ n ∧ Hid (∃ S : LS, S.clock = C ∧ S.tries = tn ∧ S.win = wn ∧ MoI w wr N lp S (scells tn wn sn (.slice ao n c)) nm B K))
      (fun _ _ _ a11 _ => n - (match a11 with | .int _ x => x.toNat | _ => 0))
    case atStart => exact ⟨0, 0, 0, 0, rfl, rfl, rfl, rfl, Nat.zero_le _, hide ⟨fresh tn wn sn, rfl, rfl, rfl, ⟨H2.out, HB2.out, mi_start tn wn sn nm⟩⟩⟩
    case round =>
      obtain ⟨C, B, K, i, rfl, rfl, rfl, rfl, hi, hrel⟩ := hrel
      obtain ⟨S, hSC, hST, hSW, hI⟩ := hrel.out
      have HSC := hide hSC
      have HST := hide hST
      have HSW := hide hSW
      have HI := hide hI
      have b3 : wr.cell? ⟨N, 3, none⟩ = some (.slice ao n c) := hI.box.cell 3
      have hHI := hide hi
      clear hrel hSC hST hSW hI
      by_cases hin : i < n
      · have hin' : (i : Int) < (n : Int) := by omega
        obtain ⟨x, hx⟩ : ∃ x, l[i]? = some x := ⟨_, List.getElem?_eq_getElem (by rw [HNL.out]; exact hin)⟩
        obtain ⟨bb, off, hao, q0, q1, q2⟩ := (HS.out.keep HI.out.mine.bel).at hx
        subst hao
        obtain ⟨hxs, hxn⟩ := HO.out.at hx
        have HXN := hide hxn
        have HIN := hide hin
        have hwri : IntKind.i64.wrap ((i : Int) + 1) = ((i + 1 : Nat) : Int) := by rw [IntKind.wrap_i64]; omega
        obtain ⟨xk, xs, xn⟩ := x
        simp only at q0 q1 q2 hxs HXN
        have HMO := hide (HI.out.mine.more (.cells #[.int .i64 xk, .string (str xs), .int .u64 (xn : Int)] 40) rfl)
        have HBO := hide (HI.out.box.alloc (.cells #[.int .i64 xk, .string (str xs), .int .u64 (xn : Int)] 40))
        have HXO := hide (Bl.new wr #[.int .i64 xk, .string (str xs), .int .u64 (xn : Int)] 40)
        clear hi hx hxs hxn hin
        go_upto_region 10 with fail
        obtain ⟨A, hA⟩ : ∃ A, A = wr.heap.size := ⟨_, rfl⟩
        rw [← hA] at HMO HXO ⊢
        clear hA q0 q1 q2 b3
        generalize wr.alloc (.cells #[.int .i64 xk, .string (str xs), .int .u64 (xn : Int)] 40) = u1 at *
        have q1 : u1.cell? ⟨A, 1, none⟩ = some (.string (str xs)) := HXO.out.cell 1
        have q2 : u1.cell? ⟨A, 2, none⟩ = some (.int .u64 (xn : Int)) := HXO.out.cell 2
        have HTR := hide (try_g HMO.out xs xn HXN.out)
        have HP := hide (fun hp => mi_pass HI.out.mine.ok (nm' := xs) (now := xn) HXN.out HI.out.mi hp)
        have HCT := hide (fun (e : nm = xs) a b => mi_count HI.out.mine.ok (nm := xs) (now := xn) HXN.out (by rw [← e]; exact HI.out.mi) a b)
        have HCL := hide (try_clock S xs xn)
        have HT2 := hide (try_tries S xs xn)
        have HW2 := hide (try_win S xs xn)
        unfold two at HTR
        rw [HSC.out] at HCL
        rw [HST.out] at HT2 HCT
        rw [HSW.out] at HW2
        generalize S.try xs xn = r at *
        obtain ⟨R, ln, en⟩ := r
        simp only at HTR HP HCT HCL HT2 HW2
        have hsz := str_size xs
        go_upto_region 11 with (first | (go_at_call 14; refine HTR.out.mono ?_; rintro e w3 ⟨rfl, h3, k3⟩; have H3 := hide h3; have HX3 := hide (k3.bl (by simp) HXO.out); have HB3 := hide (k3.bl (by simp) HBO.out); clear h3 k3 q1 q2; have q1 : w3.cell? ⟨A, 1, none⟩ = some (.string (str xs)) := HX3.out.cell 1; have q2 : w3.cell? ⟨A, 2, none⟩ = some (.int .u64 (xn : Int)) := HX3.out.cell 2; have q3 : w3.cell? ⟨N, 0, none⟩ = some (.int .i64 (tn : Int)) := HB3.out.cell 0; have q4 : w3.cell? ⟨N, 1, none⟩ = some (.int .u64 (wn : Int)) := HB3.out.cell 1))
        have HCN := hide HCL.out.symm
        have HRC := hide H3.out.ok.clock
        have HF : Hid (clockN C xs xn = R.clock) := hide HCL.out.symm
        obtain ⟨F1, hF1⟩ : ∃ F1, F1 = decide (xs.length ≤ 256 ∧ C < xn) := ⟨_, rfl⟩
        have HF1 := hide hF1
        clear hF1
        go_cut [68] (fun a wx => a = .bool F1 ∧ wx = w3)
        case first =>
          by_cases h256 : xs.length ≤ 256
          · have h256' : (xs.length : Int) ≤ 256 := by omega
            by_cases hlt : C < xn
            · have hlt' : (C : Int) < (xn : Int) := by omega
              have HT : Hid (F1 = true) := hide (by rw [HF1.out]; exact decide_eq_true ⟨h256, hlt⟩)
              clear h256 hlt
              go_wp2
              go_meet
              case rel => exact ⟨by rw [HT.out], rfl⟩
            · have hlt' : ¬ (C : Int) < (xn : Int) := by omega
              have HT : Hid (F1 = false) := hide (by rw [HF1.out]; exact decide_eq_false fun h => hlt h.2)
              clear h256 hlt
              go_wp2
              go_meet
              case rel => exact ⟨by rw [HT.out], rfl⟩
          · have h256' : ¬ (xs.length : Int) ≤ 256 := by omega
            have HT : Hid (F1 = false) := hide (by rw [HF1.out]; exact decide_eq_false fun h => h256 h.1)
            clear h256
            go_wp2
            go_meet
            case rel => exact ⟨by rw [HT.out], rfl⟩
        case rest =>
          obtain ⟨rfl, hwc⟩ := hcut
          have hwd := hwc.symm
          subst hwd
          clear hwc
          go_upto_if 68 with fail
          go_cut [8] (fun a wx => a = .int .u64 (R.clock : Int) ∧ wx = w3)
          case first =>
            cases F1 with
            | true =>
              go_wp2
              go_meet
              case rel =>
                refine ⟨?_, rfl⟩
                rw [← HF.out]
                unfold clockN
                rw [if_pos (of_decide_eq_true HF1.out.symm)]
            | false =>
              go_wp2
              go_meet
              case rel =>
                refine ⟨?_, rfl⟩
                rw [← HF.out]
                unfold clockN
                rw [if_neg (of_decide_eq_false HF1.out.symm)]
          case rest =>
            obtain ⟨rfl, hwc⟩ := hcut
            have hwd := hwc.symm
            subst hwd
            clear hwc HF HF1 HCL
            have HEND : Hid (∀ B' K', MI R nm B' K' → ∃ S' : LS, S'.clock = R.clock ∧ S'.tries = tn ∧ S'.win = wn ∧ MoI w w3 N lp S' (scells tn wn sn (.slice (some ⟨bb, off, none⟩) n c)) nm B' K') := hide fun B' K' h => ⟨R, rfl, HT2.out, HW2.out, ⟨H3.out.less (fun b hb => by simp at hb ⊢; exact .inr hb), HB3.out, h⟩⟩
            have HBK : Hid (B ≤ R.clock) := hide (by have h1 := HI.out.mi.bc; have h2 := HCN.out; have h3 := HSC.out; unfold clockN at h2; split at h2 <;> omega)
            have HKT : Hid (K ≤ 1000000) := hide (by have h1 := HI.out.mi.kt; have h2 := HST.out; have h3 := HGD.out.2.1; omega)
            have HCC : Hid (cntN R B K = if 0 < K ∧ wn ≤ R.clock - B then 0 else K) := hide (by unfold cntN; rw [HW2.out])
            clear HCN
            generalize R.clock = D at *
            generalize cntN R B K = K0 at *
            go_upto_region 13 with fail
            obtain ⟨F2, hF2⟩ : ∃ F2, F2 = decide (xs ≠ nm ∨ en = 5 ∨ en = 1) := ⟨_, rfl⟩
            have HF2 := hide hF2
            clear hF2
            go_cut [84] (fun a wx => a = .bool F2 ∧ wx = w3)
            case first =>
              by_cases hxe : xs = nm
              · have hq : ((str xs).toList == (str nm).toList) = true := by rw [str_beq]; exact decide_eq_true hxe
                have hq' : ((str xs).toList != (str nm).toList) = false := by rw [bne, hq]; rfl
                by_cases h5 : en = 5
                · have HT : Hid (F2 = true) := hide (by rw [HF2.out]; exact decide_eq_true (.inr (.inl h5)))
                  have h5' : ((en : Int) == 5) = true := by simp; omega
                  clear h5 hxe
                  go_wp2_with (first | (go_at_call 11; refine (num_any _ _).mono ?_; rintro e wx ⟨rfl, hwx⟩; have hwy := hwx.symm; subst hwy; clear hwx))
                  go_meet
                  case rel => exact ⟨by rw [HT.out], rfl⟩
                · have h5' : ((en : Int) == 5) = false := by simp; omega
                  by_cases h1 : en = 1
                  · have HT : Hid (F2 = true) := hide (by rw [HF2.out]; exact decide_eq_true (.inr (.inr h1)))
                    have h1' : ((en : Int) == 1) = true := by simp; omega
                    clear h5 h1 hxe
                    go_wp2_with (first | (go_at_call 11; refine (num_any _ _).mono ?_; rintro e wx ⟨rfl, hwx⟩; have hwy := hwx.symm; subst hwy; clear hwx))
                    go_meet
                    case rel => exact ⟨by rw [HT.out], rfl⟩
                  · have HT : Hid (F2 = false) := hide (by rw [HF2.out]; exact decide_eq_false (fun h => h.elim (fun h => h hxe) (fun h => h.elim h5 h1)))
                    have h1' : ((en : Int) == 1) = false := by simp; omega
                    clear h5 h1 hxe
                    go_wp2_with (first | (go_at_call 11; refine (num_any _ _).mono ?_; rintro e wx ⟨rfl, hwx⟩; have hwy := hwx.symm; subst hwy; clear hwx))
                    go_meet
                    case rel => exact ⟨by rw [HT.out], rfl⟩
              · have hq : ((str xs).toList == (str nm).toList) = false := by rw [str_beq]; exact decide_eq_false hxe
                have hq' : ((str xs).toList != (str nm).toList) = true := by rw [bne, hq]; rfl
                have HT : Hid (F2 = true) := hide (by rw [HF2.out]; exact decide_eq_true (.inl hxe))
                clear hxe
                go_wp2_with (first | (go_at_call 11; refine (num_any _ _).mono ?_; rintro e wx ⟨rfl, hwx⟩; have hwy := hwx.symm; subst hwy; clear hwx))
                go_meet
                case rel => exact ⟨by rw [HT.out], rfl⟩
            case rest =>
              obtain ⟨rfl, hwc⟩ := hcut
              have hwd := hwc.symm
              subst hwd
              clear hwc
              cases F2 with
              | true =>
                have hp := of_decide_eq_true HF2.out.symm
                have HE := hide (HEND.out B K (HP.out hp))
                clear hp
                go_wp2
                go_roundw
                case rel => exact ⟨D, B, K, i + 1, rfl, rfl, rfl, by first | rfl | simp, HIN.out, HE⟩
                case measure => have := HIN.out; simp; omega
              | false =>
                have hp := of_decide_eq_false HF2.out.symm
                have hxe : nm = xs := Classical.byContradiction fun h => hp (.inl (Ne.symm h))
                have HCO := hide (HCT.out hxe (fun h => hp (.inr (.inl h))) (fun h => hp (.inr (.inr h))))
                rw [← hxe] at HCO
                clear hp hxe HCT HP
                go_upto_region 14 with fail
                obtain ⟨F3, hF3⟩ : ∃ F3, F3 = decide (0 < K ∧ wn ≤ D - B) := ⟨_, rfl⟩
                have HF3 := hide hF3
                clear hF3
                have hbd := HBK.out
                have hdd := HRC.out
                go_cut [94] (fun a wx => a = .bool F3 ∧ wx = w3)
                case first =>
                  by_cases hk : 0 < K
                  · have hk' : 0 < (K : Int) := by omega
                    by_cases hw : wn ≤ D - B
                    · have hw' : (wn : Int) ≤ (D : Int) - (B : Int) := by omega
                      have HT : Hid (F3 = true) := hide (by rw [HF3.out]; exact decide_eq_true ⟨hk, hw⟩)
                      clear hk hw
                      go_wp2
                      go_meet
                      case rel => exact ⟨by rw [HT.out], rfl⟩
                    · have hw' : ¬ (wn : Int) ≤ (D : Int) - (B : Int) := by omega
                      have HT : Hid (F3 = false) := hide (by rw [HF3.out]; exact decide_eq_false fun h => hw h.2)
                      clear hk hw
                      go_wp2
                      go_meet
                      case rel => exact ⟨by rw [HT.out], rfl⟩
                  · have hk' : ¬ 0 < (K : Int) := by omega
                    have HT : Hid (F3 = false) := hide (by rw [HF3.out]; exact decide_eq_false fun h => hk h.1)
                    clear hk
                    go_wp2
                    go_meet
                    case rel => exact ⟨by rw [HT.out], rfl⟩
                case rest =>
                  obtain ⟨rfl, hwc⟩ := hcut
                  have hwd := hwc.symm
                  subst hwd
                  clear hwc
                  go_upto_if 94 with fail
                  go_cut [10] (fun a wx => a = .int .i64 (K0 : Int) ∧ wx = w3)
                  case first =>
                    cases F3 with
                    | true =>
                      go_wp2
                      go_meet
                      case rel =>
                        refine ⟨?_, rfl⟩
                        rw [HCC.out, if_pos (of_decide_eq_true HF3.out.symm)]
                        first | rfl | simp
                    | false =>
                      go_wp2
                      go_meet
                      case rel =>
                        refine ⟨?_, rfl⟩
                        rw [HCC.out, if_neg (of_decide_eq_false HF3.out.symm)]
                  case rest =>
                    obtain ⟨rfl, hwc⟩ := hcut
                    have hwd := hwc.symm
                    subst hwd
                    clear hwc
                    by_cases h80 : en = 80
                    · have h80' : ((en : Int) == 80) = true := by simp; omega
                      rcases HCO.out with ⟨_, h2, h3⟩ | ⟨h2, _⟩
                      · have HE := hide (HEND.out B K0 h3)
                        have hkt : ¬ (K0 : Int) < (tn : Int) := by omega
                        clear h80 h2 h3
                        go_wp2_with (first | (go_at_call 11; refine (num_any _ _).mono ?_; rintro e wx ⟨rfl, hwx⟩; have hwy := hwx.symm; subst hwy; clear hwx))
                        go_roundw
                        case rel => exact ⟨D, B, K0, i + 1, rfl, rfl, rfl, by first | rfl | simp, HIN.out, HE⟩
                        case measure => have := HIN.out; simp; omega
                      · omega
                    · have h80' : ((en : Int) == 80) = false := by simp; omega
                      rcases HCO.out with ⟨h1, _⟩ | ⟨h0, hle, hln, hmi⟩
                      · exact absurd h1 h80
                      · have hn0 : ((en : Int) == 0) = true := by simp; omega
                        have hn0' : ((en : Int) != 0) = false := by simp; omega
                        have HE := hide (HEND.out _ _ hmi)
                        have hwk : IntKind.i64.wrap ((K0 : Int) + 1) = ((K0 + 1 : Nat) : Int) := by have := HGD.out.2.1; rw [IntKind.wrap_i64]; omega
                        have hwl : IntKind.i64.wrap ((tn : Int) - ((K0 + 1 : Nat) : Int)) = (ln : Int) := by have := HGD.out.2.1; rw [IntKind.wrap_i64]; omega
                        have hgt : ¬ (tn : Int) < ((K0 + 1 : Nat) : Int) := by omega
                        have HK1 : Hid (((K0 + 1 : Nat) : Int) = (K0 : Int) + 1) := hide (by omega)
                        obtain ⟨B1, hB1⟩ : ∃ B1, B1 = if K0 = 0 then D else B := ⟨_, rfl⟩
                        have HB1' := hide hB1
                        rw [← hB1] at HE
                        generalize K0 + 1 = K1 at *
                        clear h80 h0 hle hln hmi hB1
                        go_upto_if 103 with (first | (go_at_call 11; refine (num_any _ _).mono ?_; rintro e wx ⟨rfl, hwx⟩; have hwy := hwx.symm; subst hwy; clear hwx))
                        go_cut [9] (fun a wx => a = .int .u64 (B1 : Int) ∧ wx = w3)
                        case first =>
                          by_cases hz : K0 = 0
                          · have hz' : ((K0 : Int) == 0) = true := by simp; omega
                            have HZ := hide hz
                            clear hz
                            go_wp2
                            go_meet
                            case rel =>
                              refine ⟨?_, rfl⟩
                              rw [HB1'.out, if_pos HZ.out]
                          · have hz' : ((K0 : Int) == 0) = false := by simp; omega
                            have HZ := hide hz
                            clear hz
                            go_wp2
                            go_meet
                            case rel =>
                              refine ⟨?_, rfl⟩
                              rw [HB1'.out, if_neg HZ.out]
                        case rest =>
                          obtain ⟨rfl, hwc⟩ := hcut
                          have hwd := hwc.symm
                          subst hwd
                          clear hwc
                          go_wp2_with (first | (go_at_call 11; refine (num_any _ _).mono ?_; rintro e wx ⟨rfl, hwx⟩; have hwy := hwx.symm; subst hwy; clear hwx))
                          go_roundw
                          case rel => exact ⟨D, B1, K1, i + 1, rfl, rfl, by first | rfl | simp, by first | rfl | simp, HIN.out, HE⟩
                          case measure => have := HIN.out; simp; omega
      · have hin' : ¬ (i : Int) < (n : Int) := by omega
        clear hi hin
        go_wp2
        go_ret
        exact ⟨rfl, HI.out.mine.bel⟩
  · have HM : Hid (∀ W, Calls Try.prog 13 #[sval t wn sb (.slice ao l.length c)] W fun e w' => e = .returned (.pointer none) ∧ Below W.heap.size W w') := hide fun W => made_bad t wn sb ao l.length c W hg
    have HR := hide (refBad t wn sb hg)
    have HBN := hide (below_new w (.cells #[.int .i64 t, .int .u64 (wn : Int), .int .i64 sb, .slice ao l.length c] 25))
    have HB := hide (Bl.new w #[.int .i64 t, .int .u64 (wn : Int), .int .i64 sb, .slice ao l.length c] 25)
    generalize l.length = n at *
    clear hg hw hS hO hl
    unfold sval at *
    go_enter Try.func4, Try.ntmps4
    go_upto_region 1 with fail
    obtain ⟨N, hN⟩ : ∃ N, N = w.heap.size := ⟨_, rfl⟩
    rw [← hN] at HB ⊢
    clear hN
    generalize w.alloc (.cells #[.int .i64 t, .int .u64 (wn : Int), .int .i64 sb, .slice ao n c] 25) = u at *
    have b0 : u.cell? ⟨N, 0, none⟩ = some (.int .i64 t) := HB.out.cell 0
    have b1 : u.cell? ⟨N, 1, none⟩ = some (.int .u64 (wn : Int)) := HB.out.cell 1
    have b2 : u.cell? ⟨N, 2, none⟩ = some (.int .i64 sb) := HB.out.cell 2
    have b3 : u.cell? ⟨N, 3, none⟩ = some (.slice ao n c) := HB.out.cell 3
    go_wp2_with (first
      | (go_at_call 13; refine (HM.out _).mono ?_; rintro e w1 ⟨rfl, h1⟩; have H1 := hide (HBN.out.trans (h1.mono HBN.out.size)); have HB1 := hide (HB.out.keep h1); clear h1 b0 b1 b2 b3; have b0 : w1.cell? ⟨N, 0, none⟩ = some (.int .i64 t) := HB1.out.cell 0; have b1 : w1.cell? ⟨N, 1, none⟩ = some (.int .u64 (wn : Int)) := HB1.out.cell 1; have b2 : w1.cell? ⟨N, 2, none⟩ = some (.int .i64 sb) := HB1.out.cell 2)
      | (go_at_call 9; refine (HR.out _).mono ?_; rintro e w2 ⟨rfl, h2⟩; have H2 := hide (H1.out.trans (h2.mono H1.out.size)); clear h2)
      | (go_at_call 10; refine (HLV.out _).mono ?_; rintro e w3 ⟨rfl, h3⟩; have H3 := hide h3; clear h3))
    go_ret
    have h4 := H2.out.trans ((below_new w2 (.cells #[.int .i64 0, .int .u64 0, .int .i64 0, .int .u64 0, .slice none 0 0] 32)).mono H2.out.size)
    exact ⟨rfl, h4.trans (H3.out.mono h4.size)⟩
theorem limitMost_card (t : Int) (wn : Nat) (sb : Int) (ao : Option Addr) (c : Nat) (l : List Oc) (s : ByteArray) (w : World) (hw : wn < 18446744073709551616) (hS : OSee w ao l) (hO : OOk l) (hl : l.length ≤ 9223372036854775807) :
    Calls Try.prog 4 #[.agg #[.int .i64 t, .int .u64 (wn : Int), .int .i64 sb, .slice ao l.length c], .string s] w fun e w' => e = .returned (.bool true) ∧ Below w.heap.size w w' := by
  have := limitMost_walk t wn sb ao c l (nmOf s) w hw hS hO hl
  rw [str_nmOf] at this
  exact this
end Go.Proofs.Ytbhlciaigadlkaa
