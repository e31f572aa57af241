/- LimitWaits, walked. -/
import Derived.Test.YtgoffndfchlmkaaQWaitsA
namespace Go.Proofs.Ytgoffndfchlmkaa
open Go.RowKit Go.Maps Go.Shelf

set_option maxHeartbeats 2000000 in
set_option maxRecDepth 100000 in
theorem waits_main (tn wn sn : Nat) (ao : Option Addr) (c : Nat) (l : List Oc) (nm : Nm) (w : World) (hgd : 1 ≤ tn ∧ tn ≤ 1000000 ∧ 1 ≤ wn ∧ wn < 18446744073709551616 ∧ 1 ≤ sn ∧ sn ≤ 4096) (hS : OSee w ao l) (hO : OOk l) (hll : l.length ≤ 9223372036854775807) (hl : nm.length ≤ 256) :
    Calls Try.prog 5 #[sval tn wn sn (.slice ao l.length c), .string (str nm)] w fun e w' => e = .returned (.bool true) ∧ Below w.heap.size w w' := by
  have HLV : Hid (∀ W, Calls Try.prog 10 #[] W fun e w' => e = .returned (.bool true) ∧ Below W.heap.size W w') := hide live_true
  have HM : Hid (∀ W, Calls Try.prog 13 #[sval tn wn sn (.slice ao l.length c)] W fun e w' => ∃ lp, e = .returned (pf lp) ∧ Mine [] W w' lp (fresh tn wn sn)) := hide fun W => made_any tn wn sn ao l.length c W hgd
  have HB := hide (Bl.new w #[.int .i64 (tn : Int), .int .u64 (wn : Int), .int .i64 (sn : Int), .slice ao l.length c] 25)
  have HBN := hide (below_new w (.cells #[.int .i64 (tn : Int), .int .u64 (wn : Int), .int .i64 (sn : Int), .slice ao l.length c] 25))
  have HS := hide hS
  have HO := hide hO
  have hn := hll
  have hszn := str_size nm
  have hl' : ¬ (256 : Int) < (nm.length : Int) := by omega
  have hl2 : decide ((256 : Int) < (nm.length : Int)) = false := decide_eq_false hl'
  clear hl'
  have HL := hide hl
  generalize hnl : l.length = n at *
  have HNL := hide hnl
  clear hgd hS hO hnl hl hll
  unfold sval pf at *
  go_enter Try.func5, Try.ntmps5
  go_upto_region 1 with fail
  obtain ⟨N, hN⟩ : ∃ N, N = w.heap.size := ⟨_, rfl⟩
  rw [← hN] at HB ⊢
  clear hN
  generalize w.alloc (.cells #[.int .i64 (tn : Int), .int .u64 (wn : Int), .int .i64 (sn : Int), .slice ao n c] 25) = u at *
  have b0 : u.cell? ⟨N, 0, none⟩ = some (.int .i64 (tn : Int)) := HB.out.cell 0
  have b1 : u.cell? ⟨N, 1, none⟩ = some (.int .u64 (wn : Int)) := HB.out.cell 1
  have b2 : u.cell? ⟨N, 2, none⟩ = some (.int .i64 (sn : Int)) := HB.out.cell 2
  have b3 : u.cell? ⟨N, 3, none⟩ = some (.slice ao n c) := HB.out.cell 3
  go_wp2_with (first
    | (go_at_call 13; refine (HM.out _).mono ?_; rintro e w1 ⟨lp, rfl, h1⟩; have H1 := hide (h1.rebase (G := [N]) HBN.out (fun b hb => by rw [List.mem_singleton.1 hb]; exact HB.out.lt)); have HB1 := hide (HB.out.keep h1.bel); clear h1 b0 b1 b2 b3)
    | (go_at_call 10; refine (HLV.out _).mono ?_; rintro e w2 ⟨rfl, h2⟩; have H2 := hide (H1.out.below h2).1; have HB2 := hide (HB1.out.keep h2); clear h2))
  clear hl2 hszn
  go_loopw [8, 9] (fun a8 a9 wr => ∃ (C i : Nat), a8 = .int .u64 (C : Int) ∧ a9 = .int .i64 (i : Int) ∧ i ≤ n ∧ Hid (∃ S : LS, S.clock = C ∧ WaI w wr N lp S (scells tn wn sn (.slice ao n c))))
    (fun _ a9 _ => n - (match a9 with | .int _ x => x.toNat | _ => 0))
  case atStart => exact ⟨0, 0, rfl, rfl, Nat.zero_le _, hide ⟨fresh tn wn sn, rfl, ⟨H2.out, HB2.out⟩⟩⟩
  case round =>
    obtain ⟨C, i, rfl, rfl, hi, hrel⟩ := hrel
    obtain ⟨S, hSC, hI⟩ := hrel.out
    have HSC := hide hSC
    have HI := hide hI
    have b3 : wr.cell? ⟨N, 3, none⟩ = some (.slice ao n c) := hI.box.cell 3
    clear hrel hSC hI
    by_cases hin : i < n
    · have hin' : (i : Int) < (n : Int) := by omega
      obtain ⟨x, hx⟩ : ∃ x, l[i]? = some x := ⟨_, List.getElem?_eq_getElem (by rw [HNL.out]; exact hin)⟩
      obtain ⟨bb, off, hao, q0, q1, q2⟩ := (HS.out.keep HI.out.mine.bel).at hx
      have HSA := hide (fun (W : World) (hW : Below w.heap.size w W) => (HS.out.keep hW).at hx)
      subst hao
      obtain ⟨hxs, hxn⟩ := HO.out.at hx
      have HXN := hide hxn
      have HIN := hide hin
      have hwri : IntKind.i64.wrap ((i : Int) + 1) = ((i + 1 : Nat) : Int) := by rw [IntKind.wrap_i64]; omega
      obtain ⟨xk, xs, xn⟩ := x
      simp only at q0 q1 q2 hxs HXN HSA
      clear hi hx hxs hxn hin q0
      have HTR : Hid (∀ W, Mine [N] w W lp S → Calls Try.prog 14 #[pf lp, .string (str xs), .int .u64 (xn : Int)] W fun e w' => e = .returned (two (S.try xs xn).2) ∧ Mine [N] w w' lp (S.try xs xn).1 ∧ Held [N] W w') := hide fun W hW => try_g hW xs xn HXN.out
      have HCL := hide (try_clock S xs xn)
      rw [HSC.out] at HCL
      unfold two pf at HTR
      generalize S.try xs xn = r at *
      obtain ⟨R, ln, en⟩ := r
      simp only at HTR HCL
      have hsz := str_size xs
      go_upto_region 9 with fail
      go_region_held (fun W => W.cell? ⟨N, 3, none⟩ = some (.slice (some ⟨bb, off, none⟩) n c) ∧ W.cell? ⟨bb, off + i * 3 + 1, none⟩ = some (.string (str xs)) ∧ W.cell? ⟨bb, off + i * 3 + 2, none⟩ = some (.int .u64 (xn : Int))) (go_keep) (first
        | (go_at_call 14; refine (HTR.out _ (HI.out.mine.drewN 1)).mono ?_; rintro e w3 ⟨rfl, h3, k3⟩; have H3 := hide h3; have HB3 := hide (k3.bl (by simp) (HI.out.box.drewN 1)); have d3 : w3.cell? ⟨N, 3, none⟩ = some (.slice (some ⟨bb, off, none⟩) n c) := HB3.out.cell 3; obtain ⟨bb', off', he', _, d1, d2⟩ := HSA.out w3 h3.bel; cases he'; clear h3 k3))
      clear b3 q1 q2
      have HF : Hid (clockN C xs xn = R.clock) := hide HCL.out.symm
      obtain ⟨F1, hF1⟩ : ∃ F1, F1 = decide (xs.length ≤ 256 ∧ C < xn) := ⟨_, rfl⟩
      have HF1 := hide hF1
      clear hF1 HCL
      go_upto_region 10 with fail
      go_cut [90] (fun a wx => a = .bool F1 ∧ wx = w3)
      case first =>
        by_cases h256 : xs.length ≤ 256
        · have h256' : (xs.length : Int) ≤ 256 := by omega
          by_cases hlt : C < xn
          · have hlt' : (C : Int) < (xn : Int) := by omega
            have HT : Hid (F1 = true) := hide (by rw [HF1.out]; exact decide_eq_true ⟨h256, hlt⟩)
            clear h256 hlt
            go_wp2
            go_meet
            case rel => exact ⟨by rw [HT.out], rfl⟩
          · have hlt' : ¬ (C : Int) < (xn : Int) := by omega
            have HT : Hid (F1 = false) := hide (by rw [HF1.out]; exact decide_eq_false fun h => hlt h.2)
            clear h256 hlt
            go_wp2
            go_meet
            case rel => exact ⟨by rw [HT.out], rfl⟩
        · have h256' : ¬ (xs.length : Int) ≤ 256 := by omega
          have HT : Hid (F1 = false) := hide (by rw [HF1.out]; exact decide_eq_false fun h => h256 h.1)
          clear h256
          go_wp2
          go_meet
          case rel => exact ⟨by rw [HT.out], rfl⟩
      case rest =>
        obtain ⟨rfl, hwc⟩ := hcut
        have hwd := hwc.symm
        subst hwd
        clear hwc
        cases F1 with
        | true =>
          have HRC : Hid (R.clock = xn) := hide (by rw [← HF.out]; unfold clockN; rw [if_pos (of_decide_eq_true HF1.out.symm)])
          go_wp2
          go_roundw
          case rel => exact ⟨xn, i + 1, rfl, by first | rfl | simp, HIN.out, hide ⟨R, HRC.out, ⟨H3.out, HB3.out⟩⟩⟩
          case measure => have := HIN.out; simp; omega
        | false =>
          have HRC : Hid (R.clock = C) := hide (by rw [← HF.out]; unfold clockN; rw [if_neg (of_decide_eq_false HF1.out.symm)])
          go_wp2
          go_roundw
          case rel => exact ⟨C, i + 1, rfl, by first | rfl | simp, HIN.out, hide ⟨R, HRC.out, ⟨H3.out, HB3.out⟩⟩⟩
          case measure => have := HIN.out; simp; omega
    · have hin' : ¬ (i : Int) < (n : Int) := by omega
      clear hi hin
      have hcb := HI.out.mine.ok.clock
      rw [HSC.out] at hcb
      have HWT : Hid (∀ W, Mine [N] w W lp S → Calls Try.prog 15 #[pf lp, .string (str nm), .int .u64 (C : Int)] W fun e w' => e = .returned (.int .u64 (S.wait nm C : Int)) ∧ Mine [N] w w' lp S ∧ Held [N] W w') := hide fun W hW => wait_g hW nm C hcb
      have HLF : Hid (∀ W, Mine [N] w W lp S → Calls Try.prog 16 #[pf lp, .string (str nm), .int .u64 (C : Int)] W fun e w' => e = .returned (.int .i64 ((S.left nm C).1 : Int)) ∧ Mine [N] w w' lp S ∧ Held [N] W w') := hide fun W hW => by
        have := lefts_g hW nm C hcb
        rw [HSC.out, Nat.max_self] at this
        exact this
      have HCB := hide hcb
      have HCS := hide (left_cases HI.out.mine.ok HL.out)
      have HRF := hide (fun h0 => refused HI.out.mine.ok HL.out h0)
      have HWK := hide (fun k (hk : S.left nm S.clock = (k, 0)) => wait_ok hk)
      rw [HSC.out] at HCS HRF HWK
      have HTY : Hid (∀ (W : World) (t : Nat), t < 18446744073709551616 → Mine [N] w W lp S → Calls Try.prog 14 #[pf lp, .string (str nm), .int .u64 (t : Int)] W fun e w' => e = .returned (two (S.try nm t).2) ∧ Mine [N] w w' lp (S.try nm t).1 ∧ Held [N] W w') := hide fun W t ht hW => try_g hW nm t ht
      generalize S.wait nm C = wv at *
      unfold pf two at *
      go_upto_if 102 with (first | (go_at_call 15; refine (HWT.out _ HI.out.mine).mono ?_; rintro e w5 ⟨rfl, h5, _⟩; have H5 := hide h5; clear h5))
      go_cut [8] (fun a8 wx => ∃ D : Nat, a8 = .int .u64 (D : Int) ∧ Hid (∃ (S' : LS) (k : Nat), Mine [N] w wx lp S' ∧ D < 18446744073709551616 ∧ S'.clock ≤ D ∧ S'.left nm D = (k + 1, 0)))
      case first =>
        rcases HCS.out with ⟨k, hk⟩ | hcs
        · have hw0 := HWK.out _ hk
          subst hw0
          have HK := hide hk
          clear hk
          go_wp2
          go_meet
          case rel => exact ⟨C, rfl, hide ⟨S, k, H5.out, HCB.out, by rw [HSC.out]; exact Nat.le_refl _, HK.out⟩⟩
        · have hne : (S.left nm C).2 ≠ 0 ∧ (S.left nm C).1 = 0 := by
            rcases hcs with ⟨h1, _⟩ | ⟨h1, _⟩
            · rw [h1]; exact ⟨by decide, rfl⟩
            · rw [h1]; exact ⟨by decide, rfl⟩
          have HR := hide (HRF.out hne.1)
          have hp := HR.out.pos
          have hwp : 0 < (wv : Int) := by omega
          rw [hne.2] at HLF
          clear hne hcs HRF HWK HCS HWT
          by_cases hov : 18446744073709551615 < C + wv
          · have hov' : (18446744073709551615 : Int) - (C : Int) < (wv : Int) := by omega
            clear hov hp
            go_wp2_with (first | (go_at_call 16; refine (HLF.out _ H5.out).mono ?_; rintro e w6 ⟨rfl, h6, _⟩; have H6 := hide h6; clear h6))
            go_ret
            exact ⟨rfl, H6.out.bel⟩
          · have hov' : ¬ (18446744073709551615 : Int) - (C : Int) < (wv : Int) := by omega
            obtain ⟨D, hD⟩ : ∃ D, D = C + wv := ⟨_, rfl⟩
            have hadd : (C : Int) + (wv : Int) = (D : Int) := by omega
            have hdb : D < 18446744073709551616 := by omega
            have hthen := HR.out.then_
            rw [HSC.out, ← hD] at hthen
            have HTH := hide hthen
            have HTR1 := hide HI.out.mine.ok.tries1
            have HDC : Hid (C ≤ D) := hide (by omega)
            by_cases h1 : 1 < wv
            · have h1' : (1 : Int) < (wv : Int) := by omega
              obtain ⟨t, ht⟩ : ∃ t, t + 1 = D := ⟨D - 1, by omega⟩
              have hsub : (D : Int) - 1 = (t : Int) := by omega
              have htb : t < 18446744073709551616 := by omega
              have hst := HR.out.still t (by rw [HSC.out]; omega) (by rw [HSC.out]; omega)
              have htr := try_refused HI.out.mine.ok HL.out (t := t) (by rw [HSC.out]; omega) (by rcases hst with h | h <;> rw [h] <;> decide)
              have HTT := hide (fun W => HTY.out W t htb)
              rw [htr] at HTT
              have hwd := waited HI.out.mine.ok (nm := nm) HR.out (t := t) (by rw [HSC.out]; omega) (by rw [HSC.out]; omega) htb
              rw [HSC.out, ← hD] at hwd
              have HWD := hide hwd
              simp only at HTT
              generalize (S.left nm t).2 = en at *
              clear hov hp hD h1 ht htr hwd hthen
              rcases hst with rfl | rfl
              · go_wp2_with (first
                  | (go_at_call 16; refine (HLF.out _ H5.out).mono ?_; rintro e w6 ⟨rfl, h6, _⟩; have H6 := hide h6; clear h6)
                  | (go_at_call 14; refine (HTT.out _ H6.out).mono ?_; rintro e w7 ⟨rfl, h7, _⟩; have H7 := hide h7; clear h7)
                  | (go_at_call 11; refine (num_any _ _).mono ?_; rintro e wx ⟨rfl, hwx⟩; have hwy := hwx.symm; subst hwy; clear hwx))
                go_meet
                case rel => exact ⟨D, by first | rfl | simp, hide ⟨_, S.tries - 1, H7.out, hdb, HWD.out.2.1, by rw [Nat.sub_add_cancel HTR1.out]; exact HWD.out.2.2⟩⟩
              · go_wp2_with (first
                  | (go_at_call 16; refine (HLF.out _ H5.out).mono ?_; rintro e w6 ⟨rfl, h6, _⟩; have H6 := hide h6; clear h6)
                  | (go_at_call 14; refine (HTT.out _ H6.out).mono ?_; rintro e w7 ⟨rfl, h7, _⟩; have H7 := hide h7; clear h7)
                  | (go_at_call 11; refine (num_any _ _).mono ?_; rintro e wx ⟨rfl, hwx⟩; have hwy := hwx.symm; subst hwy; clear hwx))
                go_meet
                case rel => exact ⟨D, by first | rfl | simp, hide ⟨_, S.tries - 1, H7.out, hdb, HWD.out.2.1, by rw [Nat.sub_add_cancel HTR1.out]; exact HWD.out.2.2⟩⟩
            · have h1' : ¬ (1 : Int) < (wv : Int) := by omega
              clear hov hp hD h1 hthen
              go_wp2_with (first
                | (go_at_call 16; refine (HLF.out _ H5.out).mono ?_; rintro e w6 ⟨rfl, h6, _⟩; have H6 := hide h6; clear h6))
              go_meet
              case rel => exact ⟨D, by first | rfl | simp, hide ⟨S, S.tries - 1, H6.out, hdb, by rw [HSC.out]; exact HDC.out, by rw [Nat.sub_add_cancel HTR1.out]; exact HTH.out⟩⟩
      case rest =>
        obtain ⟨D, rfl, hcut⟩ := hcut
        obtain ⟨S', k, hm, hdb, hcd, hk⟩ := hcut.out
        have HLD := hide (lefts_g hm nm D hdb)
        rw [show max D S'.clock = D by omega] at HLD
        have HLI := hide (li_start hm.ok hcd hk)
        have hLb := (left_pos hm.ok (nm := nm) (t := D) (by rw [hk])).2
        have HDB := hide hdb
        have HTE : Hid (∀ (W : World) (T : LS), Mine [N] w W lp T → Calls Try.prog 14 #[pf lp, .string (str nm), .int .u64 (D : Int)] W fun e w' => e = .returned (two (T.try nm D).2) ∧ Mine [N] w w' lp (T.try nm D).1 ∧ Held [N] W w') := hide fun W T hW => try_g hW nm D hdb
        generalize (S'.left nm D).1 = L at *
        have hL1 : ¬ (L : Int) < 1 := by omega
        have HLB := hide hLb
        clear HWT HLF HCS HRF HWK HTY H5 HI HSC hcut hm hdb hcd hk hcb hLb HCB
        unfold pf two at *
        go_wp2_with (first | (go_at_call 16; refine HLD.out.mono ?_; rintro e w6 ⟨rfl, h6, _⟩; have H6 := hide h6; clear h6))
        go_loopw [14] (fun a14 wr => ∃ i : Nat, a14 = .int .i64 (i : Int) ∧ i ≤ L ∧ i ≤ 40 ∧ Hid (∃ T : LS, Mine [N] w wr lp T ∧ LI T nm D L i))
          (fun a14 _ => 40 - (match a14 with | .int _ x => x.toNat | _ => 0))
        case atStart => exact ⟨0, rfl, Nat.zero_le _, Nat.zero_le _, hide ⟨_, H6.out, HLI.out⟩⟩
        case round =>
          obtain ⟨j, rfl, hjL, hj40, hrel⟩ := hrel
          obtain ⟨T, hT, hTI⟩ := hrel.out
          have HT := hide hT
          have HTI := hide hTI
          have HTJ := HTE.out _ T hT
          clear hrel hT hTI
          by_cases h1 : j < L
          · have h1' : (j : Int) < (L : Int) := by omega
            by_cases h2 : j < 40
            · have h2' : (j : Int) < 40 := by omega
              have hnx := li_next HL.out HDB.out HTI.out h1
              rw [hnx.1] at HTJ
              have HNX := hide hnx.2
              have HTJ2 := hide HTJ
              simp only at HTJ2
              have hs1 : IntKind.i64.wrap ((L : Int) - 1) = ((L - 1 : Nat) : Int) := by have := HLB.out; rw [IntKind.wrap_i64]; omega
              have hs2 : IntKind.i64.wrap (((L - 1 : Nat) : Int) - (j : Int)) = ((L - 1 - j : Nat) : Int) := by have := HLB.out; rw [IntKind.wrap_i64]; omega
              have hwj : IntKind.i64.wrap ((j : Int) + 1) = ((j + 1 : Nat) : Int) := by rw [IntKind.wrap_i64]; omega
              have HJ : Hid (j + 1 ≤ L ∧ j + 1 ≤ 40) := hide ⟨h1, h2⟩
              generalize L - 1 - j = x at *
              generalize L - 1 = L1 at *
              clear hnx h1 h2 hjL hj40 HTJ
              go_wp2_with (first
                | (go_at_call 14; refine HTJ2.out.mono ?_; rintro e w7 ⟨rfl, h7, _⟩; have H7 := hide h7; clear h7)
                | (go_at_call 11; refine (num_any _ _).mono ?_; rintro e wx ⟨rfl, hwx⟩; have hwy := hwx.symm; subst hwy; clear hwx))
              go_roundw
              case rel => exact ⟨j + 1, by first | rfl | simp, HJ.out.1, HJ.out.2, hide ⟨_, H7.out, HNX.out⟩⟩
              case measure => have := HJ.out; simp; omega
            · have h2' : ¬ (j : Int) < 40 := by omega
              have hL40 : (40 : Int) < (L : Int) := by omega
              have HTJ2 := hide HTJ
              generalize T.try nm D = r at *
              obtain ⟨R, ln, en⟩ := r
              simp only at HTJ2
              clear h1 h2 hjL hj40 HTJ
              go_wp2_with (first
                | (go_at_call 14; refine HTJ2.out.mono ?_; rintro e w7 ⟨rfl, h7, _⟩; have H7 := hide h7; clear h7)
                | (go_at_call 11; refine (num_any _ _).mono ?_; rintro e wx ⟨rfl, hwx⟩; have hwy := hwx.symm; subst hwy; clear hwx))
              go_ret
              exact ⟨rfl, H7.out.bel⟩
          · have h1' : ¬ (j : Int) < (L : Int) := by omega
            have hL40 : ¬ (40 : Int) < (L : Int) := by omega
            have he := li_end HL.out HTI.out (by omega)
            have HTJ2 := hide HTJ
            generalize T.try nm D = r at *
            obtain ⟨R, ln, en⟩ := r
            simp only at HTJ2 he
            subst he
            clear h1 hjL hj40 HTJ
            go_wp2_with (first
              | (go_at_call 14; refine HTJ2.out.mono ?_; rintro e w7 ⟨rfl, h7, _⟩; have H7 := hide h7; clear h7)
              | (go_at_call 11; refine (num_any _ _).mono ?_; rintro e wx ⟨rfl, hwx⟩; have hwy := hwx.symm; subst hwy; clear hwx))
            go_ret
            exact ⟨rfl, H7.out.bel⟩
theorem limitWaits_card (t : Int) (wn : Nat) (sb : Int) (ao : Option Addr) (c : Nat) (l : List Oc) (s : ByteArray) (w : World) (hw : wn < 18446744073709551616) (hS : OSee w ao l) (hO : OOk l) (hl : l.length ≤ 9223372036854775807) :
    Calls Try.prog 5 #[.agg #[.int .i64 t, .int .u64 (wn : Int), .int .i64 sb, .slice ao l.length c], .string s] w fun e w' => e = .returned (.bool true) ∧ Below w.heap.size w w' := by
  have : Calls Try.prog 5 #[sval t wn sb (.slice ao l.length c), .string (str (nmOf s))] w fun e w' => e = .returned (.bool true) ∧ Below w.heap.size w w' := by
    by_cases hg : good t wn sb
    · obtain ⟨tn, sn, rfl, rfl, hgd⟩ := good_nat hg hw
      by_cases h256 : (nmOf s).length ≤ 256
      · exact waits_main tn wn sn ao c l (nmOf s) w hgd hS hO hl h256
      · exact waits_long tn wn sn ao c l.length (nmOf s) w hgd (by omega)
    · exact waits_bad t wn sb ao c l.length (nmOf s) w hg
  rw [str_nmOf] at this
  exact this
end Go.Proofs.Ytgoffndfchlmkaa
