/- WheelOnce, walked: its rounds. -/
import Derived.Test.YtkebdfegpbnpaaaVOnce
namespace Go.Proofs.Ytkebdfegpbnpaaa
open Go.RowKit Go.Maps

set_option maxHeartbeats 16000000 in
set_option maxRecDepth 100000 in
theorem wheelOnce_walk (now : Nat) (aao : Option Addr) (n ac : Nat) (l : List Ac) (w : World) (hn : now < 18446744073709551616) (hs : ASee w aao l) (hl : n = l.length) (hb : n ≤ 140737488351232) (hk : AOk l) :
    Calls Try.prog 8 #[.agg #[.int .u64 (now : Int), .slice aao n ac]] w fun e w' => e = .returned (.bool true) ∧ Below w.heap.size w w' := by
  have HB0 := hide (Bl.new w #[.int .u64 (now : Int), .slice aao n ac] 28)
  have HBW := hide (below_new w (.cells #[.int .u64 (now : Int), .slice aao n ac] 28))
  have HS := hide (hs.keep HBW.out)
  have HN := hide hn
  have HL := hide hl
  have HK := hide hk
  clear hs hn hl hk
  go_enter Try.func8, Try.ntmps8
  go_upto_region 1 with fail
  generalize hNN : w.heap.size = N at *
  generalize w.alloc (.cells #[.int .u64 (now : Int), .slice aao n ac] 28) = w1 at *
  have b0 : w1.cell? ⟨N, 0, none⟩ = some (.int .u64 (now : Int)) := HB0.out.cell 0
  have b1 : w1.cell? ⟨N, 1, none⟩ = some (.slice aao n ac) := HB0.out.cell 1
  have HB0' := hide (show w1.cell? ⟨N, 0, none⟩ = some (.int .u64 (now : Int)) ∧ w1.cell? ⟨N, 1, none⟩ = some (.slice aao n ac) from ⟨b0, b1⟩)
  have HNN := hide hNN
  clear HB0 hNN
  go_wp2_with fail
  refine (new_g now w1 [] HN.out (fun g hg => by cases hg)).mono ?_
  rintro e w2 ⟨wp, rfl, hm⟩
  have M2 := hide hm
  clear hm
  unfold pw
  go_wp2_with fail
  refine (live_true w2).mono ?_
  rintro e w3 ⟨rfl, hb3⟩
  have M3 := hide (M2.out.below hb3)
  have d0 := cell_kept HB0'.out.1 M3.out.bel
  have d1 := cell_kept HB0'.out.2 M3.out.bel
  clear hb3 M2 b0 b1
  go_wp2_with fail
  go_loopw [4, 5, 6] (fun v4 v5 v6 wr => ∃ (i nw : Nat) (ao : Option Addr) (m c : Nat), i ≤ n ∧ v6 = .int .i64 (i : Int) ∧ v5 = .int .u64 (nw : Int) ∧ v4 = .slice ao m c ∧ Hid (∃ T L, OInv w1 wr wp nw (.slice ao m c) T L)) (fun _ _ v6 _ => n - (intOf v6).toNat)
  case atStart => exact ⟨0, now, none, 0, 0, by omega, rfl, rfl, rfl, [], [], ⟨M3.out, rown_nil _ _, .refl _⟩⟩
  case round =>
    clear M3 d0 d1
    obtain ⟨i, nw, ao, m, c, hi, rfl, rfl, rfl, HI⟩ := hrel
    obtain ⟨T, L, hI⟩ := HI.out
    have HI2 := hide hI
    have d0 := cell_kept HB0'.out.1 hI.mine.bel
    have d1 := cell_kept HB0'.out.2 hI.mine.bel
    clear HI
    by_cases hin : i < n
    · obtain ⟨x, hx⟩ : ∃ x, l[i]? = some x := ⟨_, List.getElem?_eq_getElem (by have := HL.out; omega)⟩
      obtain ⟨b, off, e0, k0, k1, k2⟩ := HS.out.at hx
      subst e0
      have f0 := cell_kept k0 hI.mine.bel
      have f1 := cell_kept k1 hI.mine.bel
      have f2 := cell_kept k2 hI.mine.bel
      have HX := hide (HK.out x (List.mem_of_getElem? hx))
      have HOA := hide (hI.act x)
      have hil : (i : Int) < (n : Int) := by omega
      clear hx k0 k1 k2 hI
      obtain ⟨k, id, a⟩ := x
      simp only at f0 f1 f2 HX HOA
      go_upto_region 10 with fail
      generalize hAA : wr.heap.size = A at *
      generalize wr.alloc (.cells #[.int .i64 k, .int .u64 (id : Int), .int .u64 (a : Int)] 35) = u at *
      clear hAA d0 d1 f0 f1 f2
      have a0 : u.cell? ⟨A, 0, none⟩ = some (.int .i64 k) := HOA.out.act.cell 0
      have a1 : u.cell? ⟨A, 1, none⟩ = some (.int .u64 (id : Int)) := HOA.out.act.cell 1
      have a2 : u.cell? ⟨A, 2, none⟩ = some (.int .u64 (a : Int)) := HOA.out.act.cell 2
      by_cases h1 : k = 1
      · subst h1
        have HC := hide (add_g HOA.out.mine HOA.out.lts id a HX.out.1 HX.out.2)
        unfold pw at HC
        by_cases h0 : addE nw L id a = 0
        · have HP := hide (add_some HOA.out.perm h0)
          rw [h0] at HC
          go_wp2_with fail
          refine HC.out.mono ?_
          rintro e w4 ⟨rfl, hm4, hh4, -⟩
          obtain ⟨q1, q2, q3⟩ := HOA.out.heldB hm4 hh4
          have HM4 := hide q1
          have HO4 := hide q2
          have c1 : w4.cell? ⟨A, 1, none⟩ = some (.int .u64 (id : Int)) := q3.cell 1
          have c2 : w4.cell? ⟨A, 2, none⟩ = some (.int .u64 (a : Int)) := q3.cell 2
          have HOK := hide (HO4.out.keep (below_new w4 (.cells #[.int .u64 (id : Int), .int .u64 (a : Int)] 60)))
          have HBN := hide (Bl.new w4 #[.int .u64 (id : Int), .int .u64 (a : Int)] 60)
          have HTL := hide (show T.length ≤ 1000000 by have := HI2.out.short; omega)
          have HSZ : Hid (w1.heap.size ≤ (w4.alloc (.cells #[.int .u64 (id : Int), .int .u64 (a : Int)] 60)).heap.size) := by show _ ≤ _; have := HM4.out.bel.size; simp; omega
          clear hm4 hh4 q1 q2 q3 a0 a1 a2
          go_wp2_with (first | (go_at_call 9; refine (num_any _ _).mono ?_; rintro e w5 ⟨rfl, hw⟩; have hw2 := hw.symm; subst hw2) | (at_builtin; refine wpList_append_r rfl _ _ rfl w1.heap.size (.slice ao m c) T rfl HOK.out w4.heap.size (id, a) rfl (HBN.out.cell 0) (HBN.out.cell 1) HTL.out HSZ.out ?_; intro v5 w5 h5 g5 l5; obtain ⟨ao5, n5, c5, rfl⟩ := rown_shape h5; have HI5 := hide (once_add HM4.out HO4.out _ g5 h5 l5 HP.out); clear h5 g5 l5))
          go_roundw
          case rel => exact ⟨i + 1, nw, ao5, n5, c5, by omega, by simp, rfl, rfl, _, _, HI5.out⟩
          case measure => simp [intOf]; omega
        · have HE := hide (add_none' h0)
          have hz : ((addE nw L id a : Int) == 0) = false := by simp; omega
          rw [HE.out] at HC
          generalize addE nw L id a = e0 at *
          clear h0
          go_wp2_with fail
          refine HC.out.mono ?_
          rintro e w4 ⟨rfl, hm4, hh4, -⟩
          have HI5 := hide ((HOA.out.held (G := []) hm4 hh4 HOA.out.perm).next)
          clear hm4 hh4 a0 a1 a2
          go_wp2_with (go_at_call 9; refine (num_any _ _).mono ?_; rintro e w5 ⟨rfl, hw⟩; have hw2 := hw.symm; subst hw2)
          go_roundw
          case rel => exact ⟨i + 1, nw, ao, m, c, by omega, by simp, rfl, rfl, _, _, HI5.out⟩
          case measure => simp [intOf]; omega
      by_cases h2 : k = 2
      · subst h2
        have HC := hide (remove_g HOA.out.mine HOA.out.lts id HX.out.1)
        unfold pw at HC
        by_cases h0 : remE L id = 0
        · have HP := hide (show (tdel id T).Perm (tdel id L) from HOA.out.perm.filter _)
          rw [h0] at HC
          go_wp2_with fail
          refine HC.out.mono ?_
          rintro e w4 ⟨rfl, hm4, hh4, -⟩
          obtain ⟨q1, q2, q3⟩ := HOA.out.heldB hm4 hh4
          have HM4 := hide q1
          have c1 : w4.cell? ⟨A, 1, none⟩ = some (.int .u64 (id : Int)) := q3.cell 1
          obtain ⟨ao', c', e1, -, hrow⟩ := q2.read
          injection e1 with e1 e2 e3
          have HCO := hide (out_any ao m c id T w4 (by rw [e1]; exact hrow) e2 (by have := HI2.out.short; omega))
          clear hm4 hh4 q1 q2 q3 a0 a1 a2 e1 e2 e3 hrow
          go_wp2_with (first | (go_at_call 9; refine (num_any _ _).mono ?_; rintro e w5 ⟨rfl, hw⟩; have hw2 := hw.symm; subst hw2) | (go_at_call 28; refine HCO.out.mono ?_; rintro e w5 ⟨ao5, n5, c5, rfl, h5, b5⟩; have HI5 := hide (once_out HM4.out b5 h5 HP.out); clear h5 b5))
          go_roundw
          case rel => exact ⟨i + 1, nw, ao5, n5, c5, by omega, by simp, rfl, rfl, _, _, HI5.out⟩
          case measure => simp [intOf]; omega
        · have HE := hide (rem_none h0)
          have hz : ((remE L id : Int) == 0) = false := by simp; omega
          rw [HE.out] at HC
          generalize remE L id = e0 at *
          clear h0
          go_wp2_with fail
          refine HC.out.mono ?_
          rintro e w4 ⟨rfl, hm4, hh4, -⟩
          have HI5 := hide ((HOA.out.held (G := []) hm4 hh4 HOA.out.perm).next)
          clear hm4 hh4 a0 a1 a2
          go_wp2_with (go_at_call 9; refine (num_any _ _).mono ?_; rintro e w5 ⟨rfl, hw⟩; have hw2 := hw.symm; subst hw2)
          go_roundw
          case rel => exact ⟨i + 1, nw, ao, m, c, by omega, by simp, rfl, rfl, _, _, HI5.out⟩
          case measure => simp [intOf]; omega
      have hk1 : (k == 1) = false := by simpa using h1
      have hk2 : (k == 2) = false := by simpa using h2
      by_cases h4 : k = 4
      · subst h4
        have HC := hide (advance_g HOA.out.mine HOA.out.lts a HX.out.2)
        unfold pw at HC
        by_cases hlt : a < nw
        · rw [if_pos hlt, show max nw a = nw by omega] at HC
          obtain ⟨S, hok⟩ := HI2.out.mine.ok
          rw [adv_gone hok hlt] at HC
          have hge : ¬ (nw : Int) ≤ (a : Int) := by omega
          clear hok hlt
          go_wp2_with fail
          refine HC.out.mono ?_
          rintro e w4 ⟨ao4, n4, c4, rfl, -, hm4, hh4, -⟩
          have hO4 := HOA.out.held hm4 hh4 HOA.out.perm
          have HO4 := hide hO4
          have c2 : w4.cell? ⟨A, 2, none⟩ = some (.int .u64 (a : Int)) := hO4.act.cell 2
          clear hm4 hh4 a0 a1 a2 hO4
          go_wp2_with fail
          go_quiet ((go_at_call 9; exact Calls.quiet_of_same (num_any _ _)))
          go_wp2_with (go_at_call 9; refine (num_any _ _).mono ?_; rintro e w5 ⟨rfl, hw⟩; have HW5 := hide hw; clear hw)
          have HI5 := hide (HO4.out.next.below (w' := w5) (by rw [HW5.out]; exact below_drewN (Below.refl _ _) _))
          go_roundw
          case rel => exact ⟨i + 1, nw, ao, m, c, by omega, by simp, rfl, rfl, _, _, HI5.out⟩
          case measure => simp [intOf]; omega
        · rw [if_neg hlt] at HC
          have hge : (nw : Int) ≤ (a : Int) := by omega
          go_wp2_with fail
          refine HC.out.mono ?_
          rintro e w4 ⟨lao, ln, lc, rfl, ho4, hm4, hh4, -⟩
          have hO4 := HOA.out.adv HI2.out.rise hm4 (by omega) hh4 ho4
          have HO4 := hide hO4
          have c2 : w4.cell? ⟨A, 2, none⟩ = some (.int .u64 (a : Int)) := hO4.act.cell 2
          clear hm4 hh4 ho4 a0 a1 a2 hO4
          go_wp2_with fail
          go_quiet ((go_at_call 9; exact Calls.quiet_of_same (num_any _ _)))
          have HO5 := hide (HO4.out.below (below_drewN (Below.refl _ _) nq))
          generalize w4.drewN nq = w5 at *
          have e2 : w5.cell? ⟨A, 2, none⟩ = some (.int .u64 (a : Int)) := HO5.out.act.cell 2
          clear c2 HO4 HC HOA
          go_wp2_with (go_at_call 9; refine (num_any _ _).mono ?_; rintro e w6 ⟨rfl, hw⟩; have hw2 := hw.symm; subst hw2)
          obtain ⟨ao', c', g1, -, hrow⟩ := HO5.out.own.read
          injection g1 with g1 g2 g3
          subst g1; subst g3
          have HROW := hide hrow
          have HTM := hide g2
          obtain ⟨lao', lc', g1, -, lrow⟩ := HO5.out.told.read
          injection g1 with g1 g4 g3
          subst g1; subst g3
          have HLROW := hide lrow
          have HLN := hide g4
          have HTL := hide HI2.out.short
          clear hrow g2 lrow g4 HI2
          have hm8 : (m : Int) ≤ 8192 := by have := HTM.out; have := HTL.out; omega
          go_loop [10, 11] (fun v10 v11 => ∃ k : Nat, k ≤ m ∧ v11 = .int .i64 (k : Int) ∧ v10 = .int .i64 (((T.take k).filter fun p => decide (p.2 ≤ a)).length : Int)) (fun _ v11 => m - (intOf v11).toNat)
          case atStart => exact ⟨0, by omega, rfl, rfl⟩
          case round =>
            obtain ⟨k, hk, rfl, rfl⟩ := hrel
            have hcl : ((T.take k).filter fun p => decide (p.2 ≤ a)).length ≤ k := Nat.le_trans (List.length_filter_le ..) (by simp; omega)
            by_cases hkm : k < m
            · obtain ⟨y, hy⟩ : ∃ y, T[k]? = some y := ⟨_, List.getElem?_eq_getElem (by have := HTM.out; omega)⟩
              obtain ⟨tb, toff, e0, -, t1⟩ := HROW.out.at hy
              subst e0
              have hkl : (k : Int) < (m : Int) := by omega
              have HT1 := hide (take_snoc hy)
              by_cases hya : y.2 ≤ a
              · have hya' : (y.2 : Int) ≤ (a : Int) := by omega
                have HF : Hid (((T.take (k + 1)).filter fun p => decide (p.2 ≤ a)).length = ((T.take k).filter fun p => decide (p.2 ≤ a)).length + 1) := by
                  show _ = _
                  rw [HT1.out, List.filter_append, List.length_append, List.filter_cons_of_pos (by simpa using hya)]
                  rfl
                generalize ((T.take k).filter fun p => decide (p.2 ≤ a)).length = cn at *
                go_wp2_with fail
                go_round
                case rel => exact ⟨k + 1, by omega, by go_num, by rw [HF.out]; go_num⟩
                case measure => simp [intOf]; omega
              · have hya' : ¬ (y.2 : Int) ≤ (a : Int) := by omega
                have HF : Hid (((T.take (k + 1)).filter fun p => decide (p.2 ≤ a)).length = ((T.take k).filter fun p => decide (p.2 ≤ a)).length) := by
                  show _ = _
                  rw [HT1.out, List.filter_append, List.length_append, List.filter_cons_of_neg (by simpa using hya)]
                  rfl
                generalize ((T.take k).filter fun p => decide (p.2 ≤ a)).length = cn at *
                go_wp2_with fail
                go_round
                case rel => exact ⟨k + 1, by omega, by go_num, by rw [HF.out]⟩
                case measure => simp [intOf]; omega
            · have hkl : ¬ (k : Int) < (m : Int) := by omega
              have hcn : ((T.take k).filter fun p => decide (p.2 ≤ a)).length = ln := by
                rw [List.take_of_length_le (by have := HTM.out; omega), HLN.out]
                exact (told_len HO5.out.perm).symm
              rw [hcn]
              clear hcn hcl
              go_wp2_with fail
              go_loopw [4, 12] (fun v4 v12 wr => ∃ (k2 : Nat) (bo : Option Addr) (m2 c2 : Nat), k2 ≤ ln ∧ v12 = .int .i64 (k2 : Int) ∧ v4 = .slice bo m2 c2 ∧ Hid (OTell w1 w5 wr wp a (.slice ao m c) (.slice bo m2 c2) (.slice lao ln lc) T L k2)) (fun _ v12 _ => ln - (intOf v12).toNat)
              case atStart => exact ⟨0, ao, m, c, by omega, rfl, rfl, OTell.start HO5.out⟩
              case round =>
                obtain ⟨k2, bo, m2, c2, hk2, rfl, rfl, HT⟩ := hrel
                have hln : (ln : Int) ≤ 8192 := by
                  have h1 := HLN.out
                  rw [told_len HO5.out.perm] at h1
                  have h2 := List.length_filter_le (fun p : Tm => decide (p.2 ≤ a)) T
                  have h3 := HTL.out
                  omega
                by_cases hkl2 : k2 < ln
                · obtain ⟨id2, b2, hg, hm, hba, hnin, htk⟩ := told_at (tt := a) HO5.out.rise (k := k2) (by have := HLN.out; omega)
                  have hlr := HLROW.out.keep HT.out.bel
                  obtain ⟨lb, loff, e0⟩ := hlr.form (by have := HLN.out; omega)
                  subst e0
                  have hlc := hlr.cell k2 (by have := HLN.out; omega)
                  rw [hg] at hlc
                  obtain ⟨bo', c2', g1, -, hrow2⟩ := HT.out.own.read
                  injection g1 with g1 g2 g3
                  subst g1; subst g3
                  have hwl : m2 ≤ 1000000 := by
                    have h1 := without_len T ((told a L).take k2)
                    have h2 := HTL.out
                    omega
                  have HD := hide (due_any bo m2 c2 id2 _ wr hrow2 g2 hwl)
                  rw [without_find HO5.out.perm HO5.out.rise hm hnin] at HD
                  simp only [Option.getD_some, Option.isSome_some] at HD
                  have HOU := hide (out_any bo m2 c2 id2 _ wr hrow2 g2 hwl)
                  have HTK := hide htk
                  have hk2' : (k2 : Int) < (ln : Int) := by omega
                  have hba' : ¬ (a : Int) < (b2 : Int) := by omega
                  clear hg hm hba hnin htk hlr hrow2 g2 hwl
                  go_wp2_with (first | (go_at_call 29; refine HD.out.mono ?_; rintro e w6 ⟨rfl, hw⟩; have hw2 := hw.symm; subst hw2) | (go_at_call 28; refine HOU.out.mono ?_; rintro e w7 ⟨bo7, m7, c7, rfl, h7, b7⟩; have HT7 := hide (HT.out.step HO5.out.mine.bel.size HTK.out h7 b7); clear h7 b7))
                  go_roundw
                  case rel => exact ⟨k2 + 1, bo7, m7, c7, by omega, by simp, rfl, HT7⟩
                  case measure => simp [intOf]; omega
                · have hk2' : ¬ (k2 : Int) < (ln : Int) := by omega
                  have HI5 := hide (HT.out.done HO5.out (by have := HLN.out; omega))
                  go_wp2_with fail
                  go_roundw
                  case rel => exact ⟨i + 1, a, bo, m2, c2, by omega, by simp, rfl, rfl, _, _, HI5.out⟩
                  case measure => simp [intOf]; omega
      · have hk4 : (k == 4) = false := by simpa using h4
        have HI5 := hide HOA.out.next
        go_wp2_with fail
        go_roundw
        case rel => exact ⟨i + 1, nw, ao, m, c, by omega, by simp, rfl, rfl, _, _, HI5.out⟩
        case measure => simp [intOf]; omega
    · have hil : ¬ (i : Int) < (n : Int) := by omega
      have HLE : Hid (L.length = m) := by
        show _ = _
        rw [← hI.perm.length_eq]
        obtain ⟨ao', c', g1, -, -⟩ := hI.own.read
        injection g1 with _ g2 _
        exact g2.symm
      have HLN := hide (len_g hI.mine)
      rw [HLE.out] at HLN
      have HNW := hide (now_g hI.mine)
      unfold pw at HLN HNW
      clear hI
      go_wp2_with (first | (go_at_call 18; refine HLN.out.mono ?_; rintro e w4 ⟨rfl, hw⟩; have hw2 := hw.symm; subst hw2) | (go_at_call 25; refine HNW.out.mono ?_; rintro e w4 ⟨rfl, hw⟩; have hw2 := hw.symm; subst hw2))
      go_loop [15] (fun v15 => ∃ k : Nat, k ≤ m ∧ v15 = .int .i64 (k : Int)) (fun v15 => m - (intOf v15).toNat)
      case atStart => exact ⟨0, by omega, rfl⟩
      case round =>
        obtain ⟨k, hk, rfl⟩ := hrel
        have hm8 : (m : Int) ≤ 8192 := by
          have h1 := HI2.out.short
          rw [HI2.out.perm.length_eq, HLE.out] at h1
          omega
        by_cases hkm : k < m
        · obtain ⟨ao', c', g1, -, hrow⟩ := HI2.out.own.read
          injection g1 with g1 g2 g3
          subst g1; subst g3
          obtain ⟨y, hy⟩ : ∃ y, T[k]? = some y := ⟨_, List.getElem?_eq_getElem (by omega)⟩
          obtain ⟨tb, toff, e0, t0, t1⟩ := hrow.at hy
          subst e0
          obtain ⟨S, hok⟩ := HI2.out.mine.ok
          have hym : y ∈ L := HI2.out.perm.mem_iff.1 (List.mem_of_getElem? hy)
          have hyb := hok.big y hym
          have HAT := hide (at_g HI2.out.mine y.1 hyb.1)
          rw [tget_mem hok.rise hym] at HAT
          simp only [Option.getD_some, Option.isSome_some] at HAT
          unfold pw at HAT
          have hkl : (k : Int) < (m : Int) := by omega
          have hyn : ¬ (y.2 : Int) ≤ (nw : Int) := by omega
          clear hrow hy hok hym hyb g2
          go_wp2_with (go_at_call 30; refine HAT.out.mono ?_; rintro e w4 ⟨rfl, hw⟩; have hw2 := hw.symm; subst hw2)
          go_round
          case rel => exact ⟨k + 1, by omega, by go_num⟩
          case measure => simp [intOf]; omega
        · have hkl : ¬ (k : Int) < (m : Int) := by omega
          go_wp2_with fail
          go_ret
          exact ⟨rfl, by rw [← HNN.out] at HBW; exact HBW.out.trans (HI2.out.mine.bel.mono HBW.out.size)⟩
end Go.Proofs.Ytkebdfegpbnpaaa
