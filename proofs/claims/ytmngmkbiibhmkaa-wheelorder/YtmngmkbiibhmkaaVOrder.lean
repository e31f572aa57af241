/- WheelOrder, walked. -/
import Derived.Deep.RegionHeld
import Derived.BigQuiet
import Derived.Test.YtmngmkbiibhmkaaVTwo
namespace Go.Proofs.Ytmngmkbiibhmkaa
open Go.RowKit Go.Shelf Go.Maps

theorem RRow.get {w : World} {b off : Nat} {ds : List Tm} (h : RRow w (some ⟨b, off, none⟩) ds) {i : Nat} {x : Tm} (hx : ds[i]? = some x) : w.cell? ⟨b, off + i * 2, none⟩ = some (.int .u64 (x.1 : Int)) ∧ w.cell? ⟨b, off + i * 2 + 1, none⟩ = some (.int .u64 (x.2 : Int)) := by
  obtain ⟨b', off', e, h1, h2⟩ := h.at hx
  cases e
  exact ⟨h1, h2⟩
theorem getD_mem {l : List Nat} {k : Nat} (h : k < l.length) : l.getD k 0 ∈ l := by
  rw [show l.getD k 0 = l[k] by simp [List.getD, h]]
  exact List.getElem_mem h
theorem flat2_length (L : List Tm) (h : L.length ≤ 8192) : (flat2 L).length ≤ 16384 := by rw [flat2_len]; omega
theorem OrdI.drew {u w : World} {ap bp now : Nat} {La Lb : List Tm} {v : Value} {T : List Tm} (h : OrdI u w ap bp now La Lb v T) : OrdI u w.drew ap bp now La Lb v T := h.below (below_drewN (Below.refl _ _) 1)
theorem OrdI.row {u w : World} {ap bp now c kc : Nat} {La Lb : List Tm} {ao : Option Addr} {T : List Tm} (h : OrdI u w ap bp now La Lb (.slice ao c kc) T) : c = T.length ∧ RRow w ao T := by
  obtain ⟨ao', c', g1, _, hrow⟩ := h.own.read
  injection g1 with g1 g2 g3
  subst g1
  exact ⟨g2, hrow⟩
set_option maxHeartbeats 8000000 in
set_option maxRecDepth 100000 in
theorem wheelOrder_walk (now : Nat) (lo : Option Addr) (n lc : Nat) (l : List Tm) (qo : Option Addr) (m qc : Nat) (gs : List Nat) (tt : Nat) (w : World)
    (hn : now < 18446744073709551616) (hs : RRow w lo l) (hl : n = l.length) (hb : n ≤ 140737488351232) (hk : ∀ x ∈ l, x.1 < 18446744073709551616 ∧ x.2 < 18446744073709551616)
    (hq : Row w qo gs) (hm : m = gs.length) (hmb : m ≤ 140737488351232) (hgk : ∀ x ∈ gs, x < 18446744073709551616) (ht : tt < 18446744073709551616) :
    Calls Try.prog 6 #[.agg #[.int .u64 (now : Int), .slice lo n lc, .slice qo m qc, .int .u64 (tt : Int)]] w fun e w' => e = .returned (.bool true) ∧ Below w.heap.size w w' := by
  have HB0 := hide (Bl.new w #[.int .u64 (now : Int), .slice lo n lc, .slice qo m qc, .int .u64 (tt : Int)] 56)
  have HBW := hide (below_new w (.cells #[.int .u64 (now : Int), .slice lo n lc, .slice qo m qc, .int .u64 (tt : Int)] 56))
  have HS1 := hide (hs.keep HBW.out)
  have HQ1 := hide (hq.keep HBW.out)
  have HN := hide hn
  have HL := hide hl
  have HK := hide hk
  have HM := hide hm
  have HGK := hide hgk
  have HT := hide ht
  have HNEW : Hid (∀ W, Calls Try.prog 7 #[.int .u64 (now : Int)] W fun e w' => ∃ wp, e = .returned (pw wp) ∧ MineG W w' wp now [] []) := hide fun W => new_g now W [] hn (fun g hg => by cases hg)
  unfold pw at HNEW
  clear hs hn hl hk hq hm hgk ht
  go_enter Try.func6, Try.ntmps6
  go_upto_region 1 with fail
  generalize hNN : w.heap.size = N at *
  generalize w.alloc (.cells #[.int .u64 (now : Int), .slice lo n lc, .slice qo m qc, .int .u64 (tt : Int)] 56) = w1 at *
  have b0 : w1.cell? ⟨N, 0, none⟩ = some (.int .u64 (now : Int)) := HB0.out.cell 0
  have b1 : w1.cell? ⟨N, 1, none⟩ = some (.slice lo n lc) := HB0.out.cell 1
  have b2 : w1.cell? ⟨N, 2, none⟩ = some (.slice qo m qc) := HB0.out.cell 2
  have b3 : w1.cell? ⟨N, 3, none⟩ = some (.int .u64 (tt : Int)) := HB0.out.cell 3
  have HNN := hide hNN
  clear HB0 hNN
  go_quiet (fail)
  have HBW2 := hide (below_drewN HBW.out nq)
  have HS := hide (HS1.out.keep (below_drewN (Below.refl _ _) nq))
  have HQ := hide (HQ1.out.keep (below_drewN (Below.refl _ _) nq))
  generalize w1.drewN nq = w2 at *
  clear b0 b1 b2 b3 HS1 HQ1 HBW
  have tok : True := trivial
  go_upto_region 7 with (first
    | (go_at_call 7; have _t := tok; refine (HNEW.out w2).mono ?_; rintro e w3 ⟨ap, rfl, hm⟩; have M1 := hide hm; clear hm tok)
    | (go_at_call 7; refine (HNEW.out w3).mono ?_; rintro e w4 ⟨bp, rfl, hm⟩; have HT2 := hide (two_made M1.out hm); clear hm M1)
    | (go_at_call 9; refine (live_true w4).mono ?_; rintro e w5 ⟨rfl, hb5⟩; have HB5 := hide hb5; clear hb5))
  have HI0 : Hid (OrdI w2 w5 ap bp now [] [] (.slice none 0 0) []) := by
    obtain ⟨Y1, Y2, hT⟩ := HT2.out
    exact hide ⟨⟨Y1, Y2, hT.below HB5.out, fun g hg => by cases hg⟩, rown_nil _ _⟩
  clear HT2 HB5 HNEW
  go_wp2_with fail
  go_loopw [9, 10] (fun v9 v10 wr => ∃ (i : Nat) (ao : Option Addr) (c kc : Nat), i ≤ n ∧ i ≤ 500 ∧ v10 = .int .i64 (i : Int) ∧ v9 = .slice ao c kc ∧ Hid (∃ La T, OrdI w2 wr ap bp now La [] (.slice ao c kc) T ∧ T.Perm La)) (fun _ v10 _ => n - (intOf v10).toNat)
  case atStart => exact ⟨0, none, 0, 0, by omega, by omega, rfl, rfl, [], [], HI0.out, .refl _⟩
  case round =>
    clear HI0
    obtain ⟨i, ao, c, kc, hi, hi5, rfl, rfl, HI⟩ := hrel
    obtain ⟨F, hF⟩ : ∃ F, F = decide (i < n ∧ i < 500) := ⟨_, rfl⟩
    have HF := hide hF
    clear hF
    go_upto_region 8 with fail
    go_cut [50] (fun a wx => a = .bool F ∧ wx = wr)
    case first =>
      by_cases h1 : i < n
      · have h1' : (i : Int) < (n : Int) := by omega
        by_cases h2 : i < 500
        · have h2' : (i : Int) < 500 := by omega
          have e : Hid (F = true) := hide (by rw [HF.out]; exact decide_eq_true ⟨h1, h2⟩)
          clear h1 h2
          go_wp2
          go_meet
          case rel => exact ⟨by rw [e.out], by first | exact rfl | trivial⟩
        · have h2' : ¬ (i : Int) < 500 := by omega
          have e : Hid (F = false) := hide (by rw [HF.out]; exact decide_eq_false (fun h => h2 h.2))
          clear h1 h2
          go_wp2
          go_meet
          case rel => exact ⟨by rw [e.out], by first | exact rfl | trivial⟩
      · have h1' : ¬ (i : Int) < (n : Int) := by omega
        have e : Hid (F = false) := hide (by rw [HF.out]; exact decide_eq_false (fun h => h1 h.1))
        clear h1
        go_wp2
        go_meet
        case rel => exact ⟨by rw [e.out], by first | exact rfl | trivial⟩
    case rest =>
      obtain ⟨rfl, hwc⟩ := hcut
      have hwd := hwc.symm
      subst hwd
      clear hwc
      obtain ⟨La, T, hI, hP⟩ := HI.out
      have HI1 := hide hI
      have HP := hide hP
      clear HI hI hP
      cases F with
      | true =>
        have hlt := of_decide_eq_true HF.out.symm
        obtain ⟨x, hx⟩ : ∃ x, l[i]? = some x := ⟨_, List.getElem?_eq_getElem (by have := HL.out; omega)⟩
        obtain ⟨b, off, e0, k0, k1⟩ := (HS.out.keep HI1.out.bel).at hx
        subst e0
        obtain ⟨x1, x2⟩ := x
        have HX := hide (HK.out _ (List.mem_of_getElem? hx))
        have HXX := hide hx
        have hil : (i : Int) < (n : Int) := by omega
        have hi5' : (i : Int) < 500 := by omega
        have HC := hide (HI1.out.drew.addA x1 x2 HX.out.1 HX.out.2)
        unfold pw at HC
        simp only at k0 k1
        clear hx hlt HF
        by_cases h0 : addE now La x1 x2 = 0
        · have HP6 := hide (ord_some HP.out h0)
          rw [h0] at HC
          clear h0
          go_upto_region 10 with fail
          go_region_held (fun W => W.cell? ⟨b, off + i * 2, none⟩ = some (.int .u64 (x1 : Int)) ∧ W.cell? ⟨b, off + i * 2 + 1, none⟩ = some (.int .u64 (x2 : Int))) (go_keep) (first
            | (go_at_call 13; refine (num_any _ _).mono ?_; rintro e wx ⟨rfl, hwx⟩; have hwy := hwx.symm; subst hwy; clear hwx)
            | (go_at_call 14; refine HC.out.mono ?_; rintro e w6 ⟨rfl, h6⟩; obtain ⟨c0, c1⟩ := (HS.out.keep h6.bel).get HXX.out; have HI6 := hide h6; simp only at c0 c1; clear h6))
          have HOK := hide (HI6.out.own.keep (below_new w6 (.cells #[.int .u64 (x1 : Int), .int .u64 (x2 : Int)] 58)))
          have HBN := hide (Bl.new w6 #[.int .u64 (x1 : Int), .int .u64 (x2 : Int)] 58)
          have HTL := hide (show T.length ≤ 1000000 by have h1 := HI1.out.okA.2.1; have h2 := HP.out.length_eq; omega)
          have HSZ : Hid (w2.heap.size ≤ (w6.alloc (.cells #[.int .u64 (x1 : Int), .int .u64 (x2 : Int)] 58)).heap.size) := by show _ ≤ _; have := HI6.out.bel.size; simp; omega
          clear k0 k1
          go_wp2_with (at_builtin; refine wpList_append_r rfl _ _ rfl w2.heap.size (.slice ao c kc) T rfl HOK.out w6.heap.size (x1, x2) rfl (HBN.out.cell 0) (HBN.out.cell 1) HTL.out HSZ.out ?_; intro v7 w7 h7 g7 l7; obtain ⟨ao7, n7, c7, rfl⟩ := rown_shape h7; have HI7 := hide (HI6.out.grow _ g7 h7 l7); clear h7 g7 l7)
          go_roundw
          case rel => exact ⟨i + 1, ao7, n7, c7, by omega, by omega, by simp, rfl, _, _, HI7.out, HP6.out⟩
          case measure => simp [intOf]; omega
        · have HE := hide (ord_none h0)
          have hz : ((addE now La x1 x2 : Int) == 0) = false := by simp; omega
          rw [HE.out] at HC
          generalize addE now La x1 x2 = e0 at *
          clear h0
          go_upto_region 10 with fail
          go_region_held (fun W => W.cell? ⟨b, off + i * 2, none⟩ = some (.int .u64 (x1 : Int)) ∧ W.cell? ⟨b, off + i * 2 + 1, none⟩ = some (.int .u64 (x2 : Int))) (go_keep) (first
            | (go_at_call 13; refine (num_any _ _).mono ?_; rintro e wx ⟨rfl, hwx⟩; have hwy := hwx.symm; subst hwy; clear hwx)
            | (go_at_call 14; refine HC.out.mono ?_; rintro e w6 ⟨rfl, h6⟩; obtain ⟨c0, c1⟩ := (HS.out.keep h6.bel).get HXX.out; have HI6 := hide h6; simp only at c0 c1; clear h6))
          go_wp2_with fail
          go_roundw
          case rel => exact ⟨i + 1, ao, c, kc, by omega, by omega, by simp, rfl, _, _, HI6.out, HP.out⟩
          case measure => simp [intOf]; omega
      | false =>
        clear HF HL HK HS
        obtain ⟨hcT, -⟩ := HI1.out.row
        have HCT := hide hcT
        have hc8 : (c : Int) ≤ 8192 := by have h1 := HI1.out.okA.2.1; have h2 := HP.out.length_eq; omega
        clear hcT
        go_wp2_with fail
        go_loopw [11] (fun v11 wr => ∃ j : Nat, j ≤ c ∧ v11 = .int .i64 ((j : Int) - 1) ∧ Hid (∃ Lb, OrdI w2 wr ap bp now La Lb (.slice ao c kc) T ∧ Lb.Perm (T.drop j))) (fun v11 _ => (intOf v11 + 1).toNat)
        case atStart => exact ⟨c, by omega, rfl, [], HI1.out, by rw [List.drop_of_length_le (by have := HCT.out; omega)]⟩
        case round =>
          have HA := hide HI1.out.okA
          clear HI1
          obtain ⟨j, hj, rfl, HJ⟩ := hrel
          obtain ⟨Lb0, hJ, hPb⟩ := HJ.out
          cases j with
          | succ j =>
            obtain ⟨x, hx⟩ : ∃ x, T[j]? = some x := ⟨_, List.getElem?_eq_getElem (by have := HCT.out; omega)⟩
            obtain ⟨kb, koff, e0, -, -⟩ := hJ.row.2.at hx
            subst e0
            obtain ⟨x1, x2⟩ := x
            have HXX := hide hx
            rw [show (((j + 1 : Nat) : Int) - 1) = (j : Int) by omega]
            have hj0 : (0 : Int) ≤ (j : Int) := by omega
            have hjc : (j : Int) < (c : Int) := by omega
            have HX : Hid (x1 < 18446744073709551616 ∧ x2 < 18446744073709551616) := hide (by
              have := HA.out.2.2 _ (HP.out.mem_iff.1 (List.mem_of_getElem? hx))
              exact ⟨this.1, this.2.1⟩)
            clear hx hPb hJ
            go_wp2_with fail
            go_loopw [12] (fun v12 wr => ∃ q : Nat, q ≤ m ∧ v12 = .int .i64 (q : Int) ∧ Hid (∃ Lb, OrdI w2 wr ap bp now La Lb (.slice (some ⟨kb, koff, none⟩) c kc) T ∧ Lb.Perm (T.drop (j + 1)))) (fun v12 _ => m - (intOf v12).toNat)
            case atStart => exact ⟨0, by omega, rfl, HJ⟩
            case round =>
              clear HJ
              obtain ⟨q, hq, rfl, HJ⟩ := hrel
              obtain ⟨Lb, hJ, hPb⟩ := HJ.out
              have HI1 := hide hJ
              have HPB := hide hPb
              obtain ⟨k0, k1⟩ := hJ.row.2.get HXX.out
              simp only at k0 k1
              clear HJ hJ hPb
              obtain ⟨F, hF⟩ : ∃ F, F = decide (q < m ∧ q < 4) := ⟨_, rfl⟩
              have HF := hide hF
              clear hF
              go_upto_region 16 with fail
              go_cut [88] (fun a wx => a = .bool F ∧ wx = wr)
              case first =>
                by_cases h1 : q < m
                · have h1' : (q : Int) < (m : Int) := by omega
                  by_cases h2 : q < 4
                  · have h2' : (q : Int) < 4 := by omega
                    have e : Hid (F = true) := hide (by rw [HF.out]; exact decide_eq_true ⟨h1, h2⟩)
                    clear h1 h2
                    go_wp2
                    go_meet
                    case rel => exact ⟨by rw [e.out], by first | exact rfl | trivial⟩
                  · have h2' : ¬ (q : Int) < 4 := by omega
                    have e : Hid (F = false) := hide (by rw [HF.out]; exact decide_eq_false (fun h => h2 h.2))
                    clear h1 h2
                    go_wp2
                    go_meet
                    case rel => exact ⟨by rw [e.out], by first | exact rfl | trivial⟩
                · have h1' : ¬ (q : Int) < (m : Int) := by omega
                  have e : Hid (F = false) := hide (by rw [HF.out]; exact decide_eq_false (fun h => h1 h.1))
                  clear h1
                  go_wp2
                  go_meet
                  case rel => exact ⟨by rw [e.out], by first | exact rfl | trivial⟩
              case rest =>
                obtain ⟨rfl, hwc⟩ := hcut
                have hwd := hwc.symm
                subst hwd
                clear hwc
                cases F with
                | true =>
                  have hlt := of_decide_eq_true HF.out.symm
                  have hqm : (q : Int) < (m : Int) := by omega
                  have hq4 : (q : Int) < 4 := by omega
                  have hql : q < gs.length := by have := HM.out; omega
                  obtain ⟨gb, goff, e0⟩ := HQ.out.form (by omega)
                  subst e0
                  have HG := hide (HGK.out (gs.getD q 0) (getD_mem hql))
                  have HGC : Hid (∀ W, Below w2.heap.size w2 W → W.cell? ⟨gb, goff + q, none⟩ = some (.int .u64 ((gs.getD q 0 : Nat) : Int))) := hide fun W hW => (HQ.out.keep hW).cell q hql
                  generalize gs.getD q 0 = g at *
                  have c00 := HGC.out _ HI1.out.bel
                  have HD := hide (due_any (some ⟨kb, koff, none⟩) c kc g T wr HI1.out.row.2 HI1.out.row.1 (by omega))
                  clear hlt hql HF
                  cases hg0 : tget g T with
                  | some a =>
                    rw [hg0] at HD
                    simp only [Option.getD_some, Option.isSome_some] at HD
                    clear hg0
                    go_wp2_with (go_at_call 22; refine HD.out.mono ?_; rintro e wx ⟨rfl, hwx⟩; have hwy := hwx.symm; subst hwy; clear hwx)
                    go_roundw
                    case rel => exact ⟨q + 1, by omega, by simp, Lb, HI1.out, HPB.out⟩
                    case measure => simp [intOf]; omega
                  | none =>
                    rw [hg0] at HD
                    simp only [Option.getD_none, Option.isSome_none] at HD
                    obtain ⟨z1, z2, z3⟩ := ord_gone HP.out HA.out.2 HPB.out HI1.out.okB HXX.out hg0
                    simp only at z1 z2 z3
                    have HC := hide (HI1.out.drew.addB g x2 HG.out HX.out.2)
                    have HR : Hid (∀ W, OrdI w2 W ap bp now La (addL now Lb g x2) (.slice (some ⟨kb, koff, none⟩) c kc) T → Calls Try.prog 23 #[pw bp, .int .u64 (g : Int)] W fun e w' => e = .returned (.int .i64 0) ∧ OrdI w2 w' ap bp now La Lb (.slice (some ⟨kb, koff, none⟩) c kc) T) := hide fun W h => by
                      have := h.remB g HG.out
                      rw [z2, z3] at this
                      exact this
                    rw [z1] at HC
                    clear z1 z2 z3 hg0
                    generalize addL now Lb g x2 = Lc at *
                    unfold pw at HC HR
                    go_upto_region 20 with (go_at_call 22; refine HD.out.mono ?_; rintro e wx ⟨rfl, hwx⟩; have hwy := hwx.symm; subst hwy; clear hwx)
                    go_region_held (fun W => W.cell? ⟨gb, goff + q, none⟩ = some (.int .u64 (g : Int)) ∧ W.cell? ⟨kb, koff + j * 2 + 1, none⟩ = some (.int .u64 (x2 : Int))) (go_keep) (first | (go_at_call 14; refine HC.out.mono ?_; rintro e w6 ⟨rfl, h6⟩; have c0 := HGC.out _ h6.bel; obtain ⟨c1, c2⟩ := h6.row.2.get HXX.out; have HI6 := hide h6; simp only at c1 c2; clear h6))
                    go_wp2_with (first
                      | (go_at_call 13; refine (num_any _ _).mono ?_; rintro e wx ⟨rfl, hwx⟩; have hwy := hwx.symm; subst hwy; clear hwx)
                      | (go_at_call 23; refine (HR.out _ HI6.out).mono ?_; rintro e w7 ⟨rfl, h7⟩; have HI7 := hide h7; clear h7))
                    go_roundw
                    case rel => exact ⟨q + 1, by omega, by simp, Lb, HI7.out, HPB.out⟩
                    case measure => simp [intOf]; omega
                | false =>
                  obtain ⟨z1, z2⟩ := ord_add HP.out HA.out.1 HA.out.2 HPB.out HXX.out
                  simp only at z1 z2
                  have HC := hide (HI1.out.drew.addB x1 x2 HX.out.1 HX.out.2)
                  rw [z1] at HC
                  have HZ := hide z2
                  clear z1 z2 HF
                  generalize addL now Lb x1 x2 = Lc at *
                  unfold pw at HC
                  go_upto_region 24 with fail
                  go_region_held (fun W => W.cell? ⟨kb, koff + j * 2, none⟩ = some (.int .u64 (x1 : Int)) ∧ W.cell? ⟨kb, koff + j * 2 + 1, none⟩ = some (.int .u64 (x2 : Int))) (go_keep) (first
                    | (go_at_call 13; refine (num_any _ _).mono ?_; rintro e wx ⟨rfl, hwx⟩; have hwy := hwx.symm; subst hwy; clear hwx)
                    | (go_at_call 14; refine HC.out.mono ?_; rintro e w6 ⟨rfl, h6⟩; obtain ⟨c1, c2⟩ := h6.row.2.get HXX.out; have HI6 := hide h6; simp only at c1 c2; clear h6))
                  go_wp2_with fail
                  go_roundw
                  case rel => exact ⟨j, by omega, by go_num, Lc, HI6.out, HZ.out⟩
                  case measure => simp [intOf]
          | zero =>
            rw [show (((0 : Nat) : Int) - 1) = -1 by omega]
            have e := ord_end HP.out HA.out.1 hPb hJ.okB
            rw [e] at hJ
            obtain ⟨Y1, Y2, hT, -⟩ := hJ.two
            have T0 := hide hT
            clear e hJ hPb HJ hT
            have HTM : Hid (∀ (W : World) (p : Nat) (Y : Lay), Whl W p now La Y → Calls Try.prog 24 #[pw p] W fun e w' => ∃ v, e = .returned v ∧ Own w' W.heap.size v (flat2 La) ∧ Below W.heap.size W w') := hide fun W p Y hW => timers_any p now La Y W hW
            have HTN : Hid (∀ (W : World) (p : Nat) (Y : Lay), Whl W p (max now tt) (advL tt La) Y → Calls Try.prog 24 #[pw p] W fun e w' => ∃ v, e = .returned v ∧ Own w' W.heap.size v (flat2 (advL tt La)) ∧ Below W.heap.size W w') := hide fun W p Y hW => timers_any p _ _ Y W hW
            have HSP : Hid (∀ (W : World) (p : Nat) (Y : Lay), Whl W p now La Y → Calls Try.prog 17 #[pw p] W fun e w' => e = .returned (spreadV now La) ∧ Below W.heap.size W w') := hide fun W p Y hW => spread_whl p now La Y W hW
            have HAD : Hid (∀ (W : World) (p : Nat) (Y : Lay), Whl W p now La Y → Calls Try.prog 19 #[pw p, .int .u64 (tt : Int)] W fun e w' => ∃ ao n c Y', e = .returned (.tuple #[.slice ao n c, .int .i64 (if tt < now then 70 else 0)]) ∧ Own w' W.heap.size (.slice ao n c) (((advD tt La).mergeSort leT).map (·.1)) ∧ (∀ g, (Value.slice ao n c).ownBlock = some g → g ∉ Y'.blocks p) ∧ Whl w' p (max now tt) (advL tt La) Y' ∧ Aft p Y Y' W w') := hide fun W p Y hW => advance_any p now tt La Y W hW HT.out
            have HX3 : Hid ((((advD tt La).mergeSort leT).map (·.1)).length ≤ 8192) := hide (by rw [List.length_map, List.length_mergeSort]; exact Nat.le_trans (List.length_filter_le _ _) HA.out.2.1)
            have HF1 := hide (flat2_length La HA.out.2.1)
            have HF2 := hide (flat2_length (advL tt La) (Nat.le_trans (List.length_filter_le _ _) HA.out.2.1))
            obtain ⟨y0, y1, y2, y3, y4, hsv⟩ := spread_form now La
            have hse := five_eq y0 y1 y2 y3 y4
            unfold pw at HTM HTN HSP HAD
            rw [hsv] at HSP
            clear hsv HP HA HCT
            generalize ((advD tt La).mergeSort leT).map (·.1) = xs at *
            generalize flat2 La = fl at *
            generalize flat2 (advL tt La) = fm at *
            generalize advL tt La = L2 at *
            generalize max now tt = nw at *
            obtain ⟨er, her⟩ : ∃ er : Int, er = (if tt < now then 70 else 0) := ⟨_, rfl⟩
            rw [← her] at HAD
            clear her
            have tok1 : True := trivial
            have tok2 : True := trivial
            have tok3 : True := trivial
            have tok4 : True := trivial
            have tok5 : True := trivial
            go_upto_region 28 with (first
              | (go_at_call 24; have _t := tok1; refine (HTM.out wr ap Y1 T0.out.one).mono ?_; rintro e w11 ⟨v11, rfl, o11, hb11⟩; have B11 := hide hb11; obtain ⟨ao11, c11, rfl, _, r11⟩ := o11.read; have R11 := hide r11; clear o11 hb11 r11 tok1)
              | (go_at_call 24; refine (HTM.out w11 bp Y2 (T0.out.two.below B11.out)).mono ?_; rintro e w12 ⟨v12, rfl, o12, hb12⟩; have B12 := hide (B11.out.trans (hb12.mono B11.out.size)); obtain ⟨ao12, c12, rfl, _, r12⟩ := o12.read; have R12 := hide r12; have R11b := hide (R11.out.keep hb12); clear o12 hb12 r12)
              | (go_at_call 21; refine (ids_any _ _ _ _ _ _ fl fl w12 R11b.out R12.out rfl rfl (by have := HF1.out; omega)).mono ?_; rw [decide_eq_true rfl]; rintro e w13 ⟨rfl, q, hw13⟩; have B13 : Hid (Below wr.heap.size wr w13) := hide (by rw [hw13]; exact below_drewN B12.out _); clear hw13)
              | (go_at_call 17; have _t := tok2; refine (HSP.out w13 ap Y1 (T0.out.one.below B13.out)).mono ?_; rintro e w14 ⟨rfl, hb14⟩; have B14 := hide (B13.out.trans (hb14.mono B13.out.size)); clear hb14 tok2)
              | (go_at_call 17; refine (HSP.out w14 bp Y2 (T0.out.two.below B14.out)).mono ?_; rintro e w15 ⟨rfl, hb15⟩; have T1 := hide (T0.out.below (B14.out.trans (hb15.mono B14.out.size))); clear hb15))
            go_upto_region 30 with (first
              | (go_at_call 19; have _t := tok3; refine (HAD.out w15 ap Y1 T1.out.one).mono ?_; rintro e w16 ⟨ao1, n1, c1, Y3, rfl, o5, nb5, k5, f5⟩; have T5 := hide (T1.out.adv k5 f5); have O5 := hide o5; clear o5 nb5 k5 f5 tok3)
              | (go_at_call 19; refine (HAD.out w16 bp Y2 T5.out.two).mono ?_; rintro e w17 ⟨ao2, n2, c2, Y4, rfl, o6, nb6, k6, f6⟩; have T6 := hide (T5.out.symm.adv k6 f6).symm; have O6 := hide o6; have O5b := hide (own_fr O5.out f6.fr (fun g hg hm => by have h1 := (O5.out.lt g hg).1; have h2 := T1.out.two.lt g hm; omega)); clear o6 nb6 k6 f6))
            obtain ⟨a1, d1, hv1, _, r1⟩ := O5b.out.read
            obtain ⟨a2, d2, hv2, _, r2⟩ := O6.out.read
            cases hv1
            cases hv2
            have R1 := hide r1
            have R2 := hide r2
            clear r1 r2 O5 O5b O6 T0 T1 T5 HAD HSP HTM R11 R12 R11b B11 B12 B13 B14
            have tok1 : True := trivial
            have tok2 : True := trivial
            go_wp2_with (first
              | (go_at_call 21; have _t := tok1; refine (ids_any _ _ _ _ _ _ xs xs w17 R1.out R2.out rfl rfl (by have := HX3.out; omega)).mono ?_; rw [decide_eq_true rfl]; rintro e w18 ⟨rfl, q, hw18⟩; have B18 : Hid (Below w17.heap.size w17 w18) := hide (by rw [hw18]; exact below_drewN (Below.refl _ _) _); clear hw18 tok1)
              | (go_at_call 24; have _t := tok2; refine (HTN.out w18 ap Y3 (T6.out.one.below B18.out)).mono ?_; rintro e w19 ⟨v19, rfl, o19, hb19⟩; have B19 := hide (B18.out.trans (hb19.mono B18.out.size)); obtain ⟨ao19, c19, rfl, _, r19⟩ := o19.read; have R19 := hide r19; clear o19 hb19 r19 tok2)
              | (go_at_call 24; refine (HTN.out w19 bp Y4 (T6.out.two.below B19.out)).mono ?_; rintro e w20 ⟨v20, rfl, o20, hb20⟩; have B20 := hide (B19.out.trans (hb20.mono B19.out.size)); obtain ⟨ao20, c20, rfl, _, r20⟩ := o20.read; have R20 := hide r20; have R19b := hide (R19.out.keep hb20); clear o20 hb20 r20)
              | (go_at_call 21; refine (ids_any _ _ _ _ _ _ fm fm w20 R19b.out R20.out rfl rfl (by have := HF2.out; omega)).mono ?_; rw [decide_eq_true rfl]; rintro e w21 ⟨rfl, q, hw21⟩; have B21 : Hid (Below w17.heap.size w17 w21) := hide (by rw [hw21]; exact below_drewN B20.out _); clear hw21))
            go_ret
            exact ⟨rfl, by rw [← HNN.out] at HBW2; exact (HBW2.out.trans (T6.out.bel.mono HBW2.out.size)).trans (B21.out.mono (Nat.le_trans HBW2.out.size T6.out.bel.size))⟩
end Go.Proofs.Ytmngmkbiibhmkaa
