/- CodesDraws, walked: every call on a source, in every order. -/
import Derived.Test.YtonnnolnkjahgaaDoorCActs
namespace Go.Proofs.YtonnnolnkjahgaaDoor
open Go.RowKit Go.Shelf

theorem yduo_made {w w2 w3 w4 : World} {sp rp : Nat} {xs bs cs : List Nat} (h0 : Below w.heap.size w w2) (h1 : Src 53 w3 sp xs bs) (hb1 : Below w2.heap.size w2 w3) (hy1 : ∀ b ∈ bs, w2.heap.size ≤ b) (h2 : Src 36 w4 rp xs cs) (hb2 : Below w3.heap.size w3 w4) (hy2 : ∀ b ∈ cs, w3.heap.size ≤ b) (hle : xs.length ≤ 4096) : YDuo w w4 sp rp xs :=
  ⟨⟨bs, cs, ⟨h1.keep hb2, h2, fun b hb hc => by have := h1.lts b hb; have := hy2 b hc; omega, hle⟩, fun b hb => by
    have := h0.size
    have := hb1.size
    rcases List.mem_append.1 hb with e | e
    · have := hy1 b e; omega
    · have := hy2 b e; omega⟩, (h0.trans (hb1.mono h0.size)).trans (hb2.mono (Nat.le_trans h0.size hb1.size))⟩
set_option maxHeartbeats 2000000 in
set_option maxRecDepth 100000 in
theorem codesDraws_walk (n c m d : Nat) (ao bo : Option Addr) (ds : List Nat) (l : List At) (w : World) (hT : Lets w) (hn : n = ds.length) (hn2 : n ≤ 140737488351232) (hr : Row w ao ds) (hb : ∀ x ∈ ds, x < 256) (hm : m = l.length) (hm2 : m ≤ 140737488351232) (hA : ASee w bo l) (hO : AOk l) :
    Calls Tryd.prog 4 #[.slice ao n c, .slice bo m d] w fun e w' => e = .returned (.bool true) ∧ Below w.heap.size w w' := by
  have HL : Hid (∀ W, Below w.heap.size w W → Calls Tryd.prog 10 #[] W fun e w' => e = .returned (.bool true) ∧ Below W.heap.size W w') := hide fun W h => live_true W (hT.keep h)
  have HT := hide hT
  have HN := hide hn
  have HN2 := hide hn2
  have HR := hide hr
  have HBY := hide hb
  have HM := hide hm
  have HM2 := hide hm2
  have HA := hide hA
  have HO := hide hO
  have HOA : Hid (Own (w.alloc (.cells #[] 5)) w.heap.size (.slice (some ⟨w.heap.size, 0, none⟩) 0 0) []) := hide (own_new w w.heap.size [] (Nat.le_refl _) (by simp))
  have HRA : Hid (Row (w.alloc (.cells #[] 5)) ao ds) := hide (hr.keep (below_new w _))
  clear hT hn hn2 hr hb hm hm2 hA hO
  go_enter Tryd.func4, Tryd.ntmps4
  go_wp2_with (first
    | (at_builtin; refine wpList_append_bytes rfl _ _ rfl w.heap.size _ [] rfl HOA.out ao n c ds HN.out rfl HRA.out (by have := HN2.out; have := HN.out; simp; omega) (by simp) ?_))
  rintro v1 w1 hown1 hgr1
  have HB1 : Hid (Below w.heap.size w w1) := hide ((below_new w _).grown hgr1 (by simp) HOA.out.ge)
  have HO1 : Hid (Own w1 w.heap.size v1 ds) := hide hown1
  obtain ⟨vo1, vc1, rfl, -, -⟩ := hown1.read
  have hlen : ds.length = n := HN.out.symm
  rw [hlen] at HO1 ⊢
  clear hown1 hgr1 hlen HOA HRA
  go_wp2_with (first
    | (at_builtin; refine wpList_append_bytes rfl _ _ rfl w.heap.size _ ds rfl (HO1.out.alloc _) (some ⟨w1.heap.size, 0, none⟩) 2 2 [9, 8] rfl rfl (nine_eight w1) (by have := HN2.out; have := HN.out; simp; omega) (by have := HB1.out.size; simp; omega) ?_))
  rintro v2 w2 hown2 hgr2
  have HB2 : Hid (Below w.heap.size w w2) := hide ((HB1.out.alloc HB1.out.size _).grown hgr2 (by have := HB1.out.size; simp; omega) HO1.out.ge)
  obtain ⟨g, vc2, cur, rfl, hg, hbl, hcap, hcur⟩ := hown2.block (by simp)
  have HO2 := hide hown2
  have HG := hide hg
  have HBL := hide hbl
  have hlen : (ds ++ [9, 8]).length = n + 2 := by have := HN.out; simp; omega
  rw [hlen] at HO2 hcap hcur ⊢
  have HCUR := hide hcur
  have hcut := cut_to (some ⟨g, 0, none⟩) (n + 2) vc2 n (by omega)
  have hrow2 : Row w2 (some ⟨g, 0, none⟩) (ds ++ [9, 8]) := by
    obtain ⟨ao', c', e, -, hr⟩ := hown2.read
    injection e with e1 _ _
    rw [e1]
    exact hr
  have HNS := hide (nsrc_any n vc2 ds (some ⟨g, 0, none⟩) w2 hrow2.take HBY.out HN.out (by omega))
  have HNR : Hid (∀ W, Below w.heap.size w W → Calls Tryd.prog 12 #[.slice ao n c] W fun e w' => ∃ sp, e = .returned (pf sp) ∧ ∃ bs, Src 36 w' sp (ds.take 4096) bs ∧ Below W.heap.size W w' ∧ ∀ b ∈ bs, W.heap.size ≤ b) := hide fun W h => rnew_any n c ds ao W (HR.out.keep h) HBY.out HN.out (by have := HN2.out; omega)
  clear hown2 hgr2 hbl hg hcur hlen HO1 HB1 hrow2 hcap
  generalize hn3 : n + 2 = n3 at *
  have HN3L : Hid (n3 ≤ 140737488355328) := hide (by have := HN2.out; omega)
  clear hn3
  unfold pf at *
  go_upto_region 4 with (first
    | (go_at_call 11; refine HNS.out.mono ?_; rintro e w3 ⟨sp, rfl, bs, h3, b3, y3⟩; have H3 := hide h3; have HB3 := hide b3; have HY3 := hide y3; have HBW3 := hide (HB2.out.trans (b3.mono HB2.out.size)); clear h3 b3 y3)
    | (go_at_call 12; refine (HNR.out _ HBW3.out).mono ?_; rintro e w4 ⟨rp, rfl, cs, h4, b4, y4⟩; have HD4 := hide (yduo_made HB2.out H3.out HB3.out HY3.out h4 b4 y4 (by simp; omega)); have HO4 := hide ((HO2.out.keep HB3.out).keep b4); have HBL4 := hide ((HBL.out.keep HB3.out).keep b4); have HGN := hide (show ∀ b ∈ bs ++ cs, b ≠ g from fun b hb e => by
        have hgl := HBL.out.lt
        have hs3 := HB3.out.size
        rcases List.mem_append.1 hb with e1 | e1
        · have := HY3.out b e1; omega
        · have := y4 b e1; omega); have HS4 := hide h4; have HSD := hide (H3.out.keep b4); have HAP := hide (show ∀ b ∈ bs, b ∉ cs from fun b hb hc => by have := H3.out.lts b hb; have := y4 b hc; omega); have HYC := hide (show ∀ b ∈ bs ++ cs, w.heap.size ≤ b from fun b hb => by
        have := HB2.out.size
        have := HB3.out.size
        rcases List.mem_append.1 hb with e1 | e1
        · have := HY3.out b e1; omega
        · have := y4 b e1; omega); clear h4 b4 y4))
  have hcva := conv_row c (HR.out.keep HD4.out.bel)
  rw [← HN.out] at hcva
  have hcvp : (convert 25 9 (.slice (some ⟨g, 0, none⟩) n3 vc2)).run Tryd.prog w4 = .ok (.string (bstr (ds ++ [9, 8]))) w4 := by
    obtain ⟨ao', c', e, -, hr⟩ := HO4.out.read
    have := conv_row c' hr
    rwa [← e] at this
  have hadd : ∀ W, (Op.stringOp .add (bstr ds) { data := #[9, 8] }).run Tryd.prog W = .ok (.string (bstr (ds ++ [9, 8]))) W := add_str (y := [9, 8]) (by have := HN.out; have := HN2.out; simp; omega)
  generalize bstr (ds ++ [9, 8]) = SP at *
  generalize bstr ds = SA at *
  go_wp2_with (first
    | (go_at_call 10; refine (HL.out _ HD4.out.bel).mono ?_; rintro e w5 ⟨rfl, h5⟩; have HB5 := hide h5; clear h5))
  clear hcva hcvp hadd
  have HBL5 := hide (HBL4.out.keep HB5.out)
  have HD5 : Hid (Duo w5 sp rp (ds.take 4096) bs cs) := hide ⟨HSD.out.keep HB5.out, HS4.out.keep HB5.out, HAP.out, by simp; omega⟩
  have HBW5 : Hid (Below w.heap.size w w5) := hide (HD4.out.bel.trans (HB5.out.mono HD4.out.bel.size))
  clear HD4 HO4 HBL4 HBW3 HB3 H3 HY3 HB2 HO2 HNS HNR HL HSD HS4 hcut
  generalize ds.take 4096 = xs0 at *
  go_loopw [8] (fun a wr => ∃ i : Nat, a = .int .i64 (i : Int) ∧ i ≤ n3 ∧ Hid (∃ cr, Bl wr g cr 5 ∧ n3 ≤ cr.length ∧ Fr [g] w5 wr)) (fun a _ => n3 - (intOf a).toNat)
  case atStart => exact ⟨0, rfl, by omega, hide ⟨cur, HBL5.out, HCUR.out, Fr.refl _ _⟩⟩
  case round =>
    obtain ⟨i, rfl, hi, hs⟩ := hrel
    obtain ⟨cr, hbl, hcr, hfr⟩ := hs.out
    have HBR := hide hbl
    have HCR := hide hcr
    have HFR := hide hfr
    have hwri : IntKind.i64.wrap ((i : Int) + 1) = ((i + 1 : Nat) : Int) := by have := HN3L.out; rw [IntKind.wrap_i64]; omega
    clear hs
    by_cases hin : i < n3
    · have hin' : (i : Int) < (n3 : Int) := by omega
      have HIN := hide hin
      obtain ⟨v0, hc⟩ := hbl.at i (by omega)
      have hf := hbl.frozen i
      clear hi hin hbl hcr hfr
      go_wp2_with fail
      go_roundw
      case rel => exact ⟨i + 1, by first | rfl | simp, HIN.out, hide ⟨_, HBR.out.set i _, by rw [List.length_set]; exact HCR.out, HFR.out.trans (Fr.setCell [g] _ g i _ (by simp)) (fun x hx => .inl hx)⟩⟩
      case measure => have := HIN.out; simp [intOf]; omega
    · have hin' : ¬ (i : Int) < (n3 : Int) := by omega
      have HY : Hid (YDuo w wr sp rp xs0) := hide ⟨⟨bs, cs, HD5.out.apart HFR.out (fun b hb e => HGN.out b hb (List.mem_singleton.1 e)), HYC.out⟩, HBW5.out.trans (HFR.out.below _ HBW5.out.size (fun x hx => by rw [List.mem_singleton.1 hx]; exact HG.out))⟩
      clear hi hin hbl hcr hfr hwri HFR HCR HBR HBL5 HD5 HBW5 HB5 HYC HAP HGN HBL
      go_wp2_with fail
      generalize wr = w6 at *
      clear hin'
      go_loopw [9] (fun a wr => ∃ j : Nat, a = .int .i64 (j : Int) ∧ j ≤ m ∧ Hid (∃ ys, YDuo w wr sp rp ys)) (fun a _ => m - (intOf a).toNat)
      case atStart => exact ⟨0, rfl, by omega, hide ⟨_, HY.out⟩⟩
      case round =>
        obtain ⟨j, rfl, hj, hs⟩ := hrel
        obtain ⟨ys, hy⟩ := hs.out
        have HYJ := hide hy
        have hwrj : IntKind.i64.wrap ((j : Int) + 1) = ((j + 1 : Nat) : Int) := by have := HM2.out; rw [IntKind.wrap_i64]; omega
        clear hs hy HY
        by_cases hjm : j < m
        · have hjm' : (j : Int) < (m : Int) := by omega
          have HJM := hide hjm
          obtain ⟨x, hx⟩ : ∃ x, l[j]? = some x := ⟨_, List.getElem?_eq_getElem (by have := HM.out; omega)⟩
          obtain ⟨b, off, hbo, hc1, hc2, hrx⟩ := HA.out.at hx
          have d1 := cell_kept hc1 HYJ.out.bel
          have d2 := cell_kept hc2 HYJ.out.bel
          have HDR := hide (draw_y x HYJ.out HT.out hrx (HO.out x (List.mem_of_getElem? hx)))
          unfold pf at HDR
          subst hbo
          clear hj hjm hx hc1 hc2 hrx
          generalize stepS x ys = zs at *
          generalize x.ps.length = pn at *
          generalize x.k = xk at *
          generalize x.po = xo at *
          generalize x.pc = xc at *
          go_wp2_with (first
            | (go_at_call 13; refine HDR.out.mono ?_; rintro e w7 ⟨rfl, h7⟩; have H7 := hide h7; clear h7))
          go_roundw
          case rel => exact ⟨j + 1, by first | rfl | simp, HJM.out, hide ⟨_, H7.out⟩⟩
          case measure => have := HJM.out; simp [intOf]; omega
        · have hjm' : ¬ (j : Int) < (m : Int) := by omega
          obtain ⟨bs7, cs7, hd7, -⟩ := HYJ.out.duo
          have HLF := hide (fun q => left_any sp ys bs7 (wr.drewN q) (hd7.s.keep (below_drewN (Below.refl _ _) q)))
          obtain ⟨vo, vc, hbl7, -, -, -⟩ := hd7.r.parts
          have c7 : wr.cell? ⟨rp, 0, none⟩ = some (.slice vo ys.length vc) := hbl7.cell 0
          have HBW := hide HYJ.out.bel
          clear hj hjm hd7 hbl7 HYJ hwrj
          generalize ys.length = yn at *
          unfold pf at HLF
          go_wp2_with fail
          go_quiet ((go_at_call 14; exact Calls.quiet_of_same (HLF.out _)))
          go_wp2_with fail
          go_ret
          exact ⟨rfl, below_drewN HBW.out _⟩
end Go.Proofs.YtonnnolnkjahgaaDoor
