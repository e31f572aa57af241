/- CodesPieces, walked: a source that is fed in pieces is one that is fed at once. -/
import Derived.Test.YtonnnolnkjahgabDoorCPiecesA
namespace Go.Proofs.YtonnnolnkjahgabDoor
open Go.RowKit Go.Shelf

theorem In.row {T : TypeId} {w : World} {p lo hi : Nat} {xs : List Nat} (h : In T w p xs lo hi) : ∃ vo vc, w.cell? ⟨p, 0, none⟩ = some (.slice vo xs.length vc) ∧ Row w vo xs := by
  obtain ⟨bs, h1, h2⟩ := h.ex
  obtain ⟨vo, vc, hb, hl, -, -⟩ := h1.parts
  obtain ⟨ao, cap, e, -, hr⟩ := hl.read
  injection e with e1 _ _
  exact ⟨vo, vc, hb.cell 0, by rw [e1]; exact hr⟩
set_option maxHeartbeats 2000000 in
set_option maxRecDepth 100000 in
theorem codesPieces_walk (n c k e m d : Nat) (ao ko bo : Option Addr) (as_ ks : List Nat) (l : List At) (w : World) (hT : Lets w) (hn : n = as_.length) (hnc : n ≤ c) (hn2 : n ≤ 140737488351232) (hr : Row w ao as_) (hb : ∀ x ∈ as_, x < 256) (hk : k = ks.length) (hke : k ≤ e) (hk2 : k ≤ 140737488351232) (hr2 : Row w ko ks) (hb2 : ∀ x ∈ ks, x < 256) (hm : m = l.length) (hm2 : m ≤ 140737488351232) (hA : ASee w bo l) (hO : AOk l) :
    Calls Tryd.prog 3 #[.slice ao n c, .slice ko k e, .slice bo m d] w fun e w' => e = .returned (.bool true) ∧ Below w.heap.size w w' := by
  have HL : Hid (∀ W, Below w.heap.size w W → Calls Tryd.prog 6 #[] W fun e w' => e = .returned (.bool true) ∧ Below W.heap.size W w') := hide fun W h => live_true W (hT.keep h)
  have hsum : (n : Int) + (k : Int) = ((n + k : Nat) : Int) := by omega
  have hsw : IntKind.i64.wrap ((n + k : Nat) : Int) = ((n + k : Nat) : Int) := by rw [IntKind.wrap_i64]; omega
  by_cases hbig : 4096 < n + k
  · have hbig' : (4096 : Int) < ((n + k : Nat) : Int) := by omega
    have HLW := hide (HL.out w (Below.refl _ _))
    clear hT hn hnc hn2 hr hb hk hke hk2 hr2 hb2 hm hm2 hA hO hbig
    generalize n + k = s at *
    go_enter Tryd.func3, Tryd.ntmps3
    go_wp2_with (first
      | (go_at_call 6; refine HLW.out.mono ?_; rintro e w1 ⟨rfl, h1⟩; have H1 := hide h1; clear h1))
    go_ret
    exact ⟨rfl, H1.out⟩
  · have hbig' : ¬ (4096 : Int) < ((n + k : Nat) : Int) := by omega
    have HT := hide hT
    have HN := hide hn
    have HK := hide hk
    have HRA := hide hr
    have HRB := hide hr2
    have HM := hide hm
    have HM2 := hide hm2
    have HA := hide hA
    have HO := hide hO
    have HS : Hid (n + k ≤ 4096) := hide (by omega)
    have HNC := hide hnc
    have HKE := hide hke
    have HBA := hide hb
    have HBB := hide hb2
    have HXL : Hid ((as_ ++ ks).length = n + k) := hide (by rw [List.length_append, ← hn, ← hk])
    have HXB := hide (lt_append hb hb2)
    have H1N := hide (nsrc_in n c as_ ao w hr hb hn hnc (by omega))
    have H1F : Hid (∀ W sp, In 49 W sp as_ w.heap.size W.heap.size → Below w.heap.size w W → Calls Tryd.prog 8 #[pf sp, .slice ko k e] W fun r w' => r = .returned (.tuple #[]) ∧ In 49 w' sp (as_ ++ ks) w.heap.size w'.heap.size ∧ Below w.heap.size W w') := hide fun W sp h hbw => feed_in sp k e w.heap.size as_ ks ko W h hbw.size (hr2.keep hbw) hb2 hk hke (by omega)
    have HF3a : Hid (∀ W sp lo, In 49 W sp [] lo W.heap.size → lo ≤ W.heap.size → Below w.heap.size w W → Calls Tryd.prog 8 #[pf sp, .slice ao n c] W fun r w' => r = .returned (.tuple #[]) ∧ In 49 w' sp as_ lo w'.heap.size ∧ Below lo W w') := hide fun W sp lo h hlo hbw => feed_in sp n c lo [] as_ ao W h hlo (hr.keep hbw) hb hn hnc (by simp; omega)
    have HF3b : Hid (∀ W sp lo, In 49 W sp as_ lo W.heap.size → lo ≤ W.heap.size → Below w.heap.size w W → Calls Tryd.prog 8 #[pf sp, .slice ko k e] W fun r w' => r = .returned (.tuple #[]) ∧ In 49 w' sp (as_ ++ ks) lo w'.heap.size ∧ Below lo W w') := hide fun W sp lo h hlo hbw => feed_in sp k e lo as_ ks ko W h hlo (hr2.keep hbw) hb2 hk hke (by omega)
    have HN3 : Hid (∀ W, Calls Tryd.prog 7 #[.slice none 0 0] W fun r w' => ∃ sp, r = .returned (pf sp) ∧ In 49 w' sp [] W.heap.size w'.heap.size ∧ Below W.heap.size W w') := hide fun W => nsrc_in 0 0 [] none W (.inl rfl) (fun y hy => by cases hy) rfl (Nat.le_refl _) (by omega)
    have HXN : Hid (∀ W vo vc, Row W vo (as_ ++ ks) → n + k ≤ vc → Calls Tryd.prog 7 #[.slice vo (n + k) vc] W fun r w' => ∃ sp, r = .returned (pf sp) ∧ In 49 w' sp (as_ ++ ks) W.heap.size w'.heap.size ∧ Below W.heap.size W w') := hide fun W vo vc h1 h2 => nsrc_in (n + k) vc (as_ ++ ks) vo W h1 HXB.out HXL.out.symm h2 HS.out
    have HXR : Hid (∀ W vo vc, Row W vo (as_ ++ ks) → Calls Tryd.prog 9 #[.slice vo (n + k) vc] W fun r w' => ∃ sp, r = .returned (pf sp) ∧ In 31 w' sp (as_ ++ ks) W.heap.size w'.heap.size ∧ Below W.heap.size W w') := hide fun W vo vc h1 => rnew_in (n + k) vc (as_ ++ ks) vo W h1 HXB.out HXL.out.symm HS.out
    clear hT hn hnc hn2 hr hb hk hke hk2 hr2 hb2 hm hm2 hA hO hbig
    generalize hs : n + k = s at *
    have HSE := hide hs
    clear hs
    unfold pf at *
    go_enter Tryd.func3, Tryd.ntmps3
    go_upto_region 5 with (first
      | (go_at_call 7; refine H1N.out.mono ?_; rintro r w1 ⟨p1, rfl, h1, b1⟩; have I1 := hide h1; have B1 := hide b1; clear h1 b1)
      | (go_at_call 8; refine (H1F.out _ _ I1.out B1.out).mono ?_; rintro r w2 ⟨rfl, h2, b2⟩; have I2 := hide h2; have B2 := hide (B1.out.trans b2); clear h2 b2))
    clear I1 B1 H1N H1F hsum hsw
    have HOA : Hid (Own (w2.alloc (.cells #[] 5)) w2.heap.size (.slice (some ⟨w2.heap.size, 0, none⟩) 0 0) []) := hide (own_new w2 w2.heap.size [] (Nat.le_refl _) (by simp))
    go_wp2_with (first
      | (at_builtin; refine wpList_append_bytes rfl _ _ rfl w2.heap.size _ [] rfl HOA.out ao n c as_ HN.out rfl ((HRA.out.keep B2.out).keep (below_new w2 _)) (by have := HS.out; have := HN.out; have := HSE.out; simp; omega) (by simp) ?_))
    rintro vA w3 hownA hgrA
    have BA : Hid (Below w2.heap.size w2 w3) := hide ((below_new w2 _).grown hgrA (by simp) HOA.out.ge)
    have HO_A : Hid (Own w3 w2.heap.size vA as_) := hide hownA
    have BWA : Hid (Below w.heap.size w w3) := hide (B2.out.trans (BA.out.mono B2.out.size))
    obtain ⟨voA, vcA, rfl, -, -⟩ := hownA.read
    clear hownA hgrA HOA
    generalize as_.length = nA at HO_A ⊢
    go_wp2_with (first
      | (at_builtin; refine wpList_append_bytes rfl _ _ rfl w2.heap.size _ as_ rfl HO_A.out ko k e ks HK.out rfl (HRB.out.keep BWA.out) (by have := HS.out; have := HN.out; have := HK.out; have := HSE.out; omega) BA.out.size ?_))
    rintro vB w4 hownB hgrB
    have D4 : Hid (Below w2.heap.size w2 w4) := hide (BA.out.grown hgrB BA.out.size HO_A.out.ge)
    obtain ⟨vo4, vc4, rfl, hleV, hrowV⟩ := hownB.read
    have HROW4 := hide hrowV
    have HLEV4 := hide hleV
    rw [HXL.out] at HLEV4 ⊢
    clear hownB hgrB hrowV hleV BWA HO_A BA
    have BW4 : Hid (Below w.heap.size w w4) := hide (B2.out.trans (D4.out.mono B2.out.size))
    have tok1 : True := trivial
    have tok2 : True := trivial
    go_upto_region 9 with (first
      | (go_at_call 7; have _t := tok1; refine (HXN.out w4 vo4 vc4 HROW4.out HLEV4.out).mono ?_; rintro r w5 ⟨p2, rfl, h5, b5⟩; have I5 := hide h5; have D5 := hide b5; have BW5 := hide (BW4.out.trans (b5.mono BW4.out.size)); clear h5 b5 tok1)
      | (go_at_call 7; refine (HN3.out _).mono ?_; rintro r w6 ⟨p3, rfl, h6, b6⟩; have I6 := hide h6; have D6 := hide b6; have BW6 := hide (BW5.out.trans (b6.mono BW5.out.size)); clear h6 b6)
      | (go_at_call 8; have _t := tok2; refine (HF3a.out _ _ _ I6.out D6.out.size BW6.out).mono ?_; rintro r w7 ⟨rfl, h7, b7⟩; have I7 := hide h7; have D7 := hide (D6.out.trans b7); have BW7 := hide (BW5.out.trans (D7.out.mono BW5.out.size)); clear h7 b7 tok2)
      | (go_at_call 8; refine (HF3b.out _ _ _ I7.out D7.out.size BW7.out).mono ?_; rintro r w8 ⟨rfl, h8, b8⟩; have I8 := hide h8; have D8 := hide (D7.out.trans b8); have BW8 := hide (BW5.out.trans (D8.out.mono BW5.out.size)); clear h8 b8))
    clear I6 D6 BW6 I7 D7 BW7 HROW4 HLEV4
    have HOA : Hid (Own (w8.alloc (.cells #[] 5)) w8.heap.size (.slice (some ⟨w8.heap.size, 0, none⟩) 0 0) []) := hide (own_new w8 w8.heap.size [] (Nat.le_refl _) (by simp))
    go_wp2_with (first
      | (at_builtin; refine wpList_append_bytes rfl _ _ rfl w8.heap.size _ [] rfl HOA.out ao n c as_ HN.out rfl ((HRA.out.keep BW8.out).keep (below_new w8 _)) (by have := HS.out; have := HN.out; have := HSE.out; simp; omega) (by simp) ?_))
    rintro vA w9 hownA hgrA
    have BA : Hid (Below w8.heap.size w8 w9) := hide ((below_new w8 _).grown hgrA (by simp) HOA.out.ge)
    have HO_A : Hid (Own w9 w8.heap.size vA as_) := hide hownA
    have BWA : Hid (Below w.heap.size w w9) := hide (BW8.out.trans (BA.out.mono BW8.out.size))
    obtain ⟨voA, vcA, rfl, -, -⟩ := hownA.read
    clear hownA hgrA HOA
    generalize as_.length = nA at HO_A ⊢
    go_wp2_with (first
      | (at_builtin; refine wpList_append_bytes rfl _ _ rfl w8.heap.size _ as_ rfl HO_A.out ko k e ks HK.out rfl (HRB.out.keep BWA.out) (by have := HS.out; have := HN.out; have := HK.out; have := HSE.out; omega) BA.out.size ?_))
    rintro vB w10 hownB hgrB
    have D10 : Hid (Below w8.heap.size w8 w10) := hide (BA.out.grown hgrB BA.out.size HO_A.out.ge)
    obtain ⟨vo10, vc10, rfl, hleV, hrowV⟩ := hownB.read
    have HROW10 := hide hrowV
    have HLEV10 := hide hleV
    rw [HXL.out] at HLEV10 ⊢
    clear hownB hgrB hrowV hleV BWA HO_A BA
    go_upto_region 10 with (first
      | (go_at_call 9; refine (HXR.out w10 vo10 vc10 HROW10.out).mono ?_; rintro r w11 ⟨q1, rfl, h11, b11⟩; have I11 := hide h11; have D11 := hide b11; clear h11 b11))
    obtain ⟨vo11, vc11, c11, hr11⟩ := I11.out.row
    have HR11 := hide hr11
    rw [HXL.out] at c11
    clear hr11 HROW10 HLEV10
    go_upto_region 11 with (first
      | (go_at_call 9; refine (HXR.out w11 vo11 vc11 HR11.out).mono ?_; rintro r w12 ⟨q2, rfl, h12, b12⟩; have I12 := hide h12; have D12 := hide b12; clear h12 b12))
    have c12 := cell_kept c11 D12.out
    have HR12 := hide (HR11.out.keep D12.out)
    go_upto_region 12 with (first
      | (go_at_call 9; refine (HXR.out w12 vo11 vc11 HR12.out).mono ?_; rintro r w13 ⟨q3, rfl, h13, b13⟩; have I13 := hide h13; have D13 := hide b13; clear h13 b13))
    have HTRI : Hid (Tri w w13 p1 q1 p2 q2 p3 q3 (as_ ++ ks) (as_ ++ ks) (as_ ++ ks)) := hide (by
      have E11 := D12.out.trans (D13.out.mono D12.out.size)
      have E10 := D11.out.trans (E11.mono D11.out.size)
      have E8 := D10.out.trans (E10.mono D10.out.size)
      have E5 := D8.out.trans (E8.mono D8.out.size)
      have E4 := D5.out.trans (E5.mono D5.out.size)
      have E2 := D4.out.trans (E4.mono D4.out.size)
      have E0 := B2.out.trans (E2.mono B2.out.size)
      exact tri_made E0 (I2.out.keep E2) (I5.out.keep E5) (I8.out.keep E8) (I11.out.keep E11) (I12.out.keep D13.out) I13.out (by rw [HXL.out]; exact HS.out) (Nat.le_refl _) B2.out.size D4.out.size D5.out.size (Nat.le_refl _) D8.out.size D10.out.size D11.out.size (Nat.le_refl _) D12.out.size (Nat.le_refl _))
    clear c11 c12 HR11 HR12 I11 I12 I13 D12 D13 D11 D10 D8 D5 D4 I8 I5 I2 B2 BW4 BW5 BW8 HXR HXN HN3 HF3a HF3b
    generalize as_ ++ ks = xs0 at *
    go_wp2_with fail
    go_loopw [13] (fun a wr => ∃ j : Nat, a = .int .i64 (j : Int) ∧ j ≤ m ∧ Hid (∃ ys, Tri w wr p1 q1 p2 q2 p3 q3 ys ys ys)) (fun a _ => m - (intOf a).toNat)
    case atStart => exact ⟨0, rfl, by omega, hide ⟨_, HTRI.out⟩⟩
    case round =>
      obtain ⟨j, rfl, hj, hs⟩ := hrel
      obtain ⟨ys, hy⟩ := hs.out
      have HYJ := hide hy
      have hwrj : IntKind.i64.wrap ((j : Int) + 1) = ((j + 1 : Nat) : Int) := by have := HM2.out; rw [IntKind.wrap_i64]; omega
      clear hs hy HTRI
      by_cases hjm : j < m
      · have hjm' : (j : Int) < (m : Int) := by omega
        have HJM := hide hjm
        obtain ⟨x, hx⟩ : ∃ x, l[j]? = some x := ⟨_, List.getElem?_eq_getElem (by have := HM.out; omega)⟩
        obtain ⟨b, off, hbo, hc1, hc2, hrx⟩ := HA.out.at hx
        have hox := HO.out x (List.mem_of_getElem? hx)
        have d1 := cell_kept hc1 HYJ.out.bel
        have d2 := cell_kept hc2 HYJ.out.bel
        have HC1 := hide hc1
        have HC2 := hide hc2
        subst hbo
        by_cases hk3 : x.k = 3
        · have hk3' : (x.k == 3) = true := by simpa using hk3
          clear hj hjm hx hc1 hc2 hrx hox hk3 HC1 HC2
          generalize x.ps.length = pn at *
          generalize x.k = xk at *
          generalize x.po = xo at *
          generalize x.pc = xc at *
          go_wp2_with fail
          go_roundw
          case rel => exact ⟨j + 1, by first | rfl | simp, HJM.out, hide ⟨_, HYJ.out⟩⟩
          case measure => have := HJM.out; simp [intOf]; omega
        · have hk3' : (x.k == 3) = false := by simpa using hk3
          have HD1 := hide (tri_draw x HYJ.out HT.out hrx hox)
          have HD2 : Hid (∀ W, Tri w W p2 q2 p3 q3 p1 q1 ys ys (stepS x ys) → Calls Tryd.prog 10 #[pf p2, pf q2, .agg #[.int .i64 x.k, .slice x.po x.ps.length x.pc]] W fun e w' => e = .returned (.bool true) ∧ Tri w w' p3 q3 p1 q1 p2 q2 ys (stepS x ys) (stepS x ys)) := hide fun W h => tri_draw x h HT.out hrx hox
          have HD3 : Hid (∀ W, Tri w W p3 q3 p1 q1 p2 q2 ys (stepS x ys) (stepS x ys) → Calls Tryd.prog 10 #[pf p3, pf q3, .agg #[.int .i64 x.k, .slice x.po x.ps.length x.pc]] W fun e w' => e = .returned (.bool true) ∧ Tri w w' p1 q1 p2 q2 p3 q3 (stepS x ys) (stepS x ys) (stepS x ys)) := hide fun W h => tri_draw x h HT.out hrx hox
          unfold pf at HD1 HD2 HD3
          clear hj hjm hx hc1 hc2 hrx hox hk3
          generalize stepS x ys = zs at *
          generalize x.ps.length = pn at *
          generalize x.k = xk at *
          generalize x.po = xo at *
          generalize x.pc = xc at *
          have tok1 : True := trivial
          have tok2 : True := trivial
          go_wp2_with (first
            | (go_at_call 10; have _t := tok1; refine HD1.out.mono ?_; rintro r w20 ⟨rfl, h20⟩; have T20 := hide h20; have d3 := cell_kept HC1.out h20.bel; have d4 := cell_kept HC2.out h20.bel; clear h20 tok1)
            | (go_at_call 10; have _t := tok2; refine (HD2.out _ T20.out).mono ?_; rintro r w21 ⟨rfl, h21⟩; have T21 := hide h21; have d5 := cell_kept HC1.out h21.bel; have d6 := cell_kept HC2.out h21.bel; clear h21 tok2)
            | (go_at_call 10; refine (HD3.out _ T21.out).mono ?_; rintro r w22 ⟨rfl, h22⟩; have T22 := hide h22; clear h22))
          go_roundw
          case rel => exact ⟨j + 1, by first | rfl | simp, HJM.out, hide ⟨_, T22.out⟩⟩
          case measure => have := HJM.out; simp [intOf]; omega
      · have hjm' : ¬ (j : Int) < (m : Int) := by omega
        have L1 := hide HYJ.out.left
        have L2 := hide HYJ.out.rot.left
        have L3 := hide HYJ.out.rot.rot.left
        have HLW := hide (HL.out _ HYJ.out.bel)
        have HBW := hide HYJ.out.bel
        unfold pf at L1 L2 L3
        clear hj hjm HYJ hwrj
        generalize ys.length = yn at *
        have tok1 : True := trivial
        have tok2 : True := trivial
        have tok3 : True := trivial
        go_wp2_with (first
          | (go_at_call 11; have _t := tok1; refine L1.out.mono ?_; rintro r wx ⟨rfl, hwx⟩; have hwy := hwx.symm; subst hwy; clear hwx tok1)
          | (go_at_call 11; have _t := tok2; refine L2.out.mono ?_; rintro r wx ⟨rfl, hwx⟩; have hwy := hwx.symm; subst hwy; clear hwx tok2)
          | (go_at_call 11; have _t := tok3; refine L2.out.mono ?_; rintro r wx ⟨rfl, hwx⟩; have hwy := hwx.symm; subst hwy; clear hwx tok3)
          | (go_at_call 11; refine L3.out.mono ?_; rintro r wx ⟨rfl, hwx⟩; have hwy := hwx.symm; subst hwy; clear hwx)
          | (go_at_call 6; refine HLW.out.mono ?_; rintro r w30 ⟨rfl, h30⟩; have H30 := hide (HBW.out.trans (h30.mono HBW.out.size)); clear h30))
        go_ret
        exact ⟨rfl, H30.out⟩
end Go.Proofs.YtonnnolnkjahgabDoor
