/- The walk of the law DiskAnew. -/
import Derived.Test.YtmdgecjflkkhdabDAnewM
import Derived.Test.YtmdgecjflkkhdabDFiles
import Derived.Test.YtmdgecjflkkhdabDPlay
namespace Go.Proofs.Ytmdgecjflkkhdab
open Go.RowKit Go.Maps

set_option maxHeartbeats 8000000 in
set_option maxRecDepth 100000 in
theorem diskAnew_walk (fao : Option Addr) (fn fc : Nat) (fs : List Fi) (room : Int) (aao : Option Addr) (an ac : Nat) (l : List Ac) (dir : Int) (tao : Option Addr) (tn tc : Nat) (ts : List Int) (dir2 : Int) (tao2 : Option Addr) (tn2 tc2 : Nat) (ts2 : List Int) (w : World) (hf : FSee w fao fs) (hfn : fn = fs.length) (hfl : fn * 40 ≤ 140737488351232) (hfs : ∀ f ∈ fs, f.1.length ≤ maxLen ∧ f.1.length ≤ 281474976710656 ∧ f.2.length ≤ 140737488355328) (hfb : ∀ f ∈ fs, ∀ x ∈ f.2, x < 256) (hr : room ≤ 9223372036854775807)
    (ha : ASee w aao l) (han : an = l.length) (hal : an * 104 ≤ 140737488351232) (hao : ∀ x ∈ l, AOk x) (ht : IRow w tao ts) (htn : tn = ts.length) (htl : tn * 8 ≤ 140737488351232) (ht2 : IRow w tao2 ts2) (htn2 : tn2 = ts2.length) (htl2 : tn2 * 8 ≤ 140737488351232) :
    Calls Try.prog 3 #[.agg #[.slice fao fn fc, .int .i64 room, .slice aao an ac], .agg #[.int .i64 dir, .slice tao tn tc], .agg #[.int .i64 dir2, .slice tao2 tn2 tc2]] w fun e w' => e = .returned (.bool true) ∧ Below w.heap.size w w' := by
  obtain ⟨u1, hu1⟩ : ∃ u1, u1 = w.alloc (.cells #[.slice fao fn fc, .int .i64 room, .slice aao an ac] 25) := ⟨_, rfl⟩
  obtain ⟨u2, hu2⟩ : ∃ u2, u2 = u1.alloc (.cells #[.int .i64 dir, .slice tao tn tc] 28) := ⟨_, rfl⟩
  obtain ⟨u3, hu3⟩ : ∃ u3, u3 = u2.alloc (.cells #[.int .i64 dir2, .slice tao2 tn2 tc2] 28) := ⟨_, rfl⟩
  have hs1 : u1.heap.size = w.heap.size + 1 := by rw [hu1]; simp
  have hs2 : u2.heap.size = w.heap.size + 1 + 1 := by rw [hu2]; simp; omega
  have hb1 : Below w.heap.size w u1 := by rw [hu1]; exact below_new w _
  have hb2 : Below u1.heap.size u1 u2 := by rw [hu2]; exact below_new u1 _
  have hb3 : Below u2.heap.size u2 u3 := by rw [hu3]; exact below_new u2 _
  have hbw : Below w.heap.size w u3 := (hb1.trans (hb2.mono (by omega))).trans (hb3.mono (by omega))
  have hB1 : Bl u3 w.heap.size [.slice fao fn fc, .int .i64 room, .slice aao an ac] 25 := by have := Bl.new w #[.slice fao fn fc, .int .i64 room, .slice aao an ac] 25; rw [← hu1] at this; exact (this.keep hb2).keep hb3
  have hB2 : Bl u3 (w.heap.size + 1) [.int .i64 dir, .slice tao tn tc] 28 := by have := Bl.new u1 #[.int .i64 dir, .slice tao tn tc] 28; rw [← hu2, hs1] at this; exact this.keep hb3
  have hB3 : Bl u3 (w.heap.size + 1 + 1) [.int .i64 dir2, .slice tao2 tn2 tc2] 28 := by have := Bl.new u2 #[.int .i64 dir2, .slice tao2 tn2 tc2] 28; rw [← hu3, hs2] at this; exact this
  have HPL := hide (play_any fao fn fc fs room aao an ac l u3 (hf.keep hbw) hfn hfl hfs hfb hr (ha.keep hbw) han (by omega) hao)
  have HT := hide ht
  have HTN := hide htn
  have HTL := hide htl
  have HT2 := hide ht2
  have HTN2 := hide htn2
  have HTL2 := hide htl2
  have HBW := hide hbw
  have HB1 := hide hB1
  have HB2 := hide hB2
  have HB3 := hide hB3
  have HU1 := hide hu1
  have HU2 := hide hu2
  have HU3 := hide hu3
  clear hf hfn hfl hfs hfb hr ha han hal hao ht htn htl ht2 htn2 htl2 hu1 hu2 hu3 hs1 hs2 hb1 hb2 hb3 hbw hB1 hB2 hB3
  go_enter Try.func3, Try.ntmps3
  go_upto_region 1 with fail
  rw [← HU1.out, ← HU2.out, ← HU3.out]
  clear HU1 HU2 HU3
  obtain ⟨N, hN⟩ : ∃ N, N = w.heap.size := ⟨_, rfl⟩
  rw [← hN] at HB1 HB2 HB3 ⊢
  have HN := hide hN
  clear hN
  have q0 : u3.cell? ⟨N, 0, none⟩ = some (.slice fao fn fc) := HB1.out.cell 0
  have q1 : u3.cell? ⟨N, 1, none⟩ = some (.int .i64 room) := HB1.out.cell 1
  have q2 : u3.cell? ⟨N, 2, none⟩ = some (.slice aao an ac) := HB1.out.cell 2
  by_cases h0 : newErr fs room = 0
  · have HP2 : Hid (Calls Try.prog 6 #[.agg #[.slice fao fn fc, .int .i64 room, .slice aao an ac]] u3 fun e w' => ∃ dp S, e = .returned (.pointer (some ⟨dp, 0, none⟩)) ∧ Dsk u3 w' dp S) := HPL.out.mono fun e w' ⟨_, hp⟩ => by
      unfold PlayPost at hp
      rw [if_pos h0] at hp
      obtain ⟨⟨dp, he, hd⟩, _⟩ := hp
      exact ⟨dp, _, he, hd⟩
    clear HPL h0
    go_upto_region 6 with (first | (go_at_call 6; refine HP2.out.mono ?_; rintro e w3 ⟨dp, S, rfl, hd3⟩; have HD3 := hide hd3; have HLV := hide (live_true w3); clear hd3 HP2) | (go_at_call 7; refine HLV.out.mono ?_; rintro e w4 ⟨rfl, hb4⟩; have HB4 := hide hb4; have HD4 := hide (HD3.out.below hb4); clear hb4 HLV) | fail)
    clear q0 q1 q2 HB1 HB4 HD3
    have HBK := hide (HB2.out.keep HD4.out.bel)
    have b0 : w4.cell? ⟨N + 1, 0, none⟩ = some (.int .i64 dir) := HBK.out.cell 0
    have b1 : w4.cell? ⟨N + 1, 1, none⟩ = some (.slice tao tn tc) := HBK.out.cell 1
    have HCR := hide (crash_any dir tao tn tc ts w4 ((HT.out.keep HBW.out).keep HD4.out.bel) HTN.out HTL.out)
    have HTO := hide (told_left HD4.out.ok dir ts)
    have HLS : Hid (∀ W vao m cap, Below w4.heap.size w4 W → IRow W vao ts → m = ts.length → m ≤ 4611686018427387904 → Calls Try.prog 8 #[.pointer (some ⟨dp, 0, none⟩), .agg #[.int .i64 dir, .slice vao m cap]] W fun e w' => ∃ wao wn wcap, e = .returned (.slice wao wn wcap) ∧ FSee w' wao (left S dir ts) ∧ wn = (left S dir ts).length ∧ Below W.heap.size W w') := fun W vao m cap g1 g2 g3 g4 =>
      (left_dsk (HD4.out.below g1) dir vao m cap ts g2 g3 g4).mono fun e w' ⟨a, b, c, h1, ⟨us, h2⟩, h3, _, h4⟩ => ⟨a, b, c, h1, h2.see, h3, h4⟩
    generalize left S dir ts = gs at *
    have HLEN := hide HTO.out.many
    have hn64 : (gs.length : Int) ≤ 64 := by have := HLEN.out; omega
    have HCP : Hid (∀ W ao c, FSee W ao gs → Calls Try.prog 11 #[.slice ao gs.length c] W fun e w' => ∃ vao m cap, e = .returned (.slice vao m cap) ∧ (∃ us, FOwn w' W.heap.size (.slice vao m cap) gs us) ∧ Below W.heap.size W w') := fun W ao c g1 => copied_any ao gs.length c gs W g1 rfl (by have := HLEN.out; omega) (fun f hf => by have := HTO.out.len f hf; omega)
    have HOU : Hid (∀ W ao c, FSee W ao gs → Calls Try.prog 15 #[.slice ao gs.length c] W fun e w' => ∃ vao m cap, e = .returned (.slice vao m cap) ∧ FSee w' vao gs ∧ m = gs.length ∧ Below W.heap.size W w') := fun W ao c g1 => (ours_any ao gs.length c gs W g1 rfl (by have := HLEN.out; omega) (fun f hf => by have := HTO.out.len f hf; omega)).mono fun e w' ⟨a, b, d, h1, ⟨us, h2⟩, h3⟩ => ⟨a, b, d, h1, h2.see, (by obtain ⟨a', c', e'⟩ := ownsRow_slice h2.row; injection e'), h3⟩
    have HNW : Hid (∀ W vao m cap us B, FOwn W B (.slice vao m cap) gs us → Calls Try.prog 10 #[.slice vao m cap, .int .i64 1099511627776] W fun e w' => ∃ dp, e = .returned (.tuple #[.pointer (some ⟨dp, 0, none⟩), .int .i64 0]) ∧ Dsk W w' dp (born gs 1099511627776)) := fun W vao m cap us B hF => by
      have hm : m = gs.length ∧ m ≤ cap := by
        rcases hF.row.2 with ⟨e, e2⟩ | ⟨g, cap', cur, e, _, _, h3, _⟩
        · injection e with _ e3 e4; omega
        · injection e with _ e3 e4; omega
      exact new_dsk vao m cap gs 1099511627776 W hF.see hm.1 hm.2 (fun f hf => by have h1 := HTO.out.len f hf; have h2 := (isNm_ne (HTO.out.name f hf)).2; exact ⟨by unfold maxLen; omega, by omega, by omega⟩) HTO.out.lt (by omega) (told_new HTO.out)
    have HFT : Hid (∀ W a b lc wc n, FSee W a gs → FSee W b gs → n = gs.length → Calls Try.prog 16 #[.slice a n lc, .slice b gs.length wc] W fun e w' => e = .returned (.bool true) ∧ ∃ m, w' = W.drewN m) := fun W a b lc wc n g1 g2 g3 => by
      subst g3
      exact files_true a b gs.length lc wc gs W g1 g2 rfl (by have := HLEN.out; omega)
    have HDU : Hid (∀ w0 W np, Dsk w0 W np (born gs 1099511627776) → Calls Try.prog 17 #[.pointer (some ⟨np, 0, none⟩)] W fun e w' => ∃ vao n cap, e = .returned (.slice vao n cap) ∧ FSee w' vao gs ∧ n = gs.length ∧ Below W.heap.size W w') := fun w0 W np g1 => by
      have := durable_dsk g1
      rw [told_again HTO.out] at this
      exact this.mono fun e w' ⟨a, b, c, h1, ⟨us, h2⟩, h3, _, h4⟩ => ⟨a, b, c, h1, h2.see, h3, h4⟩
    have HLD : Hid (∀ w0 W np vao m cap, Dsk w0 W np (born gs 1099511627776) → IRow W vao ts2 → m = ts2.length → m ≤ 4611686018427387904 → Calls Try.prog 8 #[.pointer (some ⟨np, 0, none⟩), .agg #[.int .i64 dir2, .slice vao m cap]] W fun e w' => ∃ vao n cap, e = .returned (.slice vao n cap) ∧ FSee w' vao gs ∧ n = gs.length ∧ Below W.heap.size W w') := fun w0 W np vao m cap g1 g2 g3 g4 => by
      have := left_dsk g1 dir2 vao m cap ts2 g2 g3 g4
      rw [told_again HTO.out] at this
      exact this.mono fun e w' ⟨a, b, c, h1, ⟨us, h2⟩, h3, _, h4⟩ => ⟨a, b, c, h1, h2.see, h3, h4⟩
    have HLI : Hid (∀ w0 W np, Dsk w0 W np (born gs 1099511627776) → Calls Try.prog 18 #[.pointer (some ⟨np, 0, none⟩)] W fun e w' => ∃ ao cap, e = .returned (.slice ao gs.length cap) ∧ Below W.heap.size W w') := fun w0 W np g1 =>
      (list_dsk g1).mono fun e w' ⟨a, b, c, h1, _, h3, _, _, h4⟩ => ⟨a, c, by rw [h1, h3]; have e9 : (born gs 1099511627776).dead = false := rfl; rw [e9]; simp only [Bool.false_eq_true, if_false, List.length_map, told_len HTO.out], h4⟩
    have HCO : Hid (∀ w0 W np, Dsk w0 W np (born gs 1099511627776) → Calls Try.prog 13 #[.pointer (some ⟨np, 0, none⟩)] W fun e w' => e = .returned (.int .i64 0) ∧ w' = W) := fun w0 W np g1 => count_dsk g1
    have HDE : Hid (∀ w0 W np, Dsk w0 W np (born gs 1099511627776) → Calls Try.prog 14 #[.pointer (some ⟨np, 0, none⟩)] W fun e w' => e = .returned (.bool false) ∧ w' = W) := fun w0 W np g1 => dead_dsk g1
    obtain ⟨n, hn⟩ : ∃ n, n = gs.length := ⟨_, rfl⟩
    rw [← hn] at HLS HCP HOU HFT HDU HLD HLI hn64
    clear hn HLEN HTO
    go_upto_region 8 with (first | (go_at_call 9; refine HCR.out.mono ?_; rintro e w5 ⟨cao, cm, ccap, rfl, hi5, hm5, hb5⟩; have HI5 := hide hi5; have HM5 := hide hm5; have HB5 := hide hb5; have HML : Hid (cm ≤ 4611686018427387904) := (by have h1 := HTL.out; have h2 := HTN.out; show _ ≤ _; omega); clear hi5 hm5 hb5 b0 b1) | (go_at_call 8; refine (HLS.out _ _ _ _ HB5.out HI5.out HM5.out HML.out).mono ?_; rintro e w6 ⟨wao, wn, wcap, rfl, hf6, hn6, hb6⟩; have hq6 := hn6.symm; subst hq6; clear hn6; have HF6 := hide hf6; have HE6 := hide ((HD4.out.below HB5.out).below hb6).bel; clear hf6 hb6 HI5 HM5 HML HB5) | (go_at_call 11; refine (HCP.out _ _ _ HF6.out).mono ?_; rintro e w7 ⟨cvao, cvm, cvcap, rfl, ⟨us7, hf7⟩, hb7⟩; have HF7 := hide hf7; have HL7 := hide (HF6.out.keep hb7); have HE7 := hide (HE6.out.trans (hb7.mono HE6.out.size)); clear hf7 hb7 HF6 HE6) | (go_at_call 10; refine (HNW.out _ _ _ _ _ _ HF7.out).mono ?_; rintro e w8 ⟨np, rfl, hd8⟩; have HD8 := hide hd8; have HL8 := hide (HL7.out.keep hd8.bel); have HE8 := hide (HE7.out.trans (hd8.bel.mono HE7.out.size)); clear hd8 HF7 HL7 HE7) | fail)
    clear HLS HCP HNW HCR HBK HD4 HT HTN HTL
    go_upto_region 11 with (first | (go_at_call 12; refine (num_any _ _).mono ?_; rintro e wx ⟨rfl, hwx⟩; have hwy := hwx.symm; subst hwy; clear hwx) | (go_at_call 13; refine (HCO.out _ _ _ HD8.out).mono ?_; rintro e wx ⟨rfl, hwx⟩; have hwy := hwx.symm; subst hwy; clear hwx) | (go_at_call 14; refine (HDE.out _ _ _ HD8.out).mono ?_; rintro e wx ⟨rfl, hwx⟩; have hwy := hwx.symm; subst hwy; clear hwx) | (go_at_call 15; refine (HOU.out _ _ _ HL8.out).mono ?_; rintro e w9 ⟨oao, om, ocap, rfl, hf9, hm9, hb9⟩; have hq9 := hm9.symm; subst hq9; clear hm9; have HO9 := hide hf9; have HD9 := hide (HD8.out.below hb9); have HE9 := hide (HE8.out.trans (hb9.mono HE8.out.size)); clear hf9 hb9 HL8 HD8 HE8) | fail)
    clear HOU HCO HDE
    go_wp2_with (first | (go_at_call 17; refine (HDU.out _ _ _ HD9.out).mono ?_; rintro e w10 ⟨dao, dn, dcap, rfl, hf10, hn10, hb10⟩; have hq10 := hn10.symm; subst hq10; clear hn10; have HV10 := hide hf10; have HO10 := hide (HO9.out.keep hb10); have HD10 := hide (HD9.out.below hb10); have HE10 := hide (HE9.out.trans (hb10.mono HE9.out.size)); clear hf10 hb10 HO9 HD9 HE9) | (go_at_call 16; have _t := HV10; refine (HFT.out _ _ _ _ _ _ HV10.out HO10.out rfl).mono ?_; rintro e w11 ⟨rfl, m11, hw11⟩; have hb11 : Below w10.heap.size w10 w11 := (by rw [hw11]; exact below_drewN (Below.refl _ _) _); have HO11 := hide (HO10.out.keep hb11); have HD11 := hide (HD10.out.below hb11); have HE11 := hide (HE10.out.trans (hb11.mono HE10.out.size)); have hBK := HB3.out.keep HE11.out; have c0 : w11.cell? ⟨N + 1 + 1, 0, none⟩ = some (.int .i64 dir2) := hBK.cell 0; have c1 : w11.cell? ⟨N + 1 + 1, 1, none⟩ = some (.slice tao2 tn2 tc2) := hBK.cell 1; have HCR2 := hide (crash_any dir2 tao2 tn2 tc2 ts2 w11 ((HT2.out.keep HBW.out).keep HE11.out) HTN2.out HTL2.out); clear hb11 hw11 hBK HV10 HO10 HD10 HE10 _t) | (go_at_call 9; refine HCR2.out.mono ?_; rintro e w12 ⟨cao, cm, ccap, rfl, hi12, hm12, hb12⟩; have HI12 := hide hi12; have HM12 := hide hm12; have HML : Hid (cm ≤ 4611686018427387904) := (by have h1 := HTL2.out; have h2 := HTN2.out; show _ ≤ _; omega); have HO12 := hide (HO11.out.keep hb12); have HD12 := hide (HD11.out.below hb12); have HE12 := hide (HE11.out.trans (hb12.mono HE11.out.size)); clear hi12 hm12 hb12 c0 c1 HO11 HD11 HE11) | (go_at_call 8; refine (HLD.out _ _ _ _ _ _ HD12.out HI12.out HM12.out HML.out).mono ?_; rintro e w13 ⟨dao, dn, dcap, rfl, hf13, hn13, hb13⟩; have hq13 := hn13.symm; subst hq13; clear hn13; have HV13 := hide hf13; have HO13 := hide (HO12.out.keep hb13); have HD13 := hide (HD12.out.below hb13); have HE13 := hide (HE12.out.trans (hb13.mono HE12.out.size)); clear hf13 hb13 HO12 HD12 HE12) | (go_at_call 16; refine (HFT.out _ _ _ _ _ _ HV13.out HO13.out rfl).mono ?_; rintro e w14 ⟨rfl, m14, hw14⟩; have hb14 : Below w13.heap.size w13 w14 := (by rw [hw14]; exact below_drewN (Below.refl _ _) _); have HD14 := hide (HD13.out.below hb14); have HE14 := hide (HE13.out.trans (hb14.mono HE13.out.size)); clear hb14 hw14) | (go_at_call 18; refine (HLI.out _ _ _ HD14.out).mono ?_; rintro e w15 ⟨lao, lcap, rfl, hb15⟩; have HE15 := hide (HE14.out.trans (hb15.mono HE14.out.size)); clear hb15) | fail)
    go_ret
    exact ⟨rfl, HBW.out.trans (HE15.out.mono HBW.out.size)⟩
  · have HP2 : Hid (Calls Try.prog 6 #[.agg #[.slice fao fn fc, .int .i64 room, .slice aao an ac]] u3 fun e w' => e = .returned (.pointer none) ∧ Below u3.heap.size u3 w') := HPL.out.mono fun e w' ⟨_, hp⟩ => by
      unfold PlayPost at hp
      rw [if_neg h0] at hp
      exact hp
    clear HPL h0
    go_wp2_with (first | (go_at_call 6; refine HP2.out.mono ?_; rintro e w3 ⟨rfl, hb3⟩; have HB3' := hide hb3; have HLV := hide (live_true w3); clear hb3 HP2) | (go_at_call 7; refine HLV.out.mono ?_; rintro e w4 ⟨rfl, hb4⟩; have HB4 := hide hb4; clear hb4 HLV) | fail)
    go_ret
    exact ⟨rfl, (HBW.out.trans (HB3'.out.mono HBW.out.size)).trans (HB4.out.mono (Nat.le_trans HBW.out.size HB3'.out.size))⟩
end Go.Proofs.Ytmdgecjflkkhdab
