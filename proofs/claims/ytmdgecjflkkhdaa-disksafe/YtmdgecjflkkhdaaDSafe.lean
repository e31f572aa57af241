/- The walk of the law DiskSafe. -/
import Derived.Test.YtmdgecjflkkhdaaDSafeM
import Derived.Test.YtmdgecjflkkhdaaDGuard
import Derived.Deep.QuietTactic
import Derived.BigQuiet
namespace Go.Proofs.Ytmdgecjflkkhdaa
open Go.RowKit Go.Maps

set_option maxHeartbeats 8000000 in
set_option maxRecDepth 100000 in
theorem diskSafe_walk (fao : Option Addr) (fn fc : Nat) (fs : List Fi) (room : Int) (aao : Option Addr) (an ac : Nat) (l : List Ac) (dir : Int) (tao : Option Addr) (tn tc : Nat) (ts : List Int) (w : World) (hf : FSee w fao fs) (hfn : fn = fs.length) (hfl : fn * 40 ≤ 140737488351232) (hfs : ∀ f ∈ fs, f.1.length ≤ maxLen ∧ f.1.length ≤ 281474976710656 ∧ f.2.length ≤ 140737488355328) (hfb : ∀ f ∈ fs, ∀ x ∈ f.2, x < 256) (hr : room ≤ 9223372036854775807)
    (ha : ASee w aao l) (han : an = l.length) (hal : an * 104 ≤ 140737488351232) (hao : ∀ x ∈ l, AOk x) (ht : IRow w tao ts) (htn : tn = ts.length) (htl : tn * 8 ≤ 140737488351232) :
    Calls Try.prog 7 #[.agg #[.slice fao fn fc, .int .i64 room, .slice aao an ac], .agg #[.int .i64 dir, .slice tao tn tc]] w fun e w' => e = .returned (.bool true) ∧ Below w.heap.size w w' := by
  obtain ⟨u1, hu1⟩ : ∃ u1, u1 = w.alloc (.cells #[.slice fao fn fc, .int .i64 room, .slice aao an ac] 28) := ⟨_, rfl⟩
  obtain ⟨u2, hu2⟩ : ∃ u2, u2 = u1.alloc (.cells #[.int .i64 dir, .slice tao tn tc] 39) := ⟨_, rfl⟩
  have hs1 : u1.heap.size = w.heap.size + 1 := by rw [hu1]; simp
  have hs2 : u2.heap.size = w.heap.size + 2 := by rw [hu2]; simp; omega
  have hb1 : Below w.heap.size w u1 := by rw [hu1]; exact below_new w _
  have hb2 : Below u1.heap.size u1 u2 := by rw [hu2]; exact below_new u1 _
  have hbw : Below w.heap.size w u2 := hb1.trans (hb2.mono (by omega))
  have hB1 : Bl u2 w.heap.size [.slice fao fn fc, .int .i64 room, .slice aao an ac] 28 := by have := Bl.new w #[.slice fao fn fc, .int .i64 room, .slice aao an ac] 28; rw [← hu1] at this; exact this.keep hb2
  have hB2 : Bl u2 (w.heap.size + 1) [.int .i64 dir, .slice tao tn tc] 39 := by have := Bl.new u1 #[.int .i64 dir, .slice tao tn tc] 39; rw [← hu2, hs1] at this; exact this
  have HPL := hide (play_any fao fn fc fs room aao an ac l u2 (hf.keep hbw) hfn hfl hfs hfb hr (ha.keep hbw) han (by omega) hao)
  have HT := hide ht
  have HTN := hide htn
  have HTL := hide htl
  have HFA : Hid ((fn + an) * 8 ≤ 140737488355328) := by show _ ≤ _; omega
  have HFI : Hid (fn + an ≤ 4611686018427387904) := by show _ ≤ _; omega
  have HFN := hide hfn
  have HAN := hide han
  have HS2 := hide hs2
  have HBW := hide hbw
  have HB1 := hide hB1
  have HB2 := hide hB2
  have HU1 := hide hu1
  have HU2 := hide hu2
  clear hf hfn hfl hfs hfb hr ha han hal hao ht htn htl hu1 hu2 hs1 hs2 hb1 hb2 hbw hB1 hB2
  go_enter Try.func7, Try.ntmps7
  go_upto_region 1 with fail
  rw [← HU1.out, ← HU2.out]
  clear HU1 HU2
  obtain ⟨N, hN⟩ : ∃ N, N = w.heap.size := ⟨_, rfl⟩
  rw [← hN] at HB1 HB2 HS2 ⊢
  have HN := hide hN
  clear hN
  have q0 : u2.cell? ⟨N, 0, none⟩ = some (.slice fao fn fc) := HB1.out.cell 0
  have q1 : u2.cell? ⟨N, 1, none⟩ = some (.int .i64 room) := HB1.out.cell 1
  have q2 : u2.cell? ⟨N, 2, none⟩ = some (.slice aao an ac) := HB1.out.cell 2
  by_cases h0 : newErr fs room = 0
  · have HP2 : Hid (Calls Try.prog 15 #[.agg #[.slice fao fn fc, .int .i64 room, .slice aao an ac]] u2 fun e w' => ∃ dp S, e = .returned (.pointer (some ⟨dp, 0, none⟩)) ∧ Dsk u2 w' dp S) := HPL.out.mono fun e w' ⟨_, hp⟩ => by
      unfold PlayPost at hp
      rw [if_pos h0] at hp
      obtain ⟨⟨dp, he, hd⟩, _⟩ := hp
      exact ⟨dp, _, he, hd⟩
    clear HPL h0
    go_upto_region 4 with (first | (go_at_call 15; refine HP2.out.mono ?_; rintro e w3 ⟨dp, S, rfl, hd3⟩; have HD3 := hide hd3; have HLV := hide (live_true w3); clear hd3 HP2) | (go_at_call 10; refine HLV.out.mono ?_; rintro e w4 ⟨rfl, hb4⟩; have HB4 := hide hb4; have HD4 := hide (HD3.out.below hb4); clear hb4 HLV) | fail)
    have HDE := hide (dead_dsk HD4.out)
    unfold pf at HDE
    clear q0 q1 q2 HB1
    cases hdd : S.dead with
    | true =>
      rw [hdd] at HDE
      clear hdd
      go_wp2_with (first | (go_at_call 16; refine HDE.out.mono ?_; rintro e wx ⟨rfl, hwx⟩; have hwy := hwx.symm; subst hwy; clear hwx) | fail)
      go_ret
      exact ⟨rfl, HBW.out.trans (HD4.out.bel.mono HBW.out.size)⟩
    | false =>
      rw [hdd] at HDE
      have HSB := hide (syn_begin hdd)
      have HAR := hide (arm_dsk HD4.out 0 (by omega))
      unfold pf at HAR
      obtain ⟨n, hn⟩ : ∃ n, n = S.dir.length := ⟨_, rfl⟩
      have HNN := hide hn
      have HLI : Hid (∀ W, Dsk u2 W dp (arm S 0) → Calls Try.prog 18 #[.pointer (some ⟨dp, 0, none⟩)] W fun e w' => ∃ lao ln lcap, e = .returned (.slice lao ln lcap) ∧ TOwn w' (.slice lao ln lcap) (S.dir.map (·.1)) ∧ ln = n ∧ (∀ g, (Value.slice lao ln lcap).ownBlock = some g → W.heap.size ≤ g) ∧ Dsk u2 w' dp (arm S 0) ∧ Below W.heap.size W w') := fun W g1 => by
        have := list_dsk g1
        rw [HSB.out.dead, HSB.out.dir] at this
        exact this.mono fun e w' ⟨a, b, c, h1, h2, h3, h4, h5, h6⟩ => ⟨a, b, c, h1, h2, by rw [h3, hn]; simp, h4, h5, h6⟩
      have HOK := hide HD4.out.ok
      obtain ⟨q, hq⟩ : ∃ q, q = S.ops := ⟨_, rfl⟩
      have HQ := hide hq
      have HCO : Hid (∀ W, Dsk u2 W dp (arm S 0) → Calls Try.prog 19 #[.pointer (some ⟨dp, 0, none⟩)] W fun e w' => e = .returned (.int .i64 (q : Int)) ∧ w' = W) := fun W g1 => by
        have := count_dsk g1
        rw [HSB.out.ops, Nat.add_zero, ← hq] at this
        exact this
      have hnb : (n : Int) ≤ 64 := by have := HOK.out.dir.len; omega
      have hqb : (q : Int) ≤ 1048576 := by have := HOK.out.ops; omega
      clear hdd HB4 HD3 hn hq
      go_upto_region 8 with (first | (go_at_call 16; refine HDE.out.mono ?_; rintro e wx ⟨rfl, hwx⟩; have hwy := hwx.symm; subst hwy; clear hwx) | (go_at_call 17; refine HAR.out.mono ?_; rintro e w5 ⟨rfl, hd5⟩; have HD5 := hide hd5; clear hd5) | (go_at_call 18; refine (HLI.out _ HD5.out).mono ?_; rintro e w7 ⟨lao, ln, lcap, rfl, ht7, hn7, hg7, hd7, hb7⟩; have hq7 := hn7.symm; subst hq7; clear hn7; have HT7 := hide ht7; have HG7 := hide hg7; have HD7 := hide hd7; have HDG := hide (HD5.out.guard hb7); clear ht7 hg7 hd7 hb7) | fail)
      clear HDE HAR HLI HD4
      by_cases hov : (1048576 : Int) < (q : Int) + (n : Int) + 1
      · go_wp2_with (first | (go_at_call 19; refine (HCO.out _ HD7.out).mono ?_; rintro e wx ⟨rfl, hwx⟩; have hwy := hwx.symm; subst hwy; clear hwx) | fail)
        go_ret
        exact ⟨rfl, HBW.out.trans (HD7.out.bel.mono HBW.out.size)⟩
      · have HLT : Hid (S.ops + n < 1048576) := by have := HQ.out; show _ < _; omega
        have hd : decide ((1048576 : Int) < (q : Int) + (n : Int) + 1) = false := decide_eq_false hov
        clear hov
        go_wp2_with (first | (go_at_call 19; refine (HCO.out _ HD7.out).mono ?_; rintro e wx ⟨rfl, hwx⟩; have hwy := hwx.symm; subst hwy; clear hwx) | fail)
        clear HCO hd hqb
        obtain ⟨G, hG⟩ : ∃ G : Nat → Prop, G = fun g => w5.heap.size ≤ g ∧ g < w7.heap.size := ⟨_, rfl⟩
        rw [← hG] at HDG
        have HGO : Hid (∀ g, (Value.slice lao n lcap).ownBlock = some g → G g) := fun g hg => by rw [hG]; exact ⟨HG7.out g hg, (World.ownsRow.lt HT7.out g hg).2⟩
        clear hG HG7 HD5 HD7
        go_loopw [7] (fun i wr => ∃ (k : Nat) (T : DS), k ≤ n ∧ i = .int .i64 (k : Int) ∧ Hid (DskG G u2 wr dp T) ∧ Hid (Syn S T k) ∧ Hid (TOwn wr (.slice lao n lcap) (S.dir.map (·.1)))) (fun i _ => n - (intOf i).toNat)
        case atStart => exact ⟨0, _, Nat.zero_le _, rfl, HDG, HSB, HT7⟩
        case round =>
          obtain ⟨k, T, hk, rfl, HDK, HSK, HTK⟩ := hrel
          clear HDG HSB HT7
          by_cases hlt : k < n
          · obtain ⟨p, hp⟩ : ∃ p, S.dir[k]? = some p := ⟨_, List.getElem?_eq_getElem (by rw [← HNN.out]; exact hlt)⟩
            obtain ⟨lg, hlg, t1, t2⟩ := HTK.out.at' (i := k) (x := p.1) (by rw [List.getElem?_map, hp]; rfl)
            have hst := syn_step HSK.out HDK.out.ok (by have := HLT.out; omega) hp
            have HSY : Hid (Calls Try.prog 20 #[.pointer (some ⟨dp, 0, none⟩), .string (str p.1)] wr fun e w' => e = .returned (.int .i64 0) ∧ DskG G u2 w' dp (sync T p.1).2 ∧ TOwn w' (.slice lao n lcap) (S.dir.map (·.1))) := by
              have hnm := HOK.out.dir.name p (List.mem_of_getElem? hp)
              have h1 := sync_g HDK.out p.1 (by have h2 := (isNm_ne hnm).2; unfold maxLen; omega)
              rw [hst.1] at h1
              exact h1.mono fun e w' ⟨he, hd, hh⟩ => ⟨he, hd, hh.own HTK.out HGO.out⟩
            subst hlg
            have HST := hide hst.2
            generalize (sync T p.1).2 = T2 at *
            generalize str p.1 = s at *
            clear hst hp
            have hki : (k : Int) < (n : Int) := by omega
            have hkb : (k : Int) + 1 ≤ 4611686018427387904 := by omega
            go_wp2_with (first | (go_at_call 20; refine HSY.out.mono ?_; rintro e w8 ⟨rfl, hd8, ht8⟩; have HD8 := hide hd8; have HT8 := hide ht8; clear hd8 ht8) | (go_at_call 9; refine (num_any _ _).mono ?_; rintro e wx ⟨rfl, hwx⟩; have hwy := hwx.symm; subst hwy; clear hwx) | fail)
            go_roundw
            case rel => exact ⟨k + 1, T2, by omega, by simp, HD8, HST, HT8⟩
            case measure => simp [intOf]; omega
          · obtain rfl : k = n := by omega
            obtain ⟨s1, s2, s3, s4⟩ := syn_end HSK.out HNN.out HLT.out
            have HSD : Hid (Calls Try.prog 21 #[.pointer (some ⟨dp, 0, none⟩)] wr fun e w' => e = .returned (.int .i64 0) ∧ Dsk u2 w' dp (syncDir T).2 ∧ TOwn w' (.slice lao k lcap) (S.dir.map (·.1))) := by
              have h1 := syncDir_g HDK.out
              rw [s1] at h1
              exact h1.mono fun e w' ⟨he, hd, hh⟩ => ⟨he, hd.dsk, hh.own HTK.out HGO.out⟩
            generalize (syncDir T).2 = U at *
            have HS2' := hide s2
            have HS3 := hide s3
            have HS4 := hide s4
            clear s1 s2 s3 s4 HDK HSK HTK hlt
            go_upto_region 17 with (first | (go_at_call 21; refine HSD.out.mono ?_; rintro e w8 ⟨rfl, hd8, ht8⟩; have HD8 := hide hd8; have HT8 := hide ht8; clear hd8 ht8) | (go_at_call 9; refine (num_any _ _).mono ?_; rintro e wx ⟨rfl, hwx⟩; have hwy := hwx.symm; subst hwy; clear hwx) | fail)
            have HBK := hide (HB2.out.keep HD8.out.bel)
            have b0 : w8.cell? ⟨N + 1, 0, none⟩ = some (.int .i64 dir) := HBK.out.cell 0
            have b1 : w8.cell? ⟨N + 1, 1, none⟩ = some (.slice tao tn tc) := HBK.out.cell 1
            have HCR := hide (crash_any dir tao tn tc ts w8 ((HT.out.keep HBW.out).keep HD8.out.bel) HTN.out HTL.out)
            have HLS : Hid (∀ W vao m cap us, Below w8.heap.size w8 W → IRow W vao us → m = us.length → m ≤ 4611686018427387904 → Calls Try.prog 22 #[.pointer (some ⟨dp, 0, none⟩), .agg #[.int .i64 dir, .slice vao m cap]] W fun e w' => ∃ wao wn wcap, e = .returned (.slice wao wn wcap) ∧ (∃ vs, FOwn w' W.heap.size (.slice wao wn wcap) (whole U) vs) ∧ wn = k ∧ Below W.heap.size W w') := fun W vao m cap us g1 g2 g3 g4 => by
              have := left_dsk (HD8.out.below g1) dir vao m cap us g2 g3 g4
              rw [HS4.out] at this
              exact this.mono fun e w' ⟨a, b, c, h1, h2, h3, _, h4⟩ => ⟨a, b, c, h1, h2, by rw [h3, HNN.out, ← HS3.out]; simp [whole], h4⟩
            clear HSD HGO
            go_wp2_with (first | (go_at_call 23; refine HCR.out.mono ?_; rintro e w9 ⟨cao, cm, ccap, rfl, hi9, hm9, hb9⟩; have HI9 := hide hi9; have HM9 := hide hm9; have HB9 := hide hb9; have HML : Hid (cm ≤ 4611686018427387904) := (by have h1 := HTL.out; have h2 := HTN.out; show _ ≤ _; omega); clear hi9 hm9 hb9 b0 b1) | (go_at_call 22; refine (HLS.out _ _ _ _ _ HB9.out HI9.out HM9.out HML.out).mono ?_; rintro e w10 ⟨wao, wn, wcap, rfl, ⟨vs, hf10⟩, hn10, hb10⟩; have hq10 := hn10.symm; subst hq10; clear hn10; have HF10 := hide hf10; have HB10 := hide (HB9.out.trans (hb10.mono HB9.out.size)); clear hf10 hb10 HI9 HM9) | fail)
            have HT10 := hide (HT8.out.keep HB10.out)
            have HD10 := hide (HD8.out.below HB10.out)
            clear HCR HLS HB9 HB10 HT8 HD8 HML HBK
            go_loopw [9] (fun i wr => ∃ j : Nat, j ≤ k ∧ i = .int .i64 (j : Int) ∧ Hid (Below w10.heap.size w10 wr)) (fun i _ => k - (intOf i).toNat)
            case atStart => exact ⟨0, Nat.zero_le _, rfl, Below.refl _ _⟩
            case round =>
              obtain ⟨j, hj, rfl, HBJ⟩ := hrel
              by_cases hlt : j < k
              · obtain ⟨p, hp⟩ : ∃ p, S.dir[j]? = some p := ⟨_, List.getElem?_eq_getElem (by rw [← HNN.out]; exact hlt)⟩
                obtain ⟨lg, rfl, t1, t2⟩ := (HT10.out.keep HBJ.out).at' (i := j) (x := p.1) (by rw [List.getElem?_map, hp]; rfl)
                obtain ⟨wg, bao, bc, rfl, y1, y2, y3, _, _, y6⟩ := (HF10.out.keep HBJ.out).at (i := j) (x := (p.1, (flAt U.files p.2).bys)) (by unfold whole; rw [List.getElem?_map, HS3.out, hp]; rfl)
                have HRD := hide (read_dsk (HD10.out.below HBJ.out) p.1 (by have := HOK.out.dir.name p (List.mem_of_getElem? hp); have h2 := (isNm_ne this).2; unfold maxLen; omega) HS2'.out (dget_of HD10.out.ok.dir.rising (i := p.2) (by rw [HS3.out]; exact List.mem_of_getElem? hp)))
                unfold pf at HRD
                simp only at y1 y2 y3
                generalize (flAt U.files p.2).bys = bys at *
                generalize str p.1 = s at *
                obtain ⟨bl, hbl⟩ : ∃ bl, bl = bys.length := ⟨_, rfl⟩
                have hcv : ∀ (W : World) ao c, Row W ao bys → ∀ n, (convert 36 9 (.slice ao bl c)).run Try.prog (W.drewN n) = .ok (.string (bstr bys)) (W.drewN n) := fun W ao c h n => by rw [hbl]; exact conv_row c (h.drewN n)
                have HCV := hide hcv
                rw [← hbl] at y2 HRD
                have HY3 := hide y3
                generalize bstr bys = bs at *
                clear hp hbl hcv y3
                have hki : (j : Int) < (k : Int) := by omega
                have hkb : (j : Int) + 1 ≤ 4611686018427387904 := by omega
                go_upto_region 24 with (first | (go_at_call 24; refine HRD.out.mono ?_; rintro e w11 ⟨rao, rn, rcap, rfl, hr8, hn8, hg8, hd8, hb8⟩; have hq8 := hn8.symm; subst hq8; clear hn8; have z1 := cell_kept t1 hb8; have z2 := cell_kept y1 hb8; have z3 := cell_kept y2 hb8; have cv1 := HCV.out w11 rao rcap hr8; have cv2 := HCV.out w11 bao bc (HY3.out.keep hb8); have HB11 := hide (HBJ.out.trans (hb8.mono HBJ.out.size)); clear hr8 hg8 hd8 hb8 t1 y1 y2) | fail)
                clear HRD HCV HY3
                go_quiet ((go_at_call 9; exact Calls.quiet_of_same (num_any _ _)))
                go_wp2_with fail
                go_roundw
                case rel => exact ⟨j + 1, by omega, by simp, below_drewN HB11.out _⟩
                case measure => simp [intOf]; omega
              · obtain rfl : j = k := by omega
                go_wp2_with fail
                go_ret
                exact ⟨rfl, (HBW.out.trans (HD10.out.bel.mono HBW.out.size)).trans (HBJ.out.mono (Nat.le_trans HBW.out.size HD10.out.bel.size))⟩
  · have HP2 : Hid (Calls Try.prog 15 #[.agg #[.slice fao fn fc, .int .i64 room, .slice aao an ac]] u2 fun e w' => e = .returned (.pointer none) ∧ Below u2.heap.size u2 w') := HPL.out.mono fun e w' ⟨_, hp⟩ => by
      unfold PlayPost at hp
      rw [if_neg h0] at hp
      exact hp
    clear HPL h0
    go_wp2_with (first | (go_at_call 15; refine HP2.out.mono ?_; rintro e w3 ⟨rfl, hb3⟩; have HB3 := hide hb3; have HLV := hide (live_true w3); clear hb3 HP2) | (go_at_call 10; refine HLV.out.mono ?_; rintro e w4 ⟨rfl, hb4⟩; have HB4 := hide hb4; clear hb4 HLV) | fail)
    go_ret
    exact ⟨rfl, (HBW.out.trans (HB3.out.mono HBW.out.size)).trans (HB4.out.mono (Nat.le_trans HBW.out.size HB3.out.size))⟩
end Go.Proofs.Ytmdgecjflkkhdaa
