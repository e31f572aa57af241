/- The walk of the law DiskTails. -/
import Derived.Test.YtmdgecjflkkhdaaDTailM
import Derived.Deep.QuietTactic
import Derived.BigQuiet
namespace Go.Proofs.Ytmdgecjflkkhdaa
open Go.RowKit Go.Maps

set_option maxHeartbeats 8000000 in
set_option maxRecDepth 100000 in
theorem diskTails_walk (fao : Option Addr) (fn fc : Nat) (fs : List Fi) (room : Int) (aao : Option Addr) (an ac : Nat) (l : List Ac) (dir : Int) (tao : Option Addr) (tn tc : Nat) (ts : List Int) (w : World) (hf : FSee w fao fs) (hfn : fn = fs.length) (hfl : fn * 40 ≤ 140737488351232) (hfs : ∀ f ∈ fs, f.1.length ≤ maxLen ∧ f.1.length ≤ 281474976710656 ∧ f.2.length ≤ 140737488355328) (hfb : ∀ f ∈ fs, ∀ x ∈ f.2, x < 256) (hr : room ≤ 9223372036854775807)
    (ha : ASee w aao l) (han : an = l.length) (hal : an * 104 ≤ 140737488351232) (hao : ∀ x ∈ l, AOk x) (ht : IRow w tao ts) (htn : tn = ts.length) (htl : tn * 8 ≤ 140737488351232) :
    Calls Try.prog 8 #[.agg #[.slice fao fn fc, .int .i64 room, .slice aao an ac], .agg #[.int .i64 dir, .slice tao tn tc]] w fun e w' => e = .returned (.bool true) ∧ Below w.heap.size w w' := by
  obtain ⟨u1, hu1⟩ : ∃ u1, u1 = w.alloc (.cells #[.slice fao fn fc, .int .i64 room, .slice aao an ac] 28) := ⟨_, rfl⟩
  obtain ⟨u2, hu2⟩ : ∃ u2, u2 = u1.alloc (.cells #[.int .i64 dir, .slice tao tn tc] 39) := ⟨_, rfl⟩
  have hs1 : u1.heap.size = w.heap.size + 1 := by rw [hu1]; simp
  have hs2 : u2.heap.size = w.heap.size + 2 := by rw [hu2]; simp; omega
  have hb1 : Below w.heap.size w u1 := by rw [hu1]; exact below_new w _
  have hb2 : Below u1.heap.size u1 u2 := by rw [hu2]; exact below_new u1 _
  have hbw : Below w.heap.size w u2 := hb1.trans (hb2.mono (by omega))
  have hB1 : Bl u2 w.heap.size [.slice fao fn fc, .int .i64 room, .slice aao an ac] 28 := by have := Bl.new w #[.slice fao fn fc, .int .i64 room, .slice aao an ac] 28; rw [← hu1] at this; exact this.keep hb2
  have hB2 : Bl u2 (w.heap.size + 1) [.int .i64 dir, .slice tao tn tc] 39 := by have := Bl.new u1 #[.int .i64 dir, .slice tao tn tc] 39; rw [← hu2, hs1] at this; exact this
  have HPL := hide (play_any fao fn fc fs room aao an ac l u2 (hf.keep hbw) hfn hfl hfs hfb hr (ha.keep hbw) han (by omega) hao)
  have HT := hide ht
  have HTN := hide htn
  have HTL := hide htl
  have HFA : Hid ((fn + an) * 8 ≤ 140737488355328) := by show _ ≤ _; omega
  have HFI : Hid (fn + an ≤ 4611686018427387904) := by show _ ≤ _; omega
  have HFN := hide hfn
  have HAN := hide han
  have HS2 := hide hs2
  have HBW := hide hbw
  have HB1 := hide hB1
  have HB2 := hide hB2
  have hfan : (fn : Int) + (an : Int) ≤ 4611686018427387904 := by omega
  have HU1 := hide hu1
  have HU2 := hide hu2
  clear hf hfn hfl hfs hfb hr ha han hal hao ht htn htl hu1 hu2 hs1 hs2 hb1 hb2 hbw hB1 hB2
  go_enter Try.func8, Try.ntmps8
  go_upto_region 1 with fail
  rw [← HU1.out, ← HU2.out]
  clear HU1 HU2
  obtain ⟨N, hN⟩ : ∃ N, N = w.heap.size := ⟨_, rfl⟩
  rw [← hN] at HB1 HB2 HS2 ⊢
  have HN := hide hN
  clear hN
  have q0 : u2.cell? ⟨N, 0, none⟩ = some (.slice fao fn fc) := HB1.out.cell 0
  have q1 : u2.cell? ⟨N, 1, none⟩ = some (.int .i64 room) := HB1.out.cell 1
  have q2 : u2.cell? ⟨N, 2, none⟩ = some (.slice aao an ac) := HB1.out.cell 2
  by_cases h0 : newErr fs room = 0
  · have HP2 : Hid (Calls Try.prog 15 #[.agg #[.slice fao fn fc, .int .i64 room, .slice aao an ac]] u2 fun e w' => ∃ dp S, e = .returned (.pointer (some ⟨dp, 0, none⟩)) ∧ Dsk u2 w' dp S ∧ S.files.length ≤ fn + an) := HPL.out.mono fun e w' ⟨_, hp⟩ => by
      unfold PlayPost at hp
      rw [if_pos h0] at hp
      obtain ⟨⟨dp, he, hd⟩, _⟩ := hp
      refine ⟨dp, _, he, hd, ?_⟩
      have := acts_files l (born fs room.toNat)
      have e1 : (born fs room.toNat).files.length = fs.length := by simp [born]
      have e2 := HFN.out
      have e3 := HAN.out
      omega
    clear HPL h0
    go_upto_region 4 with (first | (go_at_call 15; refine HP2.out.mono ?_; rintro e w3 ⟨dp, S, rfl, hd3, hfl3⟩; have HD3 := hide hd3; have HFL := hide hfl3; have HLV := hide (live_true w3); clear hd3 hfl3 HP2) | (go_at_call 10; refine HLV.out.mono ?_; rintro e w4 ⟨rfl, hb4⟩; have HB4 := hide hb4; have HD4 := hide (HD3.out.below hb4); clear hb4 HLV) | fail)
    have HDE := hide (dead_dsk HD4.out)
    unfold pf at HDE
    cases hdd : S.dead with
    | true =>
      rw [hdd] at HDE
      clear hdd
      go_wp2_with (first | (go_at_call 16; refine HDE.out.mono ?_; rintro e wx ⟨rfl, hwx⟩; have hwy := hwx.symm; subst hwy; clear hwx) | fail)
      go_ret
      exact ⟨rfl, HBW.out.trans (HD4.out.bel.mono HBW.out.size)⟩
    | false =>
      rw [hdd] at HDE
      have HDD := hide hdd
      clear hdd HB4 HD3
      have r0 := cell_kept q0 HD4.out.bel
      have r2 := cell_kept q2 HD4.out.bel
      clear q0 q1 q2
      have HF := hide (full_any (fn + an) w4 HFA.out)
      rw [Int.natCast_add] at HF
      have HOK := hide HD4.out.ok
      have HLF : Hid (∀ W vao m cap, Below w4.heap.size w4 W → IRow W vao (List.replicate (fn + an) 1099511627776) → m = fn + an → Calls Try.prog 22 #[.pointer (some ⟨dp, 0, none⟩), .agg #[.int .i64 1099511627776, .slice vao m cap]] W fun e w' => ∃ wao wn wcap, e = .returned (.slice wao wn wcap) ∧ (∃ us, FOwn w' W.heap.size (.slice wao wn wcap) (whole S) us) ∧ wn = S.dir.length ∧ Below W.heap.size W w') := fun W vao m cap g1 g2 g3 => by
        have := left_dsk (HD4.out.below g1) 1099511627776 vao m cap (List.replicate (fn + an) 1099511627776) g2 (by rw [List.length_replicate]; exact g3) (by rw [g3]; exact HFI.out)
        rw [left_whole HOK.out HFL.out] at this
        exact this.mono fun e w' ⟨a, b, c, h1, h2, h3, _, h4⟩ => ⟨a, b, c, h1, h2, by rw [h3]; simp [whole], h4⟩
      have HLI : Hid (∀ W, Below w4.heap.size w4 W → Calls Try.prog 18 #[.pointer (some ⟨dp, 0, none⟩)] W fun e w' => ∃ lao ln lcap, e = .returned (.slice lao ln lcap) ∧ TOwn w' (.slice lao ln lcap) (S.dir.map (·.1)) ∧ ln = S.dir.length ∧ (∀ g, (Value.slice lao ln lcap).ownBlock = some g → W.heap.size ≤ g) ∧ Below W.heap.size W w') := fun W g1 => by
        have := list_dsk (HD4.out.below g1)
        rw [HDD.out] at this
        exact this.mono fun e w' ⟨a, b, c, h1, h2, h3, h4, _, h5⟩ => ⟨a, b, c, h1, h2, by rw [h3]; simp, h4, h5⟩
      obtain ⟨n, hn⟩ : ∃ n, n = S.dir.length := ⟨_, rfl⟩
      rw [← hn] at HLF HLI
      have HNN := hide hn
      have hnb : (n : Int) ≤ 64 := by have := HOK.out.dir.len; omega
      clear hn
      go_wp2_with (first | (go_at_call 16; refine HDE.out.mono ?_; rintro e wx ⟨rfl, hwx⟩; have hwy := hwx.symm; subst hwy; clear hwx) | (go_at_call 25; refine HF.out.mono ?_; rintro e w5 ⟨vao, m, ⟨cap, rfl⟩, hi5, hm5, hb5⟩; have HI5 := hide hi5; have HM5 := hide hm5; have HB5 := hide hb5; clear hi5 hm5 hb5 r0 r2) | (go_at_call 22; refine (HLF.out _ _ _ _ HB5.out HI5.out HM5.out).mono ?_; rintro e w6 ⟨wao, wn, wcap, rfl, ⟨us, hf6⟩, hn6, hb6⟩; have hq6 := hn6.symm; subst hq6; clear hn6; have HF6 := hide hf6; have HB6 := hide (HB5.out.trans (hb6.mono HB5.out.size)); clear hf6 hb6 HI5 HM5) | (go_at_call 18; refine (HLI.out _ HB6.out).mono ?_; rintro e w7 ⟨lao, ln, lcap, rfl, ht7, hn7, hg7, hb7⟩; have hq7 := hn7.symm; subst hq7; clear hn7; have HT7 := hide ht7; have HG7 := hide hg7; have HB7 := hide (HB6.out.trans (hb7.mono HB6.out.size)); have HF7 := hide (HF6.out.keep hb7); have HS67 := hide hb7.size; clear ht7 hg7 hb7 HF6) | fail)
      have HS56 := hide HB5.out.size
      have HD7 := hide (HD4.out.below HB7.out)
      have HS47 := hide HD4.out.bel.size
      clear HDE HF HLF HLI
      go_loopw [8] (fun i wr => ∃ k : Nat, k ≤ n ∧ i = .int .i64 (k : Int) ∧ Hid (Below w7.heap.size w7 wr)) (fun i _ => n - (intOf i).toNat)
      case atStart => exact ⟨0, Nat.zero_le _, rfl, Below.refl _ _⟩
      case round =>
        obtain ⟨k, hk, rfl, HBK⟩ := hrel
        by_cases hlt : k < n
        · obtain ⟨p, hp⟩ : ∃ p, S.dir[k]? = some p := ⟨_, List.getElem?_eq_getElem (by rw [← HNN.out]; exact hlt)⟩
          obtain ⟨lg, rfl, t1, t2⟩ := (HT7.out.keep HBK.out).at' (i := k) (x := p.1) (by rw [List.getElem?_map, hp]; rfl)
          obtain ⟨wg, bao, bc, rfl, y1, y2, y3, _, _, y6⟩ := (HF7.out.keep HBK.out).at (i := k) (x := (p.1, (flAt S.files p.2).bys)) (by unfold whole; rw [List.getElem?_map, hp]; rfl)
          have HRD := hide (read_dsk (HD7.out.below HBK.out) p.1 (by have := HOK.out.dir.name p (List.mem_of_getElem? hp); have h2 := (isNm_ne this).2; unfold maxLen; omega) HDD.out (dget_of HOK.out.dir.rising (i := p.2) (List.mem_of_getElem? hp)))
          unfold pf at HRD
          simp only at y1 y2 y3
          generalize (flAt S.files p.2).bys = bys at *
          generalize str p.1 = s at *
          obtain ⟨bl, hbl⟩ : ∃ bl, bl = bys.length := ⟨_, rfl⟩
          have hcv : ∀ (W : World) ao c, Row W ao bys → ∀ n, (convert 36 9 (.slice ao bl c)).run Try.prog (W.drewN n) = .ok (.string (bstr bys)) (W.drewN n) := fun W ao c h n => by rw [hbl]; exact conv_row c (h.drewN n)
          have HCV := hide hcv
          rw [← hbl] at y2 HRD
          have HY3 := hide y3
          generalize bstr bys = bs at *
          clear hp hbl hcv y3
          have hki : (k : Int) < (n : Int) := by omega
          have hkb : (k : Int) + 1 ≤ 4611686018427387904 := by omega
          go_upto_region 14 with (first | (go_at_call 24; refine HRD.out.mono ?_; rintro e w8 ⟨rao, rn, rcap, rfl, hr8, hn8, hg8, hd8, hb8⟩; have hq8 := hn8.symm; subst hq8; clear hn8; have z1 := cell_kept t1 hb8; have z2 := cell_kept y1 hb8; have z3 := cell_kept y2 hb8; have cv1 := HCV.out w8 rao rcap hr8; have cv2 := HCV.out w8 bao bc (HY3.out.keep hb8); have HB8 := hide (HBK.out.trans (hb8.mono HBK.out.size)); clear hr8 hg8 hd8 hb8 t1 y1 y2) | fail)
          clear HRD HCV HY3
          go_quiet ((go_at_call 9; exact Calls.quiet_of_same (num_any _ _)))
          go_wp2_with fail
          go_roundw
          case rel => exact ⟨k + 1, by omega, by simp, below_drewN HB8.out _⟩
          case measure => simp [intOf]; omega
        · obtain rfl : k = n := by omega
          have HDK := hide (HD7.out.below HBK.out)
          have HBL := hide (HB2.out.keep HDK.out.bel)
          have m0 : wr.cell? ⟨N + 1, 0, none⟩ = some (.int .i64 dir) := HBL.out.cell 0
          have f0 := HBL.out.frozen 0
          have HNS : Hid (N + 2 ≤ w4.heap.size) := by have h1 := HS2.out; have h2 := HS47.out; show _ ≤ _; omega
          have HDB := hide (HDK.out.poke HBW.out ⟨N + 1, 0, none⟩ (.int .i64 1099511627776) (by have := HN.out; show _ ≤ N + 1; omega) (by have := HS2.out; show N + 1 < _; omega))
          have HFB := hide ((HF7.out.keep HBK.out).poke ⟨N + 1, 0, none⟩ (.int .i64 1099511627776) (by have h1 := HNS.out; have h2 := HS56.out; show N + 1 < _; omega))
          have HTB := hide ((HT7.out.keep HBK.out).poke HG7.out ⟨N + 1, 0, none⟩ (.int .i64 1099511627776) (by have h1 := HNS.out; have h2 := HB6.out.size; show N + 1 < _; omega))
          have HBB := hide (HBL.out.set 0 (.int .i64 1099511627776))
          go_upto_region 17 with fail
          clear m0 f0 HBL HDK hlt
          generalize wr.setCell ⟨N + 1, 0, none⟩ (.int .i64 1099511627776) = wB at *
          have b0 : wB.cell? ⟨N + 1, 0, none⟩ = some (.int .i64 1099511627776) := HBB.out.cell 0
          have b1 : wB.cell? ⟨N + 1, 1, none⟩ = some (.slice tao tn tc) := HBB.out.cell 1
          have HCR := hide (crash_any 1099511627776 tao tn tc ts wB (HT.out.keep HDB.out.bel) HTN.out HTL.out)
          have HLS : Hid (∀ W vao m cap us, Below wB.heap.size wB W → IRow W vao us → m = us.length → m ≤ 4611686018427387904 → Calls Try.prog 22 #[.pointer (some ⟨dp, 0, none⟩), .agg #[.int .i64 1099511627776, .slice vao m cap]] W fun e w' => ∃ wao wn wcap, e = .returned (.slice wao wn wcap) ∧ (∃ vs, FOwn w' W.heap.size (.slice wao wn wcap) (lefts S us) vs) ∧ wn = k ∧ Below W.heap.size W w') := fun W vao m cap us g1 g2 g3 g4 => by
            have := left_dsk (HDB.out.below g1) 1099511627776 vao m cap us g2 g3 g4
            rw [left_all HOK.out] at this
            exact this.mono fun e w' ⟨a, b, c, h1, h2, h3, _, h4⟩ => ⟨a, b, c, h1, h2, by rw [h3, HNN.out]; simp [lefts], h4⟩
          go_wp2_with (first | (go_at_call 23; refine HCR.out.mono ?_; rintro e w8 ⟨cao, cm, ccap, rfl, hi8, hm8, hb8⟩; have HI8 := hide hi8; have HM8 := hide hm8; have HB8 := hide hb8; have HML : Hid (cm ≤ 4611686018427387904) := (by have h1 := HTL.out; have h2 := HTN.out; show _ ≤ _; omega); clear hi8 hm8 hb8 b0 b1) | (go_at_call 22; have _t := HI8; refine (HLS.out _ _ _ _ _ HB8.out HI8.out HM8.out HML.out).mono ?_; rintro e w9 ⟨sao, sn, scap, rfl, ⟨vs9, hf9⟩, hn9, hb9⟩; have hq9 := hn9.symm; subst hq9; clear hn9; have HF9 := hide hf9; have HB9 := hide (HB8.out.trans (hb9.mono HB8.out.size)); clear hf9 hb9 HI8 HM8 _t) | (go_at_call 22; refine (HLS.out _ none 0 0 [] HB9.out (.inl rfl) rfl (Nat.zero_le _)).mono ?_; rintro e w10 ⟨nao, nn, ncap, rfl, ⟨vs10, hf10⟩, hn10, hb10⟩; have hq10 := hn10.symm; subst hq10; clear hn10; have HF10 := hide hf10; have HS9 := hide (HF9.out.keep hb10); have HB10 := hide (HB9.out.trans (hb10.mono HB9.out.size)); clear hf10 hb10 HF9) | fail)
          have HW10 := hide (HFB.out.keep HB10.out)
          have HT10 := hide (HTB.out.keep HB10.out)
          have HE10 := hide (HDB.out.bel.trans (HB10.out.mono HDB.out.bel.size))
          clear HCR HLS HFB HTB HBB HT HB8 HB9 HB10 HDB HBK HF7 HT7 HD7 HG7
          go_loopw [13] (fun i wz => ∃ q : Nat, q ≤ k ∧ i = .int .i64 (q : Int) ∧ Hid (Below w10.heap.size w10 wz)) (fun i _ => k - (intOf i).toNat)
          case atStart => exact ⟨0, Nat.zero_le _, rfl, Below.refl _ _⟩
          case round =>
            obtain ⟨q, hq, rfl, HBQ⟩ := hrel
            by_cases hlq : q < k
            · obtain ⟨p, hp⟩ : ∃ p, S.dir[q]? = some p := ⟨_, List.getElem?_eq_getElem (by rw [← HNN.out]; exact hlq)⟩
              obtain ⟨lg, rfl, t1, t2⟩ := (HT10.out.keep HBQ.out).at' (i := q) (x := p.1) (by rw [List.getElem?_map, hp]; rfl)
              obtain ⟨wg, bao, bc, rfl, y1, y2, y3, y4, y5, y6⟩ := (HW10.out.keep HBQ.out).at (i := q) (x := (p.1, (flAt S.files p.2).bys)) (by unfold whole; rw [List.getElem?_map, hp]; rfl)
              obtain ⟨sg, bas, bsc, rfl, x1, x2, x3, x4, x5, x6⟩ := (HS9.out.keep HBQ.out).at (i := q) (x := (p.1, leftF (flAt S.files p.2) (tailOf ts p.2))) (by unfold lefts; rw [List.getElem?_map, hp]; rfl)
              obtain ⟨ng, ban, bnc, rfl, v1, v2, v3, v4, v5, v6⟩ := (HF10.out.keep HBQ.out).at (i := q) (x := (p.1, leftF (flAt S.files p.2) 0)) (by unfold lefts; rw [List.getElem?_map, hp]; simp [tail_nil])
              obtain ⟨g1, g2, g3, g4⟩ := leftF_begins (flAt S.files p.2) (HOK.out.flAt _) (tailOf ts p.2)
              simp only at y1 y2 y3 y4 x1 x2 x3 x4 v1 v2 v3
              generalize (flAt S.files p.2).bys = ba at *
              generalize leftF (flAt S.files p.2) (tailOf ts p.2) = sa at *
              generalize leftF (flAt S.files p.2) 0 = na at *
              generalize str p.1 = s at *
              have HG1 : Hid (∀ n, Calls Try.prog 26 #[.slice ban na.length bnc, .slice bas sa.length bsc] (wr.drewN n) fun e w' => e = .returned (.bool true) ∧ ∃ m, w' = (wr.drewN n).drewN m) := fun n => begins_true ban bas bnc bsc na sa _ (v3.drewN n) (x3.drewN n) x4 x5 g1 g2
              have HG2 : Hid (∀ n, Calls Try.prog 26 #[.slice bas sa.length bsc, .slice bao ba.length bc] (wr.drewN n) fun e w' => e = .returned (.bool true) ∧ ∃ m, w' = (wr.drewN n).drewN m) := fun n => begins_true bas bao bsc bc sa ba _ (x3.drewN n) (y3.drewN n) y4 y5 g3 g4
              have HGG : Hid (∀ v1 v2 n, (v1 = .slice ban na.length bnc ∧ v2 = .slice bas sa.length bsc) ∨ (v1 = .slice bas sa.length bsc ∧ v2 = .slice bao ba.length bc) → Calls Try.prog 26 #[v1, v2] (wr.drewN n) fun e w' => e = .returned (.bool true) ∧ ∃ m, w' = wr.drewN m) := fun v1 v2 n hv => by
                rcases hv with ⟨rfl, rfl⟩ | ⟨rfl, rfl⟩
                · exact Calls.quiet_of (HG1.out n)
                · exact Calls.quiet_of (HG2.out n)
              clear v3 x3 y3 y4 y5 x4 x5 v4 v5 g1 g2 g3 g4 hp HG1 HG2
              generalize na.length = nl at *
              generalize sa.length = sl at *
              generalize ba.length = bl at *
              have hki : (q : Int) < (k : Int) := by omega
              have hkb : (q : Int) + 1 ≤ 4611686018427387904 := by omega
              go_upto_region 24 with fail
              go_quiet ((go_at_call 26; exact HGG.out _ _ _ (by first | exact .inl ⟨rfl, rfl⟩ | exact .inr ⟨rfl, rfl⟩)))
              go_wp2_with fail
              go_roundw
              case rel => exact ⟨q + 1, by omega, by simp, below_drewN HBQ.out _⟩
              case measure => simp [intOf]; omega
            · obtain rfl : q = k := by omega
              go_wp2_with fail
              go_ret
              exact ⟨rfl, HE10.out.trans (HBQ.out.mono HE10.out.size)⟩
  · have HP2 : Hid (Calls Try.prog 15 #[.agg #[.slice fao fn fc, .int .i64 room, .slice aao an ac]] u2 fun e w' => e = .returned (.pointer none) ∧ Below u2.heap.size u2 w') := HPL.out.mono fun e w' ⟨_, hp⟩ => by
      unfold PlayPost at hp
      rw [if_neg h0] at hp
      exact hp
    clear HPL h0
    go_wp2_with (first | (go_at_call 15; refine HP2.out.mono ?_; rintro e w3 ⟨rfl, hb3⟩; have HB3 := hide hb3; have HLV := hide (live_true w3); clear hb3 HP2) | (go_at_call 10; refine HLV.out.mono ?_; rintro e w4 ⟨rfl, hb4⟩; have HB4 := hide hb4; clear hb4 HLV) | fail)
    go_ret
    exact ⟨rfl, (HBW.out.trans (HB3.out.mono HBW.out.size)).trans (HB4.out.mono (Nat.le_trans HBW.out.size HB3.out.size))⟩
end Go.Proofs.Ytmdgecjflkkhdaa
