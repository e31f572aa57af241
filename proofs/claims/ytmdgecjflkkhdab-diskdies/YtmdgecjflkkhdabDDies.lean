/- The walk of the law DiskDies. -/
import Derived.Test.YtmdgecjflkkhdabDTwoK
import Derived.Test.YtmdgecjflkkhdabDAnewM
namespace Go.Proofs.Ytmdgecjflkkhdab
open Go.RowKit Go.Maps

set_option maxHeartbeats 8000000 in
set_option maxRecDepth 100000 in
theorem diskDies_walk (fao : Option Addr) (fn fc : Nat) (fs : List Fi) (room : Int) (aao : Option Addr) (an ac : Nat) (l : List Ac) (n : Int) (dir : Int) (tao : Option Addr) (tn tc : Nat) (ts : List Int) (w : World) (hf : FSee w fao fs) (hfn : fn = fs.length) (hfl : fn * 40 ≤ 140737488351232) (hfs : ∀ f ∈ fs, f.1.length ≤ maxLen ∧ f.1.length ≤ 281474976710656 ∧ f.2.length ≤ 140737488355328) (hfb : ∀ f ∈ fs, ∀ x ∈ f.2, x < 256) (hr : room ≤ 9223372036854775807)
    (ha : ASee w aao l) (han : an = l.length) (hal : an * 104 ≤ 140737488351232) (hao : ∀ x ∈ l, AOk x) (hnn : n ≤ 9223372036854775807) (ht : IRow w tao ts) (htn : tn = ts.length) (htl : tn * 8 ≤ 140737488351232) :
    Calls Try.prog 4 #[.agg #[.slice fao fn fc, .int .i64 room, .slice aao an ac], .int .i64 n, .agg #[.int .i64 dir, .slice tao tn tc]] w fun e w' => e = .returned (.bool true) ∧ Below w.heap.size w w' := by
  obtain ⟨u1, hu1⟩ : ∃ u1, u1 = w.alloc (.cells #[.slice fao fn fc, .int .i64 room, .slice aao an ac] 25) := ⟨_, rfl⟩
  obtain ⟨u2, hu2⟩ : ∃ u2, u2 = u1.alloc (.cells #[.int .i64 dir, .slice tao tn tc] 28) := ⟨_, rfl⟩
  have hs1 : u1.heap.size = w.heap.size + 1 := by rw [hu1]; simp
  have hs2 : u2.heap.size = w.heap.size + 2 := by rw [hu2]; simp; omega
  have hb1 : Below w.heap.size w u1 := by rw [hu1]; exact below_new w _
  have hb2 : Below u1.heap.size u1 u2 := by rw [hu2]; exact below_new u1 _
  have hbw : Below w.heap.size w u2 := hb1.trans (hb2.mono (by omega))
  have hB1 : Bl u2 w.heap.size [.slice fao fn fc, .int .i64 room, .slice aao an ac] 25 := by have := Bl.new w #[.slice fao fn fc, .int .i64 room, .slice aao an ac] 25; rw [← hu1] at this; exact this.keep hb2
  have hB2 : Bl u2 (w.heap.size + 1) [.int .i64 dir, .slice tao tn tc] 28 := by have := Bl.new u1 #[.int .i64 dir, .slice tao tn tc] 28; rw [← hu2, hs1] at this; exact this
  have HCP : Hid (∀ W, Below u2.heap.size u2 W → Calls Try.prog 11 #[.slice fao fn fc] W fun e w' => ∃ vao m cap, e = .returned (.slice vao m cap) ∧ (∃ us, FOwn w' W.heap.size (.slice vao m cap) fs us) ∧ Below W.heap.size W w') := fun W g => copied_any fao fn fc fs W ((hf.keep hbw).keep g) hfn hfl (fun f hf => (hfs f hf).2.2)
  have HNM : Hid (∀ W vao m cap us B, FOwn W B (.slice vao m cap) fs us → Calls Try.prog 10 #[.slice vao m cap, .int .i64 room] W fun e w' => if newErr fs room = 0 then ∃ dp, e = .returned (.tuple #[.pointer (some ⟨dp, 0, none⟩), .int .i64 0]) ∧ Dsk W w' dp (born fs room.toNat) else e = .returned (.tuple #[.pointer none, .int .i64 (newErr fs room : Int)]) ∧ Below W.heap.size W w') := fun W vao m cap us B hF => by
    have hm : m = fs.length ∧ m ≤ cap := by
      rcases hF.row.2 with ⟨e, e2⟩ | ⟨g, cap', cur, e, _, _, h3, _⟩
      · injection e with _ e3 e4; omega
      · injection e with _ e3 e4; omega
    by_cases h0 : newErr fs room = 0
    · simp only [if_pos h0]
      exact new_dsk vao m cap fs room W hF.see hm.1 hm.2 hfs hfb hr h0
    · simp only [if_neg h0]
      exact new_none vao m cap fs room W hF.see hm.1 hm.2 hfs hr h0
  have HA := hide (ha.keep hbw)
  have HAN := hide han
  have HAO := hide hao
  have HAL : Hid (an ≤ 4611686018427387903) := by show _ ≤ _; omega
  have HNX := hide hnn
  have HT := hide (ht.keep hbw)
  have HTN := hide htn
  have HTL := hide htl
  have HBW := hide hbw
  have HB1 := hide hB1
  have HB2 := hide hB2
  have HU1 := hide hu1
  have HU2 := hide hu2
  clear hf hfn hfl hfs hfb hr ha han hal hao hnn ht htn htl hu1 hu2 hs1 hs2 hb1 hb2 hbw hB1 hB2
  go_enter Try.func4, Try.ntmps4
  go_upto_region 1 with fail
  rw [← HU1.out, ← HU2.out]
  clear HU1 HU2
  obtain ⟨N, hN⟩ : ∃ N, N = w.heap.size := ⟨_, rfl⟩
  rw [← hN] at HB1 HB2 ⊢
  clear hN
  have c0 : u2.cell? ⟨N, 0, none⟩ = some (.slice fao fn fc) := HB1.out.cell 0
  have c1 : u2.cell? ⟨N, 1, none⟩ = some (.int .i64 room) := HB1.out.cell 1
  by_cases h0 : newErr fs room = 0
  · have HNEW : Hid (∀ W vao m cap us B, FOwn W B (.slice vao m cap) fs us → Calls Try.prog 10 #[.slice vao m cap, .int .i64 room] W fun e w' => ∃ dp, e = .returned (.tuple #[.pointer (some ⟨dp, 0, none⟩), .int .i64 0]) ∧ Dsk W w' dp (born fs room.toNat)) := fun W vao m cap us B hF => by
      have := HNM.out W vao m cap us B hF
      simp only [if_pos h0] at this
      exact this
    clear h0 HNM
    go_region_held (fun W => W.cell? ⟨N, 0, none⟩ = some (.slice fao fn fc) ∧ W.cell? ⟨N, 1, none⟩ = some (.int .i64 room)) (go_keep) (first | (go_at_call 11; refine (HCP.out _ (below_drewN (Below.refl _ _) 1)).mono ?_; rintro e w1 ⟨vao, m, cap, rfl, ⟨us, hF⟩, hb⟩; have HF := hide hF; have hb1 := below_undrew hb; have HC1 := hide hb1; have d0 := cell_kept c0 hb1; have d1 := cell_kept c1 hb1; clear hF hb hb1) | (go_at_call 10; refine (HNEW.out _ _ _ _ _ _ HF.out).mono ?_; rintro e w2 ⟨pa, rfl, hd⟩; have HD := hide hd; have e0 := cell_kept d0 hd.bel; have e1 := cell_kept d1 hd.bel; clear hd))
    have HD2 := hide (HD.out.outer HC1.out)
    clear d0 d1 c0 c1 HF HD HC1
    go_upto_region 2 with fail
    go_region_held (fun W => W.cell? ⟨N, 0, none⟩ = some (.slice fao fn fc) ∧ W.cell? ⟨N, 1, none⟩ = some (.int .i64 room)) (go_keep) (first | (go_at_call 11; refine (HCP.out _ (HD2.out.drewN 1).bel).mono ?_; rintro e w3 ⟨vao, m, cap, rfl, ⟨us, hF⟩, hb⟩; have HF := hide hF; have hb1 := below_undrew hb; have HC1 := hide hb1; have d0 := cell_kept e0 hb1; have d1 := cell_kept e1 hb1; clear hF hb hb1) | (go_at_call 10; refine (HNEW.out _ _ _ _ _ _ HF.out).mono ?_; rintro e w4 ⟨pb, rfl, hd⟩; have HD := hide hd; have f0 := cell_kept d0 hd.bel; have f1 := cell_kept d1 hd.bel; clear hd))
    have HTW := hide (Two.make HD2.out (HD.out.outer HC1.out))
    clear d0 d1 e0 e1 f0 f1 HF HD HC1 HD2 HNEW HCP
    have HLV := hide (live_true w4)
    go_upto_region 7 with (first | (go_at_call 12; refine (num_any _ _).mono ?_; rintro e wx ⟨rfl, hwx⟩; have hwy := hwx.symm; subst hwy; clear hwx) | (go_at_call 7; refine HLV.out.mono ?_; rintro e w5 ⟨rfl, hb5⟩; have HT5 := hide (HTW.out.below hb5); clear hb5 HLV) | fail)
    clear HTW
    by_cases hn1 : n < 1
    · go_wp2_with fail
      go_ret
      exact ⟨rfl, HBW.out.trans (HT5.out.bel.mono HBW.out.size)⟩
    · have hlo : (1 : Int) ≤ n := by omega
      have hd1 : decide (n < 1) = false := decide_eq_false hn1
      have HBE := hide (beside_born fs room.toNat n hlo)
      generalize born fs room.toNat = S0 at *
      have HAR : Hid (Calls Try.prog 19 #[.pointer (some ⟨pa, 0, none⟩), .int .i64 n] w5 fun e w' => e = .returned (.tuple #[]) ∧ Two u2 w' pa pb (arm S0 n) S0) := HT5.out.on (R := fun e => e = .returned (.tuple #[])) fun G g => arm_g g n HNX.out
      generalize arm S0 n = A0 at *
      clear hn1
      go_wp2_with (first | (go_at_call 19; refine HAR.out.mono ?_; rintro e w6 ⟨rfl, ht6⟩; have HT6 := hide ht6; clear ht6) | fail)
      clear HAR HT5 hd1
      have hnt : ((n.toNat : Nat) : Int) = n := by omega
      have HNT := hide hnt
      clear hnt
      go_loopw [11] (fun i wr => ∃ (k : Nat) (A B : DS), k ≤ an ∧ i = .int .i64 (k : Int) ∧ Hid (Two u2 wr pa pb A B) ∧ Hid (Beside n.toNat A B)) (fun i _ => an - (intOf i).toNat)
      case atStart => exact ⟨0, A0, S0, Nat.zero_le _, rfl, HT6, HBE⟩
      case round =>
        obtain ⟨k, A, B, hk, rfl, HTK, HBK⟩ := hrel
        clear HT6 HBE
        have hBL : Bl wr N [.slice fao fn fc, .int .i64 room, .slice aao an ac] 25 := HB1.out.keep HTK.out.bel
        have n2 : wr.cell? ⟨N, 2, none⟩ = some (.slice aao an ac) := hBL.cell 2
        clear hBL
        have HCR : Hid (∀ W A1, Two u2 W pa pb A1 B → Calls Try.prog 9 #[.agg #[.int .i64 dir, .slice tao tn tc]] W fun e w' => ∃ cao cm ccap, e = .returned (.agg #[.int .i64 dir, .slice cao cm ccap]) ∧ IRow w' cao ts ∧ cm = ts.length ∧ Two u2 w' pa pb A1 B ∧ Below W.heap.size W w') := fun W A1 g => (crash_any dir tao tn tc ts W (HT.out.keep g.bel) HTN.out HTL.out).mono fun e w' ⟨a, b, c, h1, h2, h3, h4⟩ => ⟨a, b, c, h1, h2, h3, g.below h4, h4⟩
        have HTO := hide (told_left HTK.out.okb dir ts)
        have HLB : Hid (∀ W A1 vao m cap, Two u2 W pa pb A1 B → IRow W vao ts → m = ts.length → Calls Try.prog 8 #[.pointer (some ⟨pb, 0, none⟩), .agg #[.int .i64 dir, .slice vao m cap]] W fun e w' => ∃ wao wn wcap, e = .returned (.slice wao wn wcap) ∧ FSee w' wao (left B dir ts) ∧ wn = (left B dir ts).length ∧ Two u2 w' pa pb A1 B ∧ Below W.heap.size W w') := fun W A1 vao m cap g1 g2 g3 =>
          (left_dsk g1.swap.a dir vao m cap ts g2 g3 (by have h1 := HTL.out; have h2 := HTN.out; omega)).mono fun e w' ⟨a, b, c, h1, ⟨us, h2⟩, h3, _, h4⟩ => ⟨a, b, c, h1, h2.see, h3, g1.below h4, h4⟩
        have HLA : Hid (∀ W A1 vao m cap, Two u2 W pa pb A1 B → left A1 dir ts = left B dir ts → IRow W vao ts → m = ts.length → Calls Try.prog 8 #[.pointer (some ⟨pa, 0, none⟩), .agg #[.int .i64 dir, .slice vao m cap]] W fun e w' => ∃ wao wn wcap, e = .returned (.slice wao wn wcap) ∧ FSee w' wao (left B dir ts) ∧ wn = (left B dir ts).length ∧ Two u2 w' pa pb A1 B ∧ Below W.heap.size W w') := fun W A1 vao m cap g1 g0 g2 g3 => by
          have := left_dsk g1.a dir vao m cap ts g2 g3 (by have h1 := HTL.out; have h2 := HTN.out; omega)
          rw [g0] at this
          exact this.mono fun e w' ⟨a, b, c, h1, ⟨us, h2⟩, h3, _, h4⟩ => ⟨a, b, c, h1, h2.see, h3, g1.below h4, h4⟩
        have HLE := hide (beside_left HBK.out dir ts)
        obtain ⟨gs, hgs⟩ : ∃ gs, gs = left B dir ts := ⟨_, rfl⟩
        rw [← hgs] at HTO HLA HLB HLE
        clear hgs
        have HSM : Hid (∀ W a b lc wc, FSee W a gs → FSee W b gs → Calls Try.prog 22 #[.slice a gs.length lc, .slice b gs.length wc] W fun e w' => e = .returned (.bool true) ∧ Below W.heap.size W w') := fun W a b lc wc g1 g2 => same_true a b gs.length lc wc gs W g1 g2 rfl HTO.out.many HTO.out.len
        obtain ⟨gl, hgl⟩ : ∃ gl, gl = gs.length := ⟨_, rfl⟩
        rw [← hgl] at HLA HLB HSM
        clear hgl HTO
        by_cases hlt : k < an
        · obtain ⟨x, hx⟩ : ∃ x, l[k]? = some x := ⟨_, List.getElem?_eq_getElem (by rw [← HAN.out]; exact hlt)⟩
          obtain ⟨ab, aoff, pao, pc, txo, tc', rfl, y0, y1, y2, y3, y4, y5, y6, y8, y9⟩ := HA.out.cell k x hx
          have HX := hide (HAO.out x (List.mem_of_getElem? hx))
          have HROW := hide y8
          have hki : (k : Int) < (an : Int) := by omega
          have hkb : (k : Int) + 1 ≤ 4611686018427387904 := by have := HAL.out; omega
          obtain ⟨snm, hsnm⟩ : ∃ s, s = str x.nm := ⟨_, rfl⟩
          obtain ⟨stn, hstn⟩ : ∃ s, s = str x.tn := ⟨_, rfl⟩
          obtain ⟨pl, hpl⟩ : ∃ n, n = x.p.length := ⟨_, rfl⟩
          obtain ⟨tl, htl⟩ : ∃ n, n = x.ts.length := ⟨_, rfl⟩
          rw [← hsnm] at y1
          rw [← hstn] at y2
          rw [← hpl] at y3
          rw [← htl] at y6
          have x0 := cell_kept y0 HTK.out.bel
          have x1 := cell_kept y1 HTK.out.bel
          have x2 := cell_kept y2 HTK.out.bel
          have x3 := cell_kept y3 HTK.out.bel
          have x4 := cell_kept y4 HTK.out.bel
          have x5 := cell_kept y5 HTK.out.bel
          have x6 := cell_kept y6 HTK.out.bel
          clear y0 y1 y2 y3 y4 y5 y6 y8 y9
          have HONA : Hid (∀ K W A1 B1, TwoK K u2 W pa pb A1 B1 → Calls Try.prog 20 #[.pointer (some ⟨pa, 0, none⟩), .agg #[.int .i64 x.kind, .string snm, .string stn, .slice pao pl pc, .int .i64 x.n, .int .i64 x.dir, .slice txo tl tc']] W fun e w' => e = .returned (.int .i64 ((opOf x A1).1 : Int)) ∧ TwoK K u2 w' pa pb (opOf x A1).2 B1 ∧ Held K W w') := fun K W A1 B1 g1 => by
            rw [hsnm, hstn]
            exact g1.on (R := fun e => e = .returned (.int .i64 ((opOf x A1).1 : Int))) fun G g => (one_g g x HX.out pao pl pc txo tl tc' hpl (HROW.out.keep g1.bel)).mono fun e w' ⟨_, h1, h2, h3⟩ => ⟨h1, h2, h3⟩
          have HONB : Hid (∀ K W A1 B1, TwoK K u2 W pa pb A1 B1 → Calls Try.prog 20 #[.pointer (some ⟨pb, 0, none⟩), .agg #[.int .i64 x.kind, .string snm, .string stn, .slice pao pl pc, .int .i64 x.n, .int .i64 x.dir, .slice txo tl tc']] W fun e w' => e = .returned (.int .i64 ((opOf x B1).1 : Int)) ∧ TwoK K u2 w' pa pb A1 (opOf x B1).2 ∧ Held K W w') := fun K W A1 B1 g1 => by
            rw [hsnm, hstn]
            exact (g1.swap.on (R := fun e => e = .returned (.int .i64 ((opOf x B1).1 : Int))) fun G g => (one_g g x HX.out pao pl pc txo tl tc' hpl (HROW.out.keep g1.bel)).mono fun e w' ⟨_, h1, h2, h3⟩ => ⟨h1, h2, h3⟩).mono fun e w' ⟨h1, h2, h3⟩ => ⟨h1, h2.swap, h3⟩
          clear hx hsnm hstn hpl htl
          go_upto_region 14 with fail
          have HV := hide (Bl.new wr #[.int .i64 x.kind, .string snm, .string stn, .slice pao pl pc, .int .i64 x.n, .int .i64 x.dir, .slice txo tl tc'] 50)
          have HTV := hide (HTK.out.box (.cells #[.int .i64 x.kind, .string snm, .string stn, .slice pao pl pc, .int .i64 x.n, .int .i64 x.dir, .slice txo tl tc'] 50))
          obtain ⟨M, hM⟩ : ∃ M, M = wr.heap.size := ⟨_, rfl⟩
          rw [← hM] at HV HTV ⊢
          clear x0 x1 x2 x3 x4 x5 x6 hM n2 HTK
          generalize wr.alloc (.cells #[.int .i64 x.kind, .string snm, .string stn, .slice pao pl pc, .int .i64 x.n, .int .i64 x.dir, .slice txo tl tc'] 50) = wv at *
          obtain ⟨v0, v1, v2, v3, v4, v5, v6⟩ := act_cells HV.out
          by_cases k1 : x.kind < 1
          · go_wp2_with fail
            go_roundw
            case rel => exact ⟨k + 1, A, B, by omega, by simp, HTV.out.two, HBK⟩
            case measure => simp [intOf]; omega
          have k1d : decide (x.kind < 1) = false := decide_eq_false k1
          by_cases k2 : 6 < x.kind
          · go_wp2_with fail
            go_roundw
            case rel => exact ⟨k + 1, A, B, by omega, by simp, HTV.out.two, HBK⟩
            case measure => simp [intOf]; omega
          have k2d : decide (6 < x.kind) = false := decide_eq_false k2
          have HCB : Hid (∀ K W A1, TwoK K u2 W pa pb A1 B → Calls Try.prog 13 #[.pointer (some ⟨pb, 0, none⟩)] W fun e w' => e = .returned (.int .i64 (B.ops : Int)) ∧ w' = W) := fun K W A1 g => count_dsk g.swap.two.a
          have hn9 : n ≤ 9223372036854775807 := HNX.out
          by_cases hq : B.ops = n.toNat - 1
          · have hqe : ((B.ops : Nat) : Int) = n - 1 := by have h1 := HBK.out.lt; have h2 := HNT.out; omega
            rcases beside_last HBK.out x hq with ⟨r1, r2, r3, r4⟩ | r
            · have HO1 := hide (HONA.out _ _ _ _ HTV.out)
              rw [r1] at HO1
              have HO2 : Hid (∀ W, TwoK (fun g => g = M) u2 W pa pb A B → Calls Try.prog 20 #[.pointer (some ⟨pb, 0, none⟩), .agg #[.int .i64 x.kind, .string snm, .string stn, .slice pao pl pc, .int .i64 x.n, .int .i64 x.dir, .slice txo tl tc']] W fun e w' => e = .returned (.int .i64 ((opOf x A).1 : Int)) ∧ Two u2 w' pa pb A B) := fun W g => by
                have := HONB.out _ _ _ _ g
                rw [r2, ← r3] at this
                exact this.mono fun e w' ⟨h1, h2, _⟩ => ⟨h1, h2.two⟩
              have HDA : Hid (∀ W, TwoK (fun g => g = M) u2 W pa pb A B → Calls Try.prog 14 #[.pointer (some ⟨pa, 0, none⟩)] W fun e w' => e = .returned (.bool false) ∧ w' = W) := fun W g => by
                have := dead_dsk g.two.a
                rw [beside_dead HBK.out] at this
                exact this
              have hc0 : (((opOf x A).1 : Int) == 0) = false := by rw [beq_eq_false_iff_ne]; omega
              generalize ((opOf x A).1 : Int) = code at *
              have HBO : Hid (∃ q : Int, ((B.ops : Nat) : Int) = q) := ⟨_, rfl⟩
              generalize ((B.ops : Nat) : Int) = bo at *
              have hbe : (bo == n - 1) = true := by rw [hqe]; simp
              clear r1 r2 r3 r4 hq HONA HONB HBO
              go_wp2_with (first | (go_at_call 13; refine (HCB.out _ _ _ HTV.out).mono ?_; rintro e wx ⟨rfl, hwx⟩; have hwy := hwx.symm; subst hwy; clear hwx) | (go_at_call 20; have _t := v0; refine HO1.out.mono ?_; rintro e w8 ⟨rfl, ht8, hh8⟩; obtain ⟨z0, z1, z2, z3, z4, z5, z6⟩ := act_cells (hh8.bl HV.out rfl); have HT8 := hide ht8; clear ht8 hh8 v0 v1 v2 v3 v4 v5 v6 _t HO1) | (go_at_call 14; refine (HDA.out _ HT8.out).mono ?_; rintro e wx ⟨rfl, hwx⟩; have hwy := hwx.symm; subst hwy; clear hwx) | (go_at_call 20; refine (HO2.out _ HT8.out).mono ?_; rintro e w9 ⟨rfl, ht9⟩; have HT9 := hide ht9; clear ht9) | (go_at_call 12; refine (num_any _ _).mono ?_; rintro e wx ⟨rfl, hwx⟩; have hwy := hwx.symm; subst hwy; clear hwx) | fail)
              go_roundw
              case rel => exact ⟨k + 1, A, B, by omega, by simp, HT9, HBK⟩
              case measure => simp [intOf]; omega
            · have HO1 := hide (HONA.out _ _ _ _ HTV.out)
              rw [r] at HO1
              have HAO2 : Hid (Ok ({ A with armed := 0, dead := true } : DS)) := by
                have hA := HTV.out.oka
                exact ⟨hA.hist, hA.now, hA.clen, hA.ops, hA.file, hA.num, hA.cok, hA.used, hA.room, Nat.zero_le _⟩
              obtain ⟨A2, hA2⟩ : ∃ A2 : DS, A2 = { A with armed := 0, dead := true } := ⟨_, rfl⟩
              have HLE2 : Hid (left A2 dir ts = gs) := by show _ = _; rw [hA2, ← HLE.out]; rfl
              have hdd : A2.dead = true := by rw [hA2]
              have hoo : ((A2.ops : Nat) : Int) = n - 1 := by rw [hA2, ← hqe, ← beside_ops HBK.out]
              have hsd : syncDir A2 = (51, A2) := by unfold syncDir; rw [hdd]; rfl
              have HO2 : Hid (Calls Try.prog 20 #[.pointer (some ⟨pa, 0, none⟩), .agg #[.int .i64 x.kind, .string snm, .string stn, .slice pao pl pc, .int .i64 x.n, .int .i64 x.dir, .slice txo tl tc']] wv fun e w' => e = .returned (.int .i64 51) ∧ Two u2 w' pa pb A2 B) := HO1.out.mono fun e w' ⟨h1, h2, _⟩ => ⟨h1, by rw [hA2]; exact h2.two⟩
              have HDA : Hid (∀ W, Two u2 W pa pb A2 B → Calls Try.prog 14 #[.pointer (some ⟨pa, 0, none⟩)] W fun e w' => e = .returned (.bool true) ∧ w' = W) := fun W g => by
                have := dead_dsk g.a
                rw [hdd] at this
                exact this
              have HSD : Hid (∀ W, Two u2 W pa pb A2 B → Calls Try.prog 21 #[.pointer (some ⟨pa, 0, none⟩)] W fun e w' => e = .returned (.int .i64 51) ∧ Two u2 w' pa pb A2 B) := fun W g => by
                have := g.on (A' := (syncDir A2).2) (R := fun e => e = .returned (.int .i64 ((syncDir A2).1 : Int))) fun G h => syncDir_g h
                rw [hsd] at this
                exact this
              have HCA : Hid (∀ W, Two u2 W pa pb A2 B → Calls Try.prog 13 #[.pointer (some ⟨pa, 0, none⟩)] W fun e w' => e = .returned (.int .i64 ((A2.ops : Nat) : Int)) ∧ w' = W) := fun W g => count_dsk g.a
              generalize ((A2.ops : Nat) : Int) = bo2 at *
              have hb2 : (bo2 == n - 1) = true := by rw [hoo]; simp
              have hwr : IntKind.i64.wrap (n - 1) = n - 1 := by rw [IntKind.wrap_i64]; omega
              have hwr2 := hwr
              rw [IntKind.wrap_i64] at hwr2
              have hlo2 : (-9223372036854775808 : Int) ≤ n - 1 := by omega
              have hhi2 : n - 1 ≤ 9223372036854775807 := by omega
              have HLI : Hid (∀ W, Two u2 W pa pb A2 B → Calls Try.prog 18 #[.pointer (some ⟨pa, 0, none⟩)] W fun e w' => ∃ ao cap, e = .returned (.slice ao 0 cap) ∧ Two u2 w' pa pb A2 B ∧ Below W.heap.size W w') := fun W g => by
                have := list_dsk g.a
                rw [hdd] at this
                exact this.mono fun e w' ⟨a, b, c, h1, _, h3, _, _, h4⟩ => ⟨a, c, by rw [h1, h3]; rfl, g.below h4, h4⟩
              generalize ((B.ops : Nat) : Int) = bo at *
              have hbe : (bo == n - 1) = true := by rw [hqe]; simp
              have HLE := HLE2
              clear r hq HONA HONB hA2 hdd hoo hsd HO1 HAO2 HLE2
              go_upto_region 18 with (first | (go_at_call 13; refine (HCB.out _ _ _ HTV.out).mono ?_; rintro e wx ⟨rfl, hwx⟩; have hwy := hwx.symm; subst hwy; clear hwx) | (go_at_call 20; refine HO2.out.mono ?_; rintro e w8 ⟨rfl, ht8⟩; have HT8 := hide ht8; clear ht8 v0 v1 v2 v3 v4 v5 v6) | (go_at_call 14; refine (HDA.out _ HT8.out).mono ?_; rintro e wx ⟨rfl, hwx⟩; have hwy := hwx.symm; subst hwy; clear hwx) | fail)
              have HBC := hide (HB2.out.keep HT8.out.bel)
              have a0 : w8.cell? ⟨N + 1, 0, none⟩ = some (.int .i64 dir) := HBC.out.cell 0
              have a1 : w8.cell? ⟨N + 1, 1, none⟩ = some (.slice tao tn tc) := HBC.out.cell 1
              have tok : True := trivial
              go_region_held (fun W => W.cell? ⟨N + 1, 0, none⟩ = some (.int .i64 dir) ∧ W.cell? ⟨N + 1, 1, none⟩ = some (.slice tao tn tc)) (go_keep) (first | (go_at_call 12; refine (num_any _ _).mono ?_; rintro e wx ⟨rfl, hwx⟩; have hwy := hwx.symm; subst hwy; clear hwx) | (go_at_call 21; refine (HSD.out _ (HT8.out.drewN 1)).mono ?_; rintro e w10 ⟨rfl, ht10⟩; have hBC := HB2.out.keep ht10.bel; have c0 : w10.cell? ⟨N + 1, 0, none⟩ = some (.int .i64 dir) := hBC.cell 0; have c1 : w10.cell? ⟨N + 1, 1, none⟩ = some (.slice tao tn tc) := hBC.cell 1; have HT10 := hide ht10; clear ht10 hBC) | (go_at_call 9; have _t := tok; refine (HCR.out _ _ HT10.out).mono ?_; rintro e w11 ⟨cao, cm, ccap, rfl, hi11, hm11, ht11, hb11⟩; have hb11' := hb11; have d0 := cell_kept c0 hb11'; have d1 := cell_kept c1 hb11'; have HI11 := hide hi11; have HM11 := hide hm11; have HT11 := hide ht11; clear hi11 hm11 ht11 hb11 hb11' _t tok) | (go_at_call 8; have _t := HI11; refine (HLA.out _ _ _ _ _ HT11.out HLE.out HI11.out HM11.out).mono ?_; rintro e w12 ⟨wao, wn, wcap, rfl, hf12, hn12, ht12, hb12⟩; have hq12 := hn12.symm; subst hq12; clear hn12; have g0 := cell_kept d0 hb12; have g1 := cell_kept d1 hb12; have HF12 := hide hf12; have HT12 := hide ht12; clear hf12 ht12 hb12 HI11 HM11 _t) | (go_at_call 9; refine (HCR.out _ _ HT12.out).mono ?_; rintro e w13 ⟨cao3, cm3, ccap3, rfl, hi13, hm13, ht13, hb13⟩; have i0 := cell_kept g0 hb13; have i1 := cell_kept g1 hb13; have HI13 := hide hi13; have HM13 := hide hm13; have HT13 := hide ht13; have HF13 := hide (HF12.out.keep hb13); clear hi13 hm13 ht13 hb13) | (go_at_call 8; refine (HLB.out _ _ _ _ _ HT13.out HI13.out HM13.out).mono ?_; rintro e w14 ⟨xao, xn, xcap, rfl, hf14, hn14, ht14, hb14⟩; have hq14 := hn14.symm; subst hq14; clear hn14; have j0 := cell_kept i0 hb14; have j1 := cell_kept i1 hb14; have HF14 := hide hf14; have HE14 := hide (HF13.out.keep hb14); have HT14 := hide ht14; clear hf14 ht14 hb14) | (go_at_call 22; refine (HSM.out _ _ _ _ _ HE14.out HF14.out).mono ?_; rintro e w15 ⟨rfl, hb15⟩; have l0 := cell_kept j0 hb15; have l1 := cell_kept j1 hb15; have HT15 := hide (HT14.out.below hb15); clear hb15) | (go_at_call 13; refine (HCA.out _ HT15.out).mono ?_; rintro e wx ⟨rfl, hwx⟩; have hwy := hwx.symm; subst hwy; clear hwx) | (go_at_call 18; refine (HLI.out _ HT15.out).mono ?_; rintro e w16 ⟨lao, lcap, rfl, ht16, hb16⟩; have o0 := cell_kept l0 hb16; have o1 := cell_kept l1 hb16; have HT16 := hide ht16; clear ht16 hb16))
              all_goals
                (try go_wp2_with fail)
                go_ret
                exact ⟨rfl, HBW.out.trans (HT16.out.bel.mono HBW.out.size)⟩
          · obtain ⟨s1, s2⟩ := beside_step HBK.out x hq
            have hqe : (((B.ops : Nat) : Int) == n - 1) = false := by rw [beq_eq_false_iff_ne]; have h1 := HBK.out.lt; have h2 := HNT.out; omega
            have HO1 := hide (HONA.out _ _ _ _ (HTV.out.below (below_drewN (Below.refl _ _) 1)))
            have HO2 := hide (fun W g => HONB.out (fun g => g = M) W (opOf x A).2 B g)
            rw [s1] at HO1
            have HVD := hide (HV.out.keep (below_drewN (Below.refl _ _) 1))
            have HS2 := hide s2
            generalize (opOf x A).2 = A2 at *
            generalize (opOf x B).2 = B2 at *
            generalize ((opOf x B).1 : Int) = code at *
            have HDA : Hid (∀ W, TwoK (fun g => g = M) u2 W pa pb A2 B2 → Calls Try.prog 14 #[.pointer (some ⟨pa, 0, none⟩)] W fun e w' => e = .returned (.bool false) ∧ w' = W) := fun W g => by
              have := dead_dsk g.two.a
              rw [beside_dead HS2.out] at this
              exact this
            have HCA : Hid (∀ W, TwoK (fun g => g = M) u2 W pa pb A2 B2 → Calls Try.prog 13 #[.pointer (some ⟨pa, 0, none⟩)] W fun e w' => e = .returned (.int .i64 (B2.ops : Int)) ∧ w' = W) := fun W g => by
              have := count_dsk g.two.a
              rw [beside_ops HS2.out] at this
              exact this
            have HC2 : Hid (∀ W, TwoK (fun g => g = M) u2 W pa pb A2 B2 → Calls Try.prog 13 #[.pointer (some ⟨pb, 0, none⟩)] W fun e w' => e = .returned (.int .i64 (B2.ops : Int)) ∧ w' = W) := fun W g => count_dsk g.swap.two.a
            generalize ((B2.ops : Nat) : Int) = bo2 at *
            generalize ((B.ops : Nat) : Int) = bo at *
            clear s1 s2 hq HONA HONB HCR HLA HLB HSM HLE
            have tok : True := trivial
            go_upto_region 21 with (first | (go_at_call 13; refine (HCB.out _ _ _ HTV.out).mono ?_; rintro e wx ⟨rfl, hwx⟩; have hwy := hwx.symm; subst hwy; clear hwx) | fail)
            go_region_held (fun W => W.cell? ⟨M, 0, none⟩ = some (.int .i64 x.kind) ∧ W.cell? ⟨M, 1, none⟩ = some (.string snm) ∧ W.cell? ⟨M, 2, none⟩ = some (.string stn) ∧ W.cell? ⟨M, 3, none⟩ = some (.slice pao pl pc) ∧ W.cell? ⟨M, 4, none⟩ = some (.int .i64 x.n) ∧ W.cell? ⟨M, 5, none⟩ = some (.int .i64 x.dir) ∧ W.cell? ⟨M, 6, none⟩ = some (.slice txo tl tc')) (go_keep) (first | (go_at_call 20; have _t := tok; refine HO1.out.mono ?_; rintro e w8 ⟨rfl, ht8, hh8⟩; have HV8 := hide (hh8.bl HVD.out rfl); obtain ⟨z0, z1, z2, z3, z4, z5, z6⟩ := act_cells HV8.out; have HT8 := hide ht8; clear ht8 hh8 _t tok) | (go_at_call 20; refine (HO2.out _ HT8.out).mono ?_; rintro e w9 ⟨rfl, ht9, hh9⟩; obtain ⟨y0, y1, y2, y3, y4, y5, y6⟩ := act_cells (hh9.bl HV8.out rfl); have HT9 := hide ht9; clear ht9 hh9) | (go_at_call 14; refine (HDA.out _ HT9.out).mono ?_; rintro e wx ⟨rfl, hwx⟩; have hwy := hwx.symm; subst hwy; clear hwx) | (go_at_call 13; refine (HCA.out _ HT9.out).mono ?_; rintro e wx ⟨rfl, hwx⟩; have hwy := hwx.symm; subst hwy; clear hwx) | (go_at_call 13; refine (HC2.out _ HT9.out).mono ?_; rintro e wx ⟨rfl, hwx⟩; have hwy := hwx.symm; subst hwy; clear hwx))
            all_goals
              (try go_wp2_with fail)
              go_roundw
              case rel => exact ⟨k + 1, A2, B2, by omega, by simp, HT9.out.two, HS2⟩
              case measure => simp [intOf]; omega
        · obtain rfl : k = an := by omega
          have HBC := hide (HB2.out.keep HTK.out.bel)
          have c0 : wr.cell? ⟨N + 1, 0, none⟩ = some (.int .i64 dir) := HBC.out.cell 0
          have c1 : wr.cell? ⟨N + 1, 1, none⟩ = some (.slice tao tn tc) := HBC.out.cell 1
          have tok : True := trivial
          go_upto_region 23 with fail
          go_region_held (fun W => W.cell? ⟨N + 1, 0, none⟩ = some (.int .i64 dir) ∧ W.cell? ⟨N + 1, 1, none⟩ = some (.slice tao tn tc)) (go_keep) (first | (go_at_call 9; have _t := tok; refine (HCR.out _ _ (HTK.out.drewN 1)).mono ?_; rintro e w11 ⟨cao, cm, ccap, rfl, hi11, hm11, ht11, hb11⟩; have hb11' := below_undrew hb11; have d0 := cell_kept c0 hb11'; have d1 := cell_kept c1 hb11'; have HI11 := hide hi11; have HM11 := hide hm11; have HT11 := hide ht11; clear hi11 hm11 ht11 hb11 hb11' _t tok) | (go_at_call 8; have _t := HI11; refine (HLA.out _ _ _ _ _ HT11.out HLE.out HI11.out HM11.out).mono ?_; rintro e w12 ⟨wao, wn, wcap, rfl, hf12, hn12, ht12, hb12⟩; have hq12 := hn12.symm; subst hq12; clear hn12; have g0 := cell_kept d0 hb12; have g1 := cell_kept d1 hb12; have HF12 := hide hf12; have HT12 := hide ht12; clear hf12 ht12 hb12 HI11 HM11 _t) | (go_at_call 9; refine (HCR.out _ _ HT12.out).mono ?_; rintro e w13 ⟨cao3, cm3, ccap3, rfl, hi13, hm13, ht13, hb13⟩; have i0 := cell_kept g0 hb13; have i1 := cell_kept g1 hb13; have HI13 := hide hi13; have HM13 := hide hm13; have HT13 := hide ht13; have HF13 := hide (HF12.out.keep hb13); clear hi13 hm13 ht13 hb13) | (go_at_call 8; refine (HLB.out _ _ _ _ _ HT13.out HI13.out HM13.out).mono ?_; rintro e w14 ⟨xao, xn, xcap, rfl, hf14, hn14, ht14, hb14⟩; have hq14 := hn14.symm; subst hq14; clear hn14; have j0 := cell_kept i0 hb14; have j1 := cell_kept i1 hb14; have HF14 := hide hf14; have HE14 := hide (HF13.out.keep hb14); have HT14 := hide ht14; clear hf14 ht14 hb14) | (go_at_call 22; refine (HSM.out _ _ _ _ _ HE14.out HF14.out).mono ?_; rintro e w15 ⟨rfl, hb15⟩; have l0 := cell_kept j0 hb15; have l1 := cell_kept j1 hb15; have HT15 := hide (HT14.out.below hb15); clear hb15))
          all_goals
            (try go_wp2_with fail)
            go_ret
            exact ⟨rfl, HBW.out.trans (HT15.out.bel.mono HBW.out.size)⟩
  · have HNEW : Hid (∀ W vao m cap us B, FOwn W B (.slice vao m cap) fs us → Calls Try.prog 10 #[.slice vao m cap, .int .i64 room] W fun e w' => e = .returned (.tuple #[.pointer none, .int .i64 (newErr fs room : Int)]) ∧ Below W.heap.size W w') := fun W vao m cap us B hF => by
      have := HNM.out W vao m cap us B hF
      simp only [if_neg h0] at this
      exact this
    generalize (newErr fs room : Int) = er at *
    clear h0 HNM
    go_region_held (fun W => W.cell? ⟨N, 0, none⟩ = some (.slice fao fn fc) ∧ W.cell? ⟨N, 1, none⟩ = some (.int .i64 room)) (go_keep) (first | (go_at_call 11; refine (HCP.out _ (below_drewN (Below.refl _ _) 1)).mono ?_; rintro e w1 ⟨vao, m, cap, rfl, ⟨us, hF⟩, hb⟩; have HF := hide hF; have hb1 := below_undrew hb; have HC1 := hide hb1; have d0 := cell_kept c0 hb1; have d1 := cell_kept c1 hb1; clear hF hb hb1) | (go_at_call 10; refine (HNEW.out _ _ _ _ _ _ HF.out).mono ?_; rintro e w2 ⟨rfl, hd⟩; have HD := hide hd; have e0 := cell_kept d0 hd; have e1 := cell_kept d1 hd; clear hd))
    have HD2 := hide (HC1.out.trans (HD.out.mono HC1.out.size))
    clear d0 d1 c0 c1 HF HD HC1
    go_upto_region 2 with fail
    go_region_held (fun W => W.cell? ⟨N, 0, none⟩ = some (.slice fao fn fc) ∧ W.cell? ⟨N, 1, none⟩ = some (.int .i64 room)) (go_keep) (first | (go_at_call 11; refine (HCP.out _ (below_drewN HD2.out 1)).mono ?_; rintro e w3 ⟨vao, m, cap, rfl, ⟨us, hF⟩, hb⟩; have HF := hide hF; have hb1 := below_undrew hb; have HC1 := hide hb1; have d0 := cell_kept e0 hb1; have d1 := cell_kept e1 hb1; clear hF hb hb1) | (go_at_call 10; refine (HNEW.out _ _ _ _ _ _ HF.out).mono ?_; rintro e w4 ⟨rfl, hd⟩; have HD := hide hd; have f0 := cell_kept d0 hd; have f1 := cell_kept d1 hd; clear hd))
    have HD4 := hide (HD2.out.trans ((HC1.out.trans (HD.out.mono HC1.out.size)).mono HD2.out.size))
    clear d0 d1 e0 e1 f0 f1 HF HD HC1 HD2 HNEW HCP
    have HLV := hide (live_true w4)
    go_wp2_with (first | (go_at_call 12; refine (num_any _ _).mono ?_; rintro e wx ⟨rfl, hwx⟩; have hwy := hwx.symm; subst hwy; clear hwx) | (go_at_call 7; refine HLV.out.mono ?_; rintro e w5 ⟨rfl, hb5⟩; have HB5 := hide hb5; clear hb5 HLV) | fail)
    go_ret
    exact ⟨rfl, (HBW.out.trans (HD4.out.mono HBW.out.size)).trans (HB5.out.mono (Nat.le_trans HBW.out.size HD4.out.size))⟩
end Go.Proofs.Ytmdgecjflkkhdab
