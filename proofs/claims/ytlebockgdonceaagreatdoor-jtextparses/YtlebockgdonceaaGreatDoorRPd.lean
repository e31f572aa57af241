/- The contract of the document's escape. -/
import Derived.Test.YtlebockgdonceaaGreatDoorRPc
namespace Go.Proofs.YtlebockgdonceaaGreatDoor
open Go.RowKit

def fromS : ByteArray := { data := #[34, 92, 47, 98, 102, 110, 114, 116] }
def toS : ByteArray := { data := #[34, 92, 47, 8, 12, 10, 13, 9] }
theorem from_index (k : Nat) (hk : k < 8) (w : World) : (Instr.index 9 (.string fromS) (.int .i64 (k : Int))).run Tryz.prog w = .ok (.int .u8 ((fromL.getD k 0 : Nat) : Int)) w := str_index fromS k hk w
theorem to_index (k : Nat) (hk : k < 8) (w : World) : (Instr.index 9 (.string toS) (.int .i64 (k : Int))).run Tryz.prog w = .ok (.int .u8 ((toL.getD k 0 : Nat) : Int)) w := str_index toS k hk w
def nextS : ByteArray := { data := #[92, 117] }
def nextL : List Nat := [92, 117]
theorem next_index (k : Nat) (hk : k < 2) (w : World) : (Instr.index 9 (.string nextS) (.int .i64 (k : Int))).run Tryz.prog w = .ok (.int .u8 ((nextL.getD k 0 : Nat) : Int)) w := str_index nextS k hk w
set_option maxHeartbeats 4000000 in
set_option maxRecDepth 100000 in
theorem rescape_any (s : ByteArray) (p : Nat) (w : World) (hp : p < s.size) (hs : s.size ≤ 16384) : Calls Tryz.prog 33 #[.string s, .int .i64 (p : Int)] w fun ε w' => EscAns (escAt (sbytes s) p) w ε w' := by
  have hsl := sbytes_length s
  have hix := str_index s
  have HFO := hide (fun q W hq => rfour_any s q W hq hs)
  have HFB := hide (fun k q n m r => @fourAt_bounds (sbytes s) k q n m r)
  have HFL := hide (fun k q m n r => @rp_four_lt (sbytes s) k q m n r)
  have HF0 := hide (fun k q n r e => @fourAt_bad (sbytes s) k q n r e)
  have HUT := hide rutf_any
  have HOK := hide (fun r q ao k c w' => @esc_ok (sbytes s) p r q ao k c w w')
  have HBD := hide (fun e q w' => @esc_bad (sbytes s) p e q w w')
  have HSH := hide (@esc_short (sbytes s) p)
  have HLE := hide (fun b => @esc_letter (sbytes s) p b)
  have HNO := hide (@esc_none (sbytes s) p)
  have HUN := hide (@esc_uni (sbytes s) p)
  have HUD : Hid (uniAt (sbytes s) p = match fourAt (sbytes s) 4 (p + 2) 0 with
    | .error e q => .error e q
    | .ok n q => if n < 55296 ∨ 57344 ≤ n then .ok n q else if 56320 ≤ n then .error 43 p else halfAt (sbytes s) p n q) := hide rfl
  have HHD : Hid (∀ n q, halfAt (sbytes s) p n q = if q < (sbytes s).length then
    if bt (sbytes s) q = 92 then
      if q + 1 < (sbytes s).length then
        if bt (sbytes s) (q + 1) = 117 then
          match fourAt (sbytes s) 4 (q + 2) 0 with
          | .error e q => .error e q
          | .ok m q => if 56320 ≤ m ∧ m < 57344 then .ok (65536 + 1024 * (n - 55296) + (m - 56320)) q else .error 43 p
        else .error 43 p
      else .error 3 (sbytes s).length
    else .error 43 p
  else .error 3 (sbytes s).length) := hide fun n q => rfl
  rw [hsl] at HSH HLE HNO HUN HHD HFB HF0
  have HS := hide hs
  have hp1 : (p : Int) + 1 = ((p + 1 : Nat) : Int) := by omega
  have hp2 : (p : Int) + 2 = ((p + 2 : Nat) : Int) := by omega
  have hw1 : IntKind.i64.wrap ((p + 1 : Nat) : Int) = ((p + 1 : Nat) : Int) := by rw [IntKind.wrap_i64]; omega
  have hw2 : IntKind.i64.wrap ((p + 2 : Nat) : Int) = ((p + 2 : Nat) : Int) := by rw [IntKind.wrap_i64]; omega
  have HP := hide hp
  generalize escAt (sbytes s) p = EA at *
  generalize uniAt (sbytes s) p = UA at *
  generalize sbytes s = l at *
  generalize hn : s.size = n at *
  clear hsl hs hp
  by_cases hin : p + 1 < n
  · have hin' : ((p + 1 : Nat) : Int) < (n : Int) := by omega
    have hge' : ¬ (n : Int) ≤ ((p + 1 : Nat) : Int) := by omega
    have hx : ∀ W, (Instr.index 9 (.string s) (.int .i64 ((p + 1 : Nat) : Int))).run Tryz.prog W = .ok (.int .u8 ((bt l (p + 1) : Nat) : Int)) W := hix (p + 1) hin
    have HIN := hide hin
    have HFX := hide from_index
    have HTX := hide to_index
    have hz8 : (fromS.size : Int) = 8 := rfl
    have HIX := hide hix
    have HP1 : Hid (p + 1 = p + 1) := hide rfl
    clear hin hix
    obtain ⟨p1, hq1⟩ : ∃ p1, p1 = p + 1 := ⟨_, rfl⟩
    obtain ⟨p2, hq2⟩ : ∃ p2, p2 = p + 2 := ⟨_, rfl⟩
    rw [← hq1] at hx hin' hge' hw1 hp1 HLE HNO HUN HSH HIN
    rw [← hq2] at hw2 hp2 HUD HLE
    have HQ1 := hide hq1
    have HQ2 := hide hq2
    clear hq1 hq2 HP1
    generalize bt l p1 = c at *
    go_enter Tryz.func33, Tryz.ntmps33
    go_upto_region 5 with fail
    rw [show ({ data := #[34, 92, 47, 98, 102, 110, 114, 116] } : ByteArray) = fromS from rfl, show ({ data := #[34, 92, 47, 8, 12, 10, 13, 9] } : ByteArray) = toS from rfl]
    generalize fromS = FSv at *
    generalize toS = TS at *
    go_wp2_with fail
    go_loopw [10] (fun a wr => ∃ k : Nat, a = .int .i64 (k : Int) ∧ k ≤ 8 ∧ Hid (Below w.heap.size w wr) ∧ Hid (∀ j, j < k → fromL.getD j 0 ≠ c)) (fun a _ => 8 - (intOf a).toNat)
    case atStart => exact ⟨0, rfl, by omega, hide (Below.refl _ _), hide fun j hj => by omega⟩
    case round =>
      obtain ⟨k, rfl, hk, HB, hr⟩ := hrel
      have hwri : IntKind.i64.wrap ((k : Int) + 1) = ((k + 1 : Nat) : Int) := by rw [IntKind.wrap_i64]; omega
      by_cases hk8 : k < 8
      · have hk8' : (k : Int) < 8 := by omega
        have hfk := HFX.out k hk8
        have htk := HTX.out k hk8
        have HK := hide hk8
        clear hk hk8
        by_cases he : fromL.getD k 0 = c
        · have HE := hide (HOK.out (toL.getD k 0) p2 (some ⟨wr.heap.size, 0, none⟩) 1 1)
          have HSS := hide (short_at HK.out he)
          have HTS := hide (toL_small k HK.out)
          have he' : ((c : Int) == ((fromL.getD k 0 : Nat) : Int)) = true := by rw [← he]; simp
          generalize fromL.getD k 0 = f at *
          generalize toL.getD k 0 = t at *
          clear he
          go_wp2_with fail
          go_quiet (fail)
          have HB2 : Hid (Below w.heap.size w (wr.drewN nq)) := hide (below_drewN HB.out nq)
          have hz2 : (wr.drewN nq).heap.size = wr.heap.size := rfl
          rw [← hz2] at HE
          clear hz2
          generalize wr.drewN nq = wz at *
          go_wp2_with fail
          try simp only [Exit.inBlock, Exit.then]
          refine bodyPost_ret (results_tmp4 rfl _ _ _) rfl ?_
          refine HE.out (wz.alloc (.cells #[.int .u8 (t : Int)] 5)) (HLE.out t HIN.out HSS.out) (by rw [utf_small HTS.out]; rfl) (by rw [utf_small HTS.out]; exact row_one wz t) (HB2.out.alloc HB2.out.size _)
        · have he' : ((c : Int) == ((fromL.getD k 0 : Nat) : Int)) = false := by simpa using (fun e => he (by exact_mod_cast e.symm))
          have HNE := hide he
          obtain ⟨f, hf⟩ : ∃ f, f = fromL.getD k 0 := ⟨_, rfl⟩
          obtain ⟨t, ht⟩ : ∃ t, t = toL.getD k 0 := ⟨_, rfl⟩
          rw [← hf] at hfk he'
          rw [← ht] at htk
          clear he hf ht
          go_wp2_with fail
          go_quiet (fail)
          have HB2 : Hid (Below w.heap.size w (wr.drewN nq)) := hide (below_drewN HB.out nq)
          generalize wr.drewN nq = wz at *
          go_wp2_with fail
          go_roundw
          case rel => exact ⟨k + 1, by first | rfl | simp, HK.out, HB2, hide fun j hj => by
            rcases Nat.lt_succ_iff_lt_or_eq.1 hj with h | h
            · exact hr.out j h
            · subst h; exact HNE.out⟩
          case measure => have := HK.out; simp [intOf]; omega
      · have hk8' : ¬ (k : Int) < 8 := by omega
        have HSN := hide (rp_short_none fun j hj => hr.out j (by omega))
        clear hk hk8
        by_cases hu : c = 117
        · have hu' : ((c : Int) != 117) = false := by simp; omega
          have HEU := hide (HUN.out HIN.out HSN.out hu)
          have hp2n : p2 ≤ n := by have := HIN.out; have := HQ1.out; have := HQ2.out; omega
          have HF4 := hide (HFO.out p2 wr (by omega))
          have HP2 := hide hp2n
          clear hu
          cases h4 : fourAt l 4 p2 0 with
          | error e q =>
            rw [h4] at HF4 HUD
            have he0 : e ≠ 0 := (HF0.out 4 p2 0 q e HP2.out h4).2.2.2.1
            have he0' : ((e : Int) != 0) = true := by simp; omega
            have HE := hide (HBD.out e q)
            have HEE := hide (HEU.out.trans HUD.out)
            rw [show fourV (.error e q) = .tuple #[.int .i64 0, .int .i64 0, .int .i64 (e : Int), .int .i64 (q : Int)] from rfl] at HF4
            clear h4 he0 hp2n
            go_wp2_with (go_at_call 49; refine HF4.out.mono ?_; rintro ε wx ⟨rfl, hwx⟩; have hwy := hwx.symm; subst hwy; clear hwx)
            try simp only [Exit.inBlock, Exit.then]
            refine bodyPost_ret (results_tmp4 rfl _ _ _) rfl ?_
            exact HE.out _ HEE.out HB.out
          | ok m q =>
            rw [h4] at HF4 HUD
            rw [show fourV (.ok m q) = .tuple #[.int .i64 (m : Int), .int .i64 (q : Int), .int .i64 0, .int .i64 0] from rfl] at HF4
            have hm : m < 65536 := by have := HFL.out 4 p2 0 m q h4; simpa using this
            obtain ⟨hq1, hq2⟩ := HFB.out 4 p2 0 m q HP2.out h4
            have HEE := hide (HEU.out.trans HUD.out)
            have HQN := hide hq2
            simp only at HEE
            clear h4 hp2n hq1 hq2 HFB HFL
            by_cases hb1 : m < 55296 ∨ 57344 ≤ m
            · rw [if_pos hb1] at HEE
              have HU := hide (HUT.out m wr (by omega))
              have HE := hide (HOK.out m q)
              have hb1' : ((m : Int) < 55296) ∨ (¬ (m : Int) < 55296 ∧ (57343 : Int) < (m : Int)) := by omega
              clear hb1
              rcases hb1' with h1 | ⟨h1, h2⟩
              all_goals
                go_wp2_with (first
                  | (go_at_call 49; refine HF4.out.mono ?_; rintro ε wx ⟨rfl, hwx⟩; have hwy := hwx.symm; subst hwy; clear hwx)
                  | (go_at_call 50; refine HU.out.mono ?_; rintro ε w5 ⟨kk, rfl, hk5, hr5, hb5⟩; have HK5 := hide hk5; have HR5 := hide hr5; have HB5 := hide (HB.out.trans (hb5.mono HB.out.size)); clear hk5 hr5 hb5))
                try simp only [Exit.inBlock, Exit.then]
                refine bodyPost_ret (results_tmp4 rfl _ _ _) rfl ?_
                exact HE.out _ _ _ _ HEE.out HK5.out HR5.out HB5.out
            · rw [if_neg hb1] at HEE
              have h1 : ¬ (m : Int) < 55296 := by omega
              have h2 : ¬ (57343 : Int) < (m : Int) := by omega
              by_cases hb2 : 56320 ≤ m
              · rw [if_pos hb2] at HEE
                have h3 : (56319 : Int) < (m : Int) := by omega
                have HE := hide (HBD.out 43 p)
                clear hb1 hb2 hm
                go_wp2_with (first
                  | (go_at_call 49; refine HF4.out.mono ?_; rintro ε wx ⟨rfl, hwx⟩; have hwy := hwx.symm; subst hwy; clear hwx))
                try simp only [Exit.inBlock, Exit.then]
                refine bodyPost_ret (results_tmp4 rfl _ _ _) rfl ?_
                exact HE.out _ HEE.out HB.out
              · rw [if_neg hb2, HHD.out] at HEE
                have h3 : ¬ (56319 : Int) < (m : Int) := by omega
                have HM1 : Hid (55296 ≤ m) := hide (by omega)
                have HM2 : Hid (m < 56320) := hide (by omega)
                clear hb1 hb2 hm
                go_upto_region 19 with (first
                  | (go_at_call 49; refine HF4.out.mono ?_; rintro ε wx ⟨rfl, hwx⟩; have hwy := hwx.symm; subst hwy; clear hwx))
                have HNX := hide next_index
                go_upto_region 20 with fail
                rw [show ({ data := #[92, 117] } : ByteArray) = nextS from rfl]
                generalize nextS = NS at *
                generalize wr = w2 at *
                clear hwri hk8' HF4 hx HFX HTX hz8 h1 h2 h3 hu'
                go_wp2_with fail
                go_loopw [16] (fun a wr => ∃ j : Nat, a = .int .i64 (j : Int) ∧ j ≤ 2 ∧ Hid (Below w.heap.size w wr) ∧ Hid (∀ i, i < j → q + i < n ∧ bt l (q + i) = nextL.getD i 0)) (fun a _ => 2 - (intOf a).toNat)
                case atStart => exact ⟨0, rfl, by omega, HB, hide fun i hi => by omega⟩
                case round =>
                  obtain ⟨j, rfl, hj, HBJ, hrj⟩ := hrel
                  have hwrj : IntKind.i64.wrap ((j : Int) + 1) = ((j + 1 : Nat) : Int) := by rw [IntKind.wrap_i64]; omega
                  by_cases hj2 : j < 2
                  · have hj2' : (j : Int) < 2 := by omega
                    have hnj := HNX.out j hj2
                    have HJ := hide hj2
                    obtain ⟨qj, hqj⟩ : ∃ qj, qj = q + j := ⟨_, rfl⟩
                    have hqs : (q : Int) + (j : Int) = (qj : Int) := by omega
                    have hqw : IntKind.i64.wrap (qj : Int) = (qj : Int) := by have := HQN.out; have := HS.out; rw [IntKind.wrap_i64]; omega
                    have HQJ := hide hqj
                    clear hqj hj hj2
                    by_cases hlt : qj < n
                    · have hlt' : (qj : Int) < (n : Int) := by omega
                      have hge2 : ¬ (n : Int) ≤ (qj : Int) := by omega
                      have hxj : ∀ W, (Instr.index 9 (.string s) (.int .i64 (qj : Int))).run Tryz.prog W = .ok (.int .u8 ((bt l qj : Nat) : Int)) W := HIX.out qj hlt
                      by_cases hev : bt l qj = nextL.getD j 0
                      · have hev' : (((bt l qj : Nat) : Int) != ((nextL.getD j 0 : Nat) : Int)) = false := by rw [hev]; simp
                        have HNEW : Hid (∀ i, i < j + 1 → q + i < n ∧ bt l (q + i) = nextL.getD i 0) := hide fun i hi => by
                          rcases Nat.lt_succ_iff_lt_or_eq.1 hi with h | h
                          · exact hrj.out i h
                          · subst h; rw [← HQJ.out]; exact ⟨hlt, hev⟩
                        obtain ⟨f, hf⟩ : ∃ f, f = nextL.getD j 0 := ⟨_, rfl⟩
                        obtain ⟨t, ht⟩ : ∃ t, t = bt l qj := ⟨_, rfl⟩
                        rw [← hf] at hnj hev'
                        rw [← ht] at hxj hev'
                        clear hlt hev hf ht
                        go_wp2_with fail
                        go_quiet (fail)
                        have HBZ : Hid (Below w.heap.size w (wr.drewN nq)) := hide (below_drewN HBJ.out nq)
                        generalize wr.drewN nq = wz at *
                        go_wp2_with fail
                        go_roundw
                        case rel => exact ⟨j + 1, by first | rfl | simp, HJ.out, HBZ, HNEW⟩
                        case measure => have := HJ.out; simp [intOf]; omega
                      · have hev' : (((bt l qj : Nat) : Int) != ((nextL.getD j 0 : Nat) : Int)) = true := by simp only [bne_iff_ne, ne_eq]; exact fun e => hev (by exact_mod_cast e)
                        have HEF : Hid (EA = .error 43 p) := hide (by
                          have hq := HQJ.out
                          rcases (show j = 0 ∨ j = 1 by have := HJ.out; omega) with rfl | rfl
                          · rw [HEE.out, if_pos (by omega), if_neg (show ¬ bt l q = 92 by rw [Nat.add_zero] at hq; rw [← hq]; exact hev)]
                          · obtain ⟨g1, g2⟩ := hrj.out 0 (by omega)
                            rw [Nat.add_zero] at g1 g2
                            have g2 : bt l q = 92 := g2
                            rw [HEE.out, if_pos g1, if_pos g2, if_pos (by omega), if_neg (show ¬ bt l (q + 1) = 117 by rw [← hq]; exact hev)])
                        have HE := hide (HBD.out 43 p)
                        obtain ⟨f, hf⟩ : ∃ f, f = nextL.getD j 0 := ⟨_, rfl⟩
                        obtain ⟨t, ht⟩ : ∃ t, t = bt l qj := ⟨_, rfl⟩
                        rw [← hf] at hnj hev'
                        rw [← ht] at hxj hev'
                        clear hlt hev hf ht
                        go_wp2_with fail
                        go_quiet (fail)
                        have HBZ : Hid (Below w.heap.size w (wr.drewN nq)) := hide (below_drewN HBJ.out nq)
                        generalize wr.drewN nq = wz at *
                        go_wp2_with fail
                        try simp only [Exit.inBlock, Exit.then]
                        refine bodyPost_ret (results_tmp4 rfl _ _ _) rfl ?_
                        exact HE.out _ HEF.out HBZ.out
                    · have hlt' : ¬ (qj : Int) < (n : Int) := by omega
                      have hge2 : (n : Int) ≤ (qj : Int) := by omega
                      have HEF : Hid (EA = .error 3 n) := hide (by
                        have hq := HQJ.out
                        rcases (show j = 0 ∨ j = 1 by have := HJ.out; omega) with rfl | rfl
                        · rw [HEE.out, if_neg (by omega)]
                        · obtain ⟨g1, g2⟩ := hrj.out 0 (by omega)
                          rw [Nat.add_zero] at g1 g2
                          have g2 : bt l q = 92 := g2
                          rw [HEE.out, if_pos g1, if_pos g2, if_neg (by omega)])
                      have HE := hide (HBD.out 3 n)
                      clear hlt
                      go_wp2_with fail
                      try simp only [Exit.inBlock, Exit.then]
                      refine bodyPost_ret (results_tmp4 rfl _ _ _) rfl ?_
                      exact HE.out _ HEF.out HBJ.out
                  · have hj2' : ¬ (j : Int) < 2 := by omega
                    obtain ⟨g1, g2⟩ := hrj.out 0 (by omega)
                    obtain ⟨g3, g4⟩ := hrj.out 1 (by omega)
                    rw [Nat.add_zero] at g1 g2
                    have g2 : bt l q = 92 := g2
                    have g4 : bt l (q + 1) = 117 := g4
                    have hEX := HEE.out
                    rw [if_pos g1, if_pos g2, if_pos g3, if_pos g4] at hEX
                    obtain ⟨qq, hqq⟩ : ∃ qq, qq = q + 2 := ⟨_, rfl⟩
                    rw [← hqq] at hEX
                    have hqs : (q : Int) + 2 = (qq : Int) := by omega
                    have hqw : IntKind.i64.wrap (qq : Int) = (qq : Int) := by have := HS.out; rw [IntKind.wrap_i64]; omega
                    have HF5 := hide (HFO.out qq wr (by omega))
                    have hqn : qq ≤ n := by omega
                    clear hj hj2 g1 g2 g3 g4 hqq
                    cases h5 : fourAt l 4 qq 0 with
                    | error e q5 =>
                      rw [h5] at HF5 hEX
                      rw [show fourV (.error e q5) = .tuple #[.int .i64 0, .int .i64 0, .int .i64 (e : Int), .int .i64 (q5 : Int)] from rfl] at HF5
                      have he0 : e ≠ 0 := (HF0.out 4 qq 0 q5 e hqn h5).2.2.2.1
                      have he0' : ((e : Int) != 0) = true := by simp; omega
                      have HE := hide (HBD.out e q5)
                      have HEX := hide hEX
                      clear h5 he0 hEX hqn
                      go_wp2_with (go_at_call 49; refine HF5.out.mono ?_; rintro ε wx ⟨rfl, hwx⟩; have hwy := hwx.symm; subst hwy; clear hwx)
                      try simp only [Exit.inBlock, Exit.then]
                      refine bodyPost_ret (results_tmp4 rfl _ _ _) rfl ?_
                      exact HE.out _ HEX.out HBJ.out
                    | ok m2 q5 =>
                      rw [h5] at HF5 hEX
                      rw [show fourV (.ok m2 q5) = .tuple #[.int .i64 (m2 : Int), .int .i64 (q5 : Int), .int .i64 0, .int .i64 0] from rfl] at HF5
                      simp only at hEX
                      clear h5 hqn
                      by_cases hr2 : 56320 ≤ m2 ∧ m2 < 57344
                      · rw [if_pos hr2] at hEX
                        have h6 : ¬ (m2 : Int) < 56320 := by omega
                        have h7 : ¬ (57343 : Int) < (m2 : Int) := by omega
                        obtain ⟨r, hr⟩ : ∃ r, r = 65536 + 1024 * (m - 55296) + (m2 - 56320) := ⟨_, rfl⟩
                        obtain ⟨d1, hd1⟩ : ∃ d, d = m - 55296 := ⟨_, rfl⟩
                        have hm1 := HM1.out
                        have hm2 := HM2.out
                        have a1 : (m : Int) - 55296 = (d1 : Int) := by omega
                        have a2 : IntKind.i64.wrap (d1 : Int) = (d1 : Int) := by rw [IntKind.wrap_i64]; omega
                        obtain ⟨d2, hd2⟩ : ∃ d, d = 1024 * d1 := ⟨_, rfl⟩
                        have a3 : (1024 : Int) * (d1 : Int) = (d2 : Int) := by omega
                        have a4 : IntKind.i64.wrap (d2 : Int) = (d2 : Int) := by rw [IntKind.wrap_i64]; omega
                        obtain ⟨d3, hd3⟩ : ∃ d, d = 65536 + d2 := ⟨_, rfl⟩
                        have a5 : (65536 : Int) + (d2 : Int) = (d3 : Int) := by omega
                        have a6 : IntKind.i64.wrap (d3 : Int) = (d3 : Int) := by rw [IntKind.wrap_i64]; omega
                        obtain ⟨d4, hd4⟩ : ∃ d, d = d3 + m2 := ⟨_, rfl⟩
                        have a7 : (d3 : Int) + (m2 : Int) = (d4 : Int) := by omega
                        have a8 : IntKind.i64.wrap (d4 : Int) = (d4 : Int) := by rw [IntKind.wrap_i64]; omega
                        have a9 : (d4 : Int) - 56320 = (r : Int) := by omega
                        have a10 : IntKind.i64.wrap (r : Int) = (r : Int) := by rw [IntKind.wrap_i64]; omega
                        have HU := hide (HUT.out r wr (by omega))
                        have HE := hide (HOK.out r q5)
                        rw [← hr] at hEX
                        have HEX := hide hEX
                        clear hr2 hr hd1 hd2 hd3 hd4 hm1 hm2 hEX
                        go_wp2_with (first
                          | (go_at_call 49; refine HF5.out.mono ?_; rintro ε wx ⟨rfl, hwx⟩; have hwy := hwx.symm; subst hwy; clear hwx)
                          | (go_at_call 50; refine HU.out.mono ?_; rintro ε w5 ⟨kk, rfl, hk5, hr5, hb5⟩; have HK5 := hide hk5; have HR5 := hide hr5; have HB5 := hide (HBJ.out.trans (hb5.mono HBJ.out.size)); clear hk5 hr5 hb5))
                        try simp only [Exit.inBlock, Exit.then]
                        refine bodyPost_ret (results_tmp4 rfl _ _ _) rfl ?_
                        exact HE.out _ _ _ _ HEX.out HK5.out HR5.out HB5.out
                      · rw [if_neg hr2] at hEX
                        have HE := hide (HBD.out 43 p)
                        have HEX := hide hEX
                        have hb1' : ((m2 : Int) < 56320) ∨ (¬ (m2 : Int) < 56320 ∧ (57343 : Int) < (m2 : Int)) := by omega
                        clear hr2 hEX
                        rcases hb1' with h6 | ⟨h6, h7⟩
                        all_goals
                          go_wp2_with (first
                            | (go_at_call 49; refine HF5.out.mono ?_; rintro ε wx ⟨rfl, hwx⟩; have hwy := hwx.symm; subst hwy; clear hwx))
                          try simp only [Exit.inBlock, Exit.then]
                          refine bodyPost_ret (results_tmp4 rfl _ _ _) rfl ?_
                          exact HE.out _ HEX.out HBJ.out
        · have hu' : ((c : Int) != 117) = true := by simp; omega
          have HE := hide (HBD.out 42 p1)
          have HN4 := hide (HNO.out HIN.out HSN.out hu)
          clear hu
          go_wp2_with fail
          try simp only [Exit.inBlock, Exit.then]
          refine bodyPost_ret (results_tmp4 rfl _ _ _) rfl ?_
          exact HE.out _ HN4.out HB.out
  · have hin' : (n : Int) ≤ ((p + 1 : Nat) : Int) := by omega
    have hlt' : ¬ ((p + 1 : Nat) : Int) < (n : Int) := by omega
    have HE := hide (HBD.out 3 n w (HSH.out hin) (Below.refl _ _))
    clear hin hix
    generalize p + 1 = p1 at *
    go_enter Tryz.func33, Tryz.ntmps33
    go_wp2_with fail
    try simp only [Exit.inBlock, Exit.then]
    refine bodyPost_ret (results_tmp4 rfl _ _ _) rfl ?_
    exact HE.out
end Go.Proofs.YtlebockgdonceaaGreatDoor
