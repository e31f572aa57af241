/- The document's blanks, hex, four, Utf. -/
import Derived.Test.YtlebockgdonceaaGreatDoorKBase
import Derived.Test.YtlebockgdonceaaGreatDoorKMath
namespace Go.Proofs.YtlebockgdonceaaGreatDoor
open Go.RowKit

theorem bt_lt (s : ByteArray) (p : Nat) : bt (sbytes s) p < 256 := lt_get (sbytes_lt s) p
set_option maxHeartbeats 1000000 in
set_option maxRecDepth 100000 in
theorem rblanks_any (s : ByteArray) (p : Nat) (w : World) (hp : p ≤ s.size) (hs : s.size ≤ 16384) : Calls Tryz.prog 11 #[.string s, .int .i64 (p : Int)] w fun e w' => e = .returned (.int .i64 ((skip (sbytes s) p : Nat) : Int)) ∧ w' = w := by
  have hsl := sbytes_length s
  have hix := str_index s
  have HST := hide (fun p => @skip_step (sbytes s) p)
  have HSP := hide (fun p => @skip_stop (sbytes s) p)
  have HSE := hide (fun p => @skip_end (sbytes s) p)
  rw [hsl] at HST HSE
  have HS := hide hs
  have HP := hide hp
  obtain ⟨R, hR⟩ : ∃ R, R = skip (sbytes s) p := ⟨_, rfl⟩
  rw [← hR]
  have HR := hide hR.symm
  generalize sbytes s = l at *
  generalize hn : s.size = n at *
  clear hsl hs hp hR
  go_enter Tryz.func11, Tryz.ntmps11
  go_wp2_with fail
  go_loopw [1] (fun a wr => ∃ q : Nat, a = .int .i64 (q : Int) ∧ wr = w ∧ q ≤ n ∧ Hid (skip l q = R)) (fun a _ => n - (intOf a).toNat)
  case atStart => exact ⟨p, rfl, by first | exact rfl | trivial, HP.out, HR⟩
  case round =>
    obtain ⟨q, rfl, rfl, hq, hr⟩ := hrel
    by_cases hin : q < n
    · have hin' : (q : Int) < (n : Int) := by omega
      have hx : ∀ W, (Instr.index 9 (.string s) (.int .i64 (q : Int))).run Tryz.prog W = .ok (.int .u8 ((bt l q : Nat) : Int)) W := hix q hin
      have hwri : IntKind.i64.wrap ((q : Int) + 1) = ((q + 1 : Nat) : Int) := by have := HS.out; rw [IntKind.wrap_i64]; omega
      have HIN := hide hin
      clear hq hin hix
      cases hb : isBlank (bt l q) with
      | true =>
        have HN := hide ((HST.out q HIN.out hb).symm.trans hr.out)
        have hc : bt l q = 32 ∨ bt l q = 9 ∨ bt l q = 10 ∨ bt l q = 13 := by simpa [isBlank, or_assoc] using hb
        clear hb
        generalize bt l q = c at *
        rcases hc with rfl | rfl | rfl | rfl
        all_goals
          go_wp2_with fail
          go_roundw
          case rel => exact ⟨q + 1, by first | rfl | simp, by first | exact rfl | trivial, HIN.out, HN⟩
          case measure => have := HIN.out; simp [intOf]; omega
      | false =>
        have HN := hide ((HSP.out q hb).symm.trans hr.out)
        have hc : bt l q ≠ 32 ∧ bt l q ≠ 9 ∧ bt l q ≠ 10 ∧ bt l q ≠ 13 := by simpa [isBlank, not_or, and_assoc] using hb
        clear hb
        generalize bt l q = c at *
        have e1 : ((c : Int) == 32) = false := by simp; omega
        have e2 : ((c : Int) == 9) = false := by simp; omega
        have e3 : ((c : Int) == 10) = false := by simp; omega
        have e4 : ((c : Int) == 13) = false := by simp; omega
        clear hc
        go_wp2_with fail
        go_ret
        exact ⟨by rw [← HN.out]; rfl, rfl⟩
    · have hin' : ¬ (q : Int) < (n : Int) := by omega
      have HN := hide ((HSE.out q (by omega)).symm.trans hr.out)
      clear hq hin hix
      go_wp2_with fail
      go_ret
      exact ⟨by rw [← HN.out]; rfl, rfl⟩
def hexZ (c : Nat) : Int := match hexv c with
  | some d => (d : Int)
  | none => -1
set_option maxRecDepth 100000 in
theorem rhex_any (c : Nat) (w : World) (hc : c < 256) : Calls Tryz.prog 65 #[.int .u8 (c : Int)] w fun e w' => e = .returned (.int .i64 (hexZ c)) ∧ w' = w := by
  by_cases h1 : 48 ≤ c ∧ c ≤ 57
  · have e : hexZ c = (c : Int) - 48 := by unfold hexZ hexv; rw [if_pos h1]; simp; omega
    rw [e]
    have a1 : (48 : Int) ≤ (c : Int) := by omega
    have a2 : (c : Int) ≤ 57 := by omega
    have a3 : IntKind.u8.wrap ((c : Int) - 48) = (c : Int) - 48 := by rw [IntKind.wrap_u8]; omega
    clear h1 e
    go_enter Tryz.func65, Tryz.ntmps65
    go_wp2
    go_ret
    exact ⟨rfl, rfl⟩
  · by_cases h2 : 97 ≤ c ∧ c ≤ 102
    · have e : hexZ c = (c : Int) - 87 := by unfold hexZ hexv; rw [if_neg h1, if_pos h2]; simp; omega
      rw [e]
      have a1 : (48 : Int) ≤ (c : Int) := by omega
      have a2 : ¬ (c : Int) ≤ 57 := by omega
      have a4 : (97 : Int) ≤ (c : Int) := by omega
      have a5 : (c : Int) ≤ 102 := by omega
      have a3 : IntKind.u8.wrap ((c : Int) - 97) = (c : Int) - 97 := by rw [IntKind.wrap_u8]; omega
      have a6 : (c : Int) - 97 + 10 = (c : Int) - 87 := by omega
      have a7 : IntKind.i64.wrap ((c : Int) - 87) = (c : Int) - 87 := by rw [IntKind.wrap_i64]; omega
      clear h1 h2 e
      go_enter Tryz.func65, Tryz.ntmps65
      go_wp2
      go_ret
      exact ⟨by first | rfl | (congr 2; omega), rfl⟩
    · by_cases h3 : 65 ≤ c ∧ c ≤ 70
      · have e : hexZ c = (c : Int) - 55 := by unfold hexZ hexv; rw [if_neg h1, if_neg h2, if_pos h3]; simp; omega
        rw [e]
        have a1 : (48 : Int) ≤ (c : Int) := by omega
        have a2 : ¬ (c : Int) ≤ 57 := by omega
        have a4 : ¬ (97 : Int) ≤ (c : Int) := by omega
        have a5 : (65 : Int) ≤ (c : Int) := by omega
        have a6 : (c : Int) ≤ 70 := by omega
        have a3 : IntKind.u8.wrap ((c : Int) - 65) = (c : Int) - 65 := by rw [IntKind.wrap_u8]; omega
        have a7 : (c : Int) - 65 + 10 = (c : Int) - 55 := by omega
        have a8 : IntKind.i64.wrap ((c : Int) - 55) = (c : Int) - 55 := by rw [IntKind.wrap_i64]; omega
        clear h1 h2 h3 e
        go_enter Tryz.func65, Tryz.ntmps65
        go_wp2
        go_ret
        exact ⟨by first | rfl | (congr 2; omega), rfl⟩
      · have e : hexZ c = -1 := by unfold hexZ hexv; rw [if_neg h1, if_neg h2, if_neg h3]
        rw [e]
        have a1 : ¬ ((48 : Int) ≤ (c : Int) ∧ (c : Int) ≤ 57) := by omega
        have a2 : ¬ ((97 : Int) ≤ (c : Int) ∧ (c : Int) ≤ 102) := by omega
        have a3 : ¬ ((65 : Int) ≤ (c : Int) ∧ (c : Int) ≤ 70) := by omega
        clear h1 h2 h3 e
        rcases Nat.lt_or_ge c 48 with h | h
        · have b1 : ¬ (48 : Int) ≤ (c : Int) := by omega
          have b2 : ¬ (97 : Int) ≤ (c : Int) := by omega
          have b3 : ¬ (65 : Int) ≤ (c : Int) := by omega
          clear a1 a2 a3 h
          go_enter Tryz.func65, Tryz.ntmps65
          go_wp2
          go_ret
          exact ⟨rfl, rfl⟩
        rcases Nat.lt_or_ge c 65 with h' | h'
        · have b1 : (48 : Int) ≤ (c : Int) := by omega
          have b1' : ¬ (c : Int) ≤ 57 := by omega
          have b2 : ¬ (97 : Int) ≤ (c : Int) := by omega
          have b3 : ¬ (65 : Int) ≤ (c : Int) := by omega
          clear a1 a2 a3 h h'
          go_enter Tryz.func65, Tryz.ntmps65
          go_wp2
          go_ret
          exact ⟨rfl, rfl⟩
        rcases Nat.lt_or_ge c 97 with h'' | h''
        · have b1 : (48 : Int) ≤ (c : Int) := by omega
          have b1' : ¬ (c : Int) ≤ 57 := by omega
          have b2 : ¬ (97 : Int) ≤ (c : Int) := by omega
          have b3 : (65 : Int) ≤ (c : Int) := by omega
          have b3' : ¬ (c : Int) ≤ 70 := by omega
          clear a1 a2 a3 h h' h''
          go_enter Tryz.func65, Tryz.ntmps65
          go_wp2
          go_ret
          exact ⟨rfl, rfl⟩
        · have b1 : (48 : Int) ≤ (c : Int) := by omega
          have b1' : ¬ (c : Int) ≤ 57 := by omega
          have b2 : (97 : Int) ≤ (c : Int) := by omega
          have b2' : ¬ (c : Int) ≤ 102 := by omega
          have b3 : (65 : Int) ≤ (c : Int) := by omega
          have b3' : ¬ (c : Int) ≤ 70 := by omega
          clear a1 a2 a3 h h' h''
          go_enter Tryz.func65, Tryz.ntmps65
          go_wp2
          go_ret
          exact ⟨rfl, rfl⟩
theorem results_tmp4 {fn : Func} {t u v x : Tmp} (h : fn.results = #[.tmp t, .tmp u, .tmp v, .tmp x]) (tmps : Array Value) (P : Program) (w : World) :
    (results fn tmps).run P w = .ok (.tuple #[tmps.getD t undef, tmps.getD u undef, tmps.getD v undef, tmps.getD x undef]) w := by
  simp [results, h]
/-- What four answers. -/
def fourV (o : Out Nat) : Value := match o with
  | .ok n q => .tuple #[.int .i64 (n : Int), .int .i64 (q : Int), .int .i64 0, .int .i64 0]
  | .error e q => .tuple #[.int .i64 0, .int .i64 0, .int .i64 (e : Int), .int .i64 (q : Int)]
theorem four_step {s : By} {k p n : Nat} (h : p < s.length) : fourAt s (k + 1) p n = match hexv (bt s p) with
    | some d => fourAt s k (p + 1) (16 * n + d)
    | none => .error 42 p := by rw [fourAt, if_pos h]; rfl
theorem four_end {s : By} {k p n : Nat} (h : ¬ p < s.length) : fourAt s (k + 1) p n = .error 3 s.length := by rw [fourAt, if_neg h]
theorem rp_hexv_lt {c d : Nat} (h : hexv c = some d) : d < 16 := by
  unfold hexv at h
  split at h
  · have := Option.some.inj h; omega
  · split at h
    · have := Option.some.inj h; omega
    · split at h
      · have := Option.some.inj h; omega
      · cases h
set_option maxHeartbeats 1000000 in
set_option maxRecDepth 100000 in
theorem rfour_any (s : ByteArray) (p : Nat) (w : World) (hp : p ≤ s.size + 2) (hs : s.size ≤ 16384) : Calls Tryz.prog 49 #[.string s, .int .i64 (p : Int)] w fun e w' => e = .returned (fourV (fourAt (sbytes s) 4 p 0)) ∧ w' = w := by
  have hsl := sbytes_length s
  have hix := str_index s
  have HF := hide (fun k p n => @four_step (sbytes s) k p n)
  have HE := hide (fun k p n => @four_end (sbytes s) k p n)
  rw [hsl] at HF HE
  have HC := hide (bt_lt s)
  have HS := hide hs
  have HP := hide hp
  have HX := hide rhex_any
  obtain ⟨R, hR⟩ : ∃ R, R = fourAt (sbytes s) 4 p 0 := ⟨_, rfl⟩
  rw [← hR]
  have HR := hide hR.symm
  generalize sbytes s = l at *
  generalize hn : s.size = n at *
  have hp4 : IntKind.i64.wrap ((p : Int) + 4) = ((p + 4 : Nat) : Int) := by rw [IntKind.wrap_i64]; omega
  clear hsl hs hp hR
  go_enter Tryz.func49, Tryz.ntmps49
  go_wp2_with fail
  go_loopw [8, 9] (fun a b wr => ∃ m j : Nat, a = .int .i64 (m : Int) ∧ b = .int .i64 ((p + j : Nat) : Int) ∧ wr = w ∧ j ≤ 4 ∧ m < 65536 ∧ Hid (m < 16 ^ j ∧ fourAt l (4 - j) (p + j) m = R)) (fun _ b _ => p + 4 - (intOf b).toNat)
  case atStart => exact ⟨0, 0, rfl, rfl, by first | exact rfl | trivial, by omega, by omega, hide ⟨by decide, HR.out⟩⟩
  case round =>
    obtain ⟨m, j, rfl, rfl, rfl, hj, hm, hr⟩ := hrel
    by_cases hj4 : j < 4
    · have hj4' : ((p + j : Nat) : Int) < ((p + 4 : Nat) : Int) := by omega
      have HJ := hide hj4
      have hwri : IntKind.i64.wrap (((p + j : Nat) : Int) + 1) = ((p + (j + 1) : Nat) : Int) := by have := HS.out; have := HP.out; rw [IntKind.wrap_i64]; omega
      have HR4 : Hid (fourAt l ((3 - j) + 1) (p + j) m = R) := hide (by rw [show 3 - j + 1 = 4 - j by omega]; exact hr.out.2)
      by_cases hin : p + j < n
      · have hin' : ((p + j : Nat) : Int) < (n : Int) := by omega
        have hx : ∀ W, (Instr.index 9 (.string s) (.int .i64 ((p + j : Nat) : Int))).run Tryz.prog W = .ok (.int .u8 ((bt l (p + j) : Nat) : Int)) W := hix (p + j) hin
        have HXX := hide (HX.out (bt l (p + j)) wr (HC.out _))
        have hR5 := HR4.out
        rw [HF.out _ _ _ hin] at hR5
        have hmj := hr.out.1
        clear hr HR4 hin hix
        cases hv : hexv (bt l (p + j)) with
        | none =>
          rw [hv] at hR5
          have HE5 := hide hR5.symm
          rw [show hexZ (bt l (p + j)) = -1 by unfold hexZ; rw [hv]] at HXX
          clear hv hR5
          generalize bt l (p + j) = c at *
          generalize p + j = q at *
          go_wp2_with (go_at_call 65; refine HXX.out.mono ?_; rintro e wx ⟨rfl, hwx⟩; have hwy := hwx.symm; subst hwy; clear hwx)
          try simp only [Exit.inBlock, Exit.then]
          refine bodyPost_ret (results_tmp4 rfl _ _ _) rfl ?_
          rw [HE5.out]
          exact ⟨rfl, rfl⟩
        | some d =>
          rw [hv] at hR5
          simp only at hR5
          have hd := rp_hexv_lt hv
          rw [show hexZ (bt l (p + j)) = (d : Int) by unfold hexZ; rw [hv]] at HXX
          have hpow : 16 ^ (j + 1) = 16 * 16 ^ j := by rw [Nat.pow_succ]; omega
          have hp16 : 16 ^ (j + 1) ≤ 16 ^ 4 := Nat.pow_le_pow_right (by omega) (by omega)
          obtain ⟨m', hm'⟩ : ∃ m', m' = 16 * m + d := ⟨_, rfl⟩
          rw [← hm'] at hR5
          have hm2 : m' < 16 ^ (j + 1) := by omega
          have hm3 : m' < 65536 := by have : (16 : Nat) ^ 4 = 65536 := by decide
                                      omega
          have hmm : (16 : Int) * (m : Int) + (d : Int) = (m' : Int) := by omega
          have hw1 : IntKind.i64.wrap (16 * (m : Int)) = 16 * (m : Int) := by rw [IntKind.wrap_i64]; omega
          have hw2 : IntKind.i64.wrap (m' : Int) = (m' : Int) := by rw [IntKind.wrap_i64]; omega
          have hd0 : ¬ (d : Int) < 0 := by omega
          have HNEW : Hid (m' < 16 ^ (j + 1) ∧ fourAt l (4 - (j + 1)) (p + (j + 1)) m' = R) := hide ⟨hm2, by rw [show 4 - (j + 1) = 3 - j by omega, show p + (j + 1) = p + j + 1 by omega]; exact hR5⟩
          have HM3 := hide hm3
          clear hv hR5 hmj hpow hp16 hm' hm2 hm3 hm hd hj hj4
          generalize bt l (p + j) = c at *
          generalize hq1 : p + (j + 1) = q1 at *
          generalize hq : p + j = q at *
          have HQ1 := hide hq1
          have HQ := hide hq
          clear hq1 hq
          go_wp2_with (go_at_call 65; refine HXX.out.mono ?_; rintro e wx ⟨rfl, hwx⟩; have hwy := hwx.symm; subst hwy; clear hwx)
          go_roundw
          case rel => exact ⟨m', j + 1, by first | rfl | simp, by rw [HQ1.out], by first | exact rfl | trivial, HJ.out, HM3.out, by rw [HQ1.out]; exact HNEW⟩
          case measure => have := HQ1.out; have := HQ.out; have := HJ.out; simp [intOf]; omega
      · have hin' : ¬ ((p + j : Nat) : Int) < (n : Int) := by omega
        have hle' : (n : Int) ≤ ((p + j : Nat) : Int) := by omega
        have hR5 := HR4.out
        rw [HE.out _ _ _ hin] at hR5
        have HE5 := hide hR5.symm
        clear hr HR4 hin hix hR5 hm hj hj4
        generalize p + j = q at *
        go_wp2_with fail
        try simp only [Exit.inBlock, Exit.then]
        refine bodyPost_ret (results_tmp4 rfl _ _ _) rfl ?_
        rw [HE5.out]
        exact ⟨rfl, rfl⟩
    · have hj4' : ¬ ((p + j : Nat) : Int) < ((p + 4 : Nat) : Int) := by omega
      obtain rfl : j = 4 := by omega
      have hR5 := hr.out.2
      rw [Nat.sub_self, fourAt] at hR5
      have HE5 := hide hR5.symm
      clear hr hR5 hj hj4 hix
      generalize p + 4 = q at *
      go_wp2_with fail
      try simp only [Exit.inBlock, Exit.then]
      refine bodyPost_ret (results_tmp4 rfl _ _ _) rfl ?_
      rw [HE5.out]
      exact ⟨rfl, rfl⟩
end Go.Proofs.YtlebockgdonceaaGreatDoor
