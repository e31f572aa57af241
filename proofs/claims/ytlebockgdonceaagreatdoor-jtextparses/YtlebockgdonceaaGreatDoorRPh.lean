/- The document's number. -/
import Derived.Test.YtlebockgdonceaaGreatDoorRPg
import Derived.Test.YtlebockgdonceaaGreatDoorRLit2
namespace Go.Proofs.YtlebockgdonceaaGreatDoor
open Go.RowKit

/-- What number answers. -/
def NmAns (o : Out By) (w : World) (ε : Ending) (w' : World) : Prop := match o with
  | .ok t q => ε = .returned (gotV 3 (bstr t) (.slice none 0 0) (.slice none 0 0) q 0 0) ∧ (∀ x ∈ t, x < 256) ∧ Below w.heap.size w w'
  | .error e q => ε = .returned (badV e q) ∧ Below w.heap.size w w'
theorem nm_ok {o : Out By} {t : By} {q : Nat} {w w' : World} (h : o = .ok t q) (ht : ∀ x ∈ t, x < 256) (hb : Below w.heap.size w w') : NmAns o w (.returned (gotV 3 (bstr t) (.slice none 0 0) (.slice none 0 0) q 0 0)) w' := by
  rw [h]; exact ⟨rfl, ht, hb⟩
theorem nm_bad {o : Out By} {e q : Nat} {w w' : World} (h : o = .error e q) (hb : Below w.heap.size w w') : NmAns o w (.returned (badV e q)) w' := by
  rw [h]; exact ⟨rfl, hb⟩
/-- Where number stands. -/
def NI (l : By) (p st q : Nat) : Prop := p ≤ q ∧ litRun 0 (l.drop p) = ((q - p) + (litRun st (l.drop q)).1, (litRun st (l.drop q)).2)
theorem litStep_8 {st c st' : Nat} (h : litStep st c = some st') : st' ≤ 8 := by
  unfold litStep at h
  repeat' split at h
  all_goals first
    | (have := Option.some.inj h; omega)
    | cases h
theorem NI.next {l : By} {p st st' q : Nat} (h : NI l p st q) (hq : q < l.length) (hs : litStep st (bt l q) = some st') : NI l p st' (q + 1) := by
  refine ⟨by have := h.1; omega, ?_⟩
  have h2 := h.2
  rw [drop_bt hq, litRun_some hs] at h2
  rw [h2]
  have := h.1
  simp only [Prod.mk.injEq, and_true]
  omega
theorem NI.stop {l : By} {p st q : Nat} (h : NI l p st q) (hs : q < l.length → litStep st (bt l q) = none) (hl : q ≤ l.length) : litRun 0 (l.drop p) = (q - p, st) := by
  have h2 := h.2
  by_cases hq : q < l.length
  · rw [drop_bt hq, litRun_none (hs hq)] at h2
    exact h2
  · have e : l.drop q = [] := List.drop_eq_nil_of_le (by omega)
    rw [e] at h2
    exact h2
set_option maxHeartbeats 1000000 in
set_option maxRecDepth 100000 in
theorem rnumber_any (s : ByteArray) (p : Nat) (w : World) (hp : p ≤ s.size) (hs : s.size ≤ 16384) : Calls Tryz.prog 18 #[.string s, .int .i64 (p : Int)] w fun ε w' => NmAns (numAt (sbytes s) p) w ε w' := by
  have hsl := sbytes_length s
  have hix := str_index s
  have HOK := hide (fun t q w' => @nm_ok (numAt (sbytes s) p) t q w w')
  have HBD := hide (fun e q w' => @nm_bad (numAt (sbytes s) p) e q w w')
  have HBA := hide rbad_any
  have HST := hide step_any
  have HDN := hide done_any
  have HBL := hide (bt_lt s)
  have HMID := hide (fun a b h1 h2 => str_mid s a b (a : Int) (b : Int) rfl rfl h1 h2)
  have HSL := hide (sbytes_lt s)
  have HS := hide hs
  have HP := hide hp
  have HNU : Hid (numAt (sbytes s) p = if litDone (litRun 0 ((sbytes s).drop p)).2 = true then .ok (((sbytes s).drop p).take (litRun 0 ((sbytes s).drop p)).1) (p + (litRun 0 ((sbytes s).drop p)).1)
    else if p + (litRun 0 ((sbytes s).drop p)).1 < (sbytes s).length then .error 44 (p + (litRun 0 ((sbytes s).drop p)).1) else .error 3 (sbytes s).length) := hide rfl
  have HGN := hide (GZ.new w)
  have HBN := hide (below_new w (.cells #[.int .i64 0, .string { data := #[] }, .slice none 0 0, .slice none 0 0, .int .i64 0, .int .i64 0, .int .i64 0] 41))
  generalize numAt (sbytes s) p = R at *
  generalize sbytes s = l at *
  have HLL := hide hsl
  rw [hsl] at HNU
  generalize hn : s.size = n at *
  clear hsl hs hp
  go_enter Tryz.func18, Tryz.ntmps18
  go_upto_region 1 with fail
  obtain ⟨w1, hw1e⟩ : ∃ x, x = w.alloc (.cells #[.int .i64 0, .string { data := #[] }, .slice none 0 0, .slice none 0 0, .int .i64 0, .int .i64 0, .int .i64 0] 41) := ⟨_, rfl⟩
  rw [← hw1e] at HGN HBN ⊢
  obtain ⟨N, hN⟩ : ∃ N, N = w.heap.size := ⟨_, rfl⟩
  have HNW := hide hN
  rw [← hN] at HGN ⊢
  clear hw1e hN
  go_wp2_with fail
  go_loopw [5, 6] (fun a b wr => ∃ st q : Nat, a = .int .i64 (st : Int) ∧ b = .int .i64 (q : Int) ∧ wr = w1 ∧ st ≤ 8 ∧ q ≤ n ∧ Hid (NI l p st q)) (fun _ b _ => n - (intOf b).toNat)
  case atStart => exact ⟨0, p, rfl, rfl, by first | exact rfl | trivial, by omega, HP.out, hide ⟨Nat.le_refl _, by simp⟩⟩
  case round =>
    obtain ⟨st, q, rfl, rfl, rfl, hst, hq, hr⟩ := hrel
    have hwrq : IntKind.i64.wrap ((q : Int) + 1) = ((q + 1 : Nat) : Int) := by have := HS.out; rw [IntKind.wrap_i64]; omega
    have HST8 := hide hst
    have HQN := hide hq
    suffices hfin : ∀ (hs : q < n → litStep st (bt l q) = none), R = (if litDone st = true then .ok ((l.drop p).take (q - p)) q else if q < n then .error 44 q else .error 3 n) by
      have HFIN := hide hfin
      clear hfin
      by_cases hin : q < n
      · have hin' : (q : Int) < (n : Int) := by omega
        have hx : ∀ W, (Instr.index 9 (.string s) (.int .i64 (q : Int))).run Tryz.prog W = .ok (.int .u8 ((bt l q : Nat) : Int)) W := hix q hin
        have HSQ := hide (HST.out st (bt l q) hst (HBL.out q))
        have HIN := hide hin
        cases hls : litStep st (bt l q) with
        | some st' =>
          have HNX := hide (hr.out.next (by have := HLL.out; omega) hls)
          have HST' := hide (litStep_8 hls)
          rw [show stepZ st (bt l q) = (st' : Int) by unfold stepZ; rw [hls]] at HSQ
          have hge : ¬ (st' : Int) < 0 := by omega
          have hge2 : (0 : Int) ≤ (st' : Int) := by omega
          clear hls hin hq hst hix HFIN
          generalize bt l q = c at *
          go_wp2_with (go_at_call 31; refine (HSQ.out _).mono ?_; rintro ε wx ⟨rfl, hwx⟩; have hwy := hwx.symm; subst hwy; clear hwx)
          go_roundw
          case rel => exact ⟨st', q + 1, by first | rfl | simp, by first | rfl | simp, by first | exact rfl | trivial, HST'.out, HIN.out, HNX⟩
          case measure => have := HIN.out; simp [intOf]; omega
        | none =>
          rw [show stepZ st (bt l q) = -1 by unfold stepZ; rw [hls]] at HSQ
          have hR := HFIN.out (fun _ => hls)
          have hqe : ((q : Int) == (n : Int)) = false := by simp; omega
          clear hls hin hq hst hix HFIN
          have HDQ := hide (HDN.out st HST8.out)
          cases hdn : litDone st with
          | true =>
            rw [hdn, if_pos rfl] at hR
            rw [hdn] at HDQ
            have HRR := hide hR
            have hmid := HMID.out p q hr.out.1 HQN.out
            rw [List.drop_take] at hmid
            have HE := hide (HOK.out ((l.drop p).take (q - p)) q)
            have HTB := hide (lt_take (lt_drop HSL.out p) (q - p))
            obtain ⟨⟨c0, c1, c2, c3, c4, c5, c6⟩, f0, f1, f2, f3, f4, f5, f6⟩ := HGN.out.facts
            unfold gotV at HE
            clear hR hdn
            generalize (l.drop p).take (q - p) = ts at *
            generalize bstr ts = TS at *
            generalize bt l q = c at *
            go_wp2_with (first | (go_at_call 31; refine (HSQ.out _).mono ?_; rintro ε wx ⟨rfl, hwx⟩; have hwy := hwx.symm; subst hwy; clear hwx) | (go_at_call 32; refine (HDQ.out _).mono ?_; rintro ε wx ⟨rfl, hwx⟩; have hwy := hwx.symm; subst hwy; clear hwx))
            refine bodyPost_ret (got_results rfl rfl (putG_bl HGN.out _ _ _ _ _ _ _)) rfl ?_
            exact HE.out _ HRR.out HTB.out (HBN.out.trans ((putG_but wr N _ _ _ _ _ _ _).below (by have := HNW.out; omega) HBN.out.size))
          | false =>
            rw [hdn, if_neg (by simp), if_pos HIN.out] at hR
            rw [hdn] at HDQ
            have HB3 := hide (HBA.out 44 q)
            have HE := hide (HBD.out 44 q)
            have HRR := hide hR
            unfold badV gotV at HB3 HE
            clear hR hdn
            generalize bt l q = c at *
            go_wp2_with (first | (go_at_call 31; refine (HSQ.out _).mono ?_; rintro ε wx ⟨rfl, hwx⟩; have hwy := hwx.symm; subst hwy; clear hwx) | (go_at_call 32; refine (HDQ.out _).mono ?_; rintro ε wx ⟨rfl, hwx⟩; have hwy := hwx.symm; subst hwy; clear hwx) | (go_at_call 16; refine (HB3.out _).mono ?_; rintro ε w5 ⟨rfl, h5⟩; have HG5 := hide (HGN.out.keep h5); have H5 := hide (HBN.out.trans (h5.mono HBN.out.size)); obtain ⟨⟨c0, c1, c2, c3, c4, c5, c6⟩, f0, f1, f2, f3, f4, f5, f6⟩ := HG5.out.facts; clear h5))
            refine bodyPost_ret (got_results rfl rfl (putG_bl HG5.out _ _ _ _ _ _ _)) rfl ?_
            exact HE.out _ HRR.out (H5.out.trans ((putG_but w5 N _ _ _ _ _ _ _).below (by have := HNW.out; omega) H5.out.size))
      · have hin' : ¬ (q : Int) < (n : Int) := by omega
        have hR := HFIN.out (fun h => absurd h hin)
        obtain rfl : q = n := by omega
        clear hq hst hix HFIN
        have HDQ := hide (HDN.out st HST8.out)
        cases hdn : litDone st with
        | true =>
          rw [hdn, if_pos rfl] at hR
          rw [hdn] at HDQ
          have HRR := hide hR
          have hmid := HMID.out p q hr.out.1 HQN.out
          rw [List.drop_take] at hmid
          have HE := hide (HOK.out ((l.drop p).take (q - p)) q)
          have HTB := hide (lt_take (lt_drop HSL.out p) (q - p))
          obtain ⟨⟨c0, c1, c2, c3, c4, c5, c6⟩, f0, f1, f2, f3, f4, f5, f6⟩ := HGN.out.facts
          unfold gotV at HE
          clear hR hdn
          generalize (l.drop p).take (q - p) = ts at *
          generalize bstr ts = TS at *
          go_wp2_with (go_at_call 32; refine (HDQ.out _).mono ?_; rintro ε wx ⟨rfl, hwx⟩; have hwy := hwx.symm; subst hwy; clear hwx)
          refine bodyPost_ret (got_results rfl rfl (putG_bl HGN.out _ _ _ _ _ _ _)) rfl ?_
          exact HE.out _ HRR.out HTB.out (HBN.out.trans ((putG_but wr N _ _ _ _ _ _ _).below (by have := HNW.out; omega) HBN.out.size))
        | false =>
          rw [hdn, if_neg (by simp), if_neg (by omega)] at hR
          rw [hdn] at HDQ
          have HB3 := hide (HBA.out 3 q)
          have HE := hide (HBD.out 3 q)
          have HRR := hide hR
          unfold badV gotV at HB3 HE
          clear hR hdn
          go_wp2_with (first | fail | (go_at_call 32; refine (HDQ.out _).mono ?_; rintro ε wx ⟨rfl, hwx⟩; have hwy := hwx.symm; subst hwy; clear hwx) | (go_at_call 16; refine (HB3.out _).mono ?_; rintro ε w5 ⟨rfl, h5⟩; have HG5 := hide (HGN.out.keep h5); have H5 := hide (HBN.out.trans (h5.mono HBN.out.size)); obtain ⟨⟨c0, c1, c2, c3, c4, c5, c6⟩, f0, f1, f2, f3, f4, f5, f6⟩ := HG5.out.facts; clear h5))
          refine bodyPost_ret (got_results rfl rfl (putG_bl HG5.out _ _ _ _ _ _ _)) rfl ?_
          exact HE.out _ HRR.out (H5.out.trans ((putG_but w5 N _ _ _ _ _ _ _).below (by have := HNW.out; omega) H5.out.size))
    intro hs
    have h0 := hr.out.stop (by rw [HLL.out]; exact hs) (by rw [HLL.out]; exact hq)
    have hpq := hr.out.1
    rw [HNU.out, h0]
    simp only
    rw [show p + (q - p) = q by omega]
end Go.Proofs.YtlebockgdonceaaGreatDoor
