/- The document's word and number. -/
import Derived.Test.YtlebockgdonceaaGreatDoorRPf
namespace Go.Proofs.YtlebockgdonceaaGreatDoor
open Go.RowKit

/-- What word answers. -/
def WdAns (k : Int) (o : Out Unit) (w : World) (ε : Ending) (w' : World) : Prop := match o with
  | .ok _ q => ε = .returned (gotV k { data := #[] } (.slice none 0 0) (.slice none 0 0) q 0 0) ∧ Below w.heap.size w w'
  | .error e q => ε = .returned (badV e q) ∧ Below w.heap.size w w'
theorem wd_ok {k : Int} {o : Out Unit} {q : Nat} {w w' : World} (h : o = .ok () q) (hb : Below w.heap.size w w') : WdAns k o w (.returned (gotV k { data := #[] } (.slice none 0 0) (.slice none 0 0) q 0 0)) w' := by
  rw [h]; exact ⟨rfl, hb⟩
theorem wd_bad {k : Int} {o : Out Unit} {e q : Nat} {w w' : World} (h : o = .error e q) (hb : Below w.heap.size w w') : WdAns k o w (.returned (badV e q)) w' := by
  rw [h]; exact ⟨rfl, hb⟩
set_option maxHeartbeats 1000000 in
set_option maxRecDepth 100000 in
theorem rword_any (s W : ByteArray) (p : Nat) (kind : Int) (w : World) (hp : p ≤ s.size) (hs : s.size ≤ 16384) (hW : W.size ≤ 16) : Calls Tryz.prog 17 #[.string s, .int .i64 (p : Int), .string W, .int .i64 kind] w fun ε w' => WdAns kind (wordAt (sbytes s) p (sbytes W)) w ε w' := by
  have hsl := sbytes_length s
  have hwl := sbytes_length W
  have hix := str_index s
  have hixW := str_index W
  have HOK := hide (fun q w' => @wd_ok kind (wordAt (sbytes s) p (sbytes W)) q w w')
  have HBD := hide (fun e q w' => @wd_bad kind (wordAt (sbytes s) p (sbytes W)) e q w w')
  have HMU := hide (rmust_any s)
  have HS := hide hs
  have HP := hide hp
  have HW := hide hW
  have HDR := hide (fun i => @drop_getD (sbytes W) i)
  rw [hwl] at HDR
  have HWD : Hid (∀ q c v, wordAt (sbytes s) q (c :: v) = if q < (sbytes s).length then if bt (sbytes s) q = c then wordAt (sbytes s) (q + 1) v else .error 40 q else .error 3 (sbytes s).length) := hide fun q c v => rfl
  have HW0 : Hid (∀ q, wordAt (sbytes s) q [] = .ok () q) := hide fun q => rfl
  have HDE : Hid ((sbytes W).drop (sbytes W).length = []) := hide List.drop_length
  rw [hwl] at HDE
  rw [hsl] at HWD
  have HSI : Hid (wordAt (sbytes s) p ((sbytes W).drop 0) = wordAt (sbytes s) p (sbytes W)) := hide (by rw [List.drop_zero])
  have HGN := hide (GZ.new w)
  have HBN := hide (below_new w (.cells #[.int .i64 0, .string { data := #[] }, .slice none 0 0, .slice none 0 0, .int .i64 0, .int .i64 0, .int .i64 0] 41))
  generalize wordAt (sbytes s) p (sbytes W) = R at *
  generalize sbytes s = l at *
  generalize sbytes W = wl at *
  generalize hn : s.size = n at *
  generalize hm : W.size = m at *
  clear hsl hwl hs hp hW
  go_enter Tryz.func17, Tryz.ntmps17
  go_upto_region 1 with fail
  obtain ⟨w1, hw1e⟩ : ∃ x, x = w.alloc (.cells #[.int .i64 0, .string { data := #[] }, .slice none 0 0, .slice none 0 0, .int .i64 0, .int .i64 0, .int .i64 0] 41) := ⟨_, rfl⟩
  rw [← hw1e] at HGN HBN ⊢
  obtain ⟨N, hN⟩ : ∃ N, N = w.heap.size := ⟨_, rfl⟩
  have HNW := hide hN
  rw [← hN] at HGN ⊢
  clear hw1e hN
  go_wp2_with fail
  go_loopw [9] (fun a wr => ∃ k : Nat, a = .int .i64 (k : Int) ∧ k ≤ m ∧ Hid (wordAt l (p + k) (wl.drop k) = R) ∧ Hid (Below w1.heap.size w1 wr)) (fun a _ => m - (intOf a).toNat)
  case atStart => exact ⟨0, rfl, by omega, HSI, hide (Below.refl _ _)⟩
  case round =>
    obtain ⟨k, rfl, hk, hr, HBW⟩ := hrel
    have HGR : Hid (GZ wr N) := hide (HGN.out.keep HBW.out)
    have HWW : Hid (Below w.heap.size w wr) := hide (HBN.out.trans (HBW.out.mono HBN.out.size))
    have hwrk : IntKind.i64.wrap ((k : Int) + 1) = ((k + 1 : Nat) : Int) := by have := HW.out; rw [IntKind.wrap_i64]; omega
    by_cases hkm : k < m
    · have hkm' : (k : Int) < (m : Int) := by omega
      have hR := hr.out
      rw [HDR.out k hkm, HWD.out] at hR
      have hxW := hixW k hkm
      have HKM := hide hkm
      obtain ⟨pk, hpk⟩ : ∃ pk, pk = p + k := ⟨_, rfl⟩
      rw [← hpk] at hR
      have hps : (p : Int) + (k : Int) = (pk : Int) := by omega
      have hpw : IntKind.i64.wrap (pk : Int) = (pk : Int) := by have := HS.out; have := HP.out; have := HW.out; rw [IntKind.wrap_i64]; omega
      have HPK := hide hpk
      have HMUK := hide (HMU.out pk)
      clear hk hkm hpk hixW hr
      by_cases hin : pk < n
      · have hin' : (pk : Int) < (n : Int) := by omega
        have hge' : ¬ (n : Int) ≤ (pk : Int) := by omega
        have hgd : decide (n ≤ pk) = false := decide_eq_false (by omega)
        have hgi : decide ((n : Int) ≤ (pk : Int)) = false := decide_eq_false (by omega)
        have hx : ∀ W, (Instr.index 9 (.string s) (.int .i64 (pk : Int))).run Tryz.prog W = .ok (.int .u8 ((bt l pk : Nat) : Int)) W := hix pk hin
        rw [if_pos hin] at hR HMUK
        clear hin hix
        by_cases he : bt l pk = wl.getD k 0
        · have he' : (((bt l pk : Nat) : Int) != ((wl.getD k 0 : Nat) : Int)) = false := by rw [he]; simp
          rw [if_pos he] at hR
          have HRN : Hid (wordAt l (p + (k + 1)) (wl.drop (k + 1)) = R) := hide (by rw [show p + (k + 1) = pk + 1 by have := HPK.out; omega]; exact hR)
          generalize bt l pk = c at *
          generalize wl.getD k 0 = d at *
          clear he hR
          go_wp2_with fail
          go_quiet (fail)
          have HBZ : Hid (Below w1.heap.size w1 (wr.drewN nq)) := hide (below_drewN HBW.out nq)
          generalize wr.drewN nq = wz at *
          go_wp2_with fail
          go_roundw
          case rel => exact ⟨k + 1, by first | rfl | simp, HKM.out, HRN, HBZ⟩
          case measure => have := HKM.out; simp [intOf]; omega
        · have he' : (((bt l pk : Nat) : Int) != ((wl.getD k 0 : Nat) : Int)) = true := by simp only [bne_iff_ne, ne_eq]; exact fun e => he (by exact_mod_cast e)
          rw [if_neg he] at hR
          have HE := hide (HBD.out 40 pk)
          have HRR := hide hR.symm
          unfold badV gotV at HE HMUK
          generalize bt l pk = c at *
          generalize wl.getD k 0 = d at *
          clear he hR
          go_wp2_with fail
          go_quiet (fail)
          have HGZ : Hid (GZ (wr.drewN nq) N) := HGR
          have HWZ : Hid (Below w.heap.size w (wr.drewN nq)) := hide (below_drewN HWW.out nq)
          generalize wr.drewN nq = wz at *
          go_wp2_with (go_at_call 30; refine (HMUK.out _).mono ?_; rintro ε w5 ⟨rfl, h5⟩; have HG5 := hide (HGZ.out.keep h5); have H5 := hide (HWZ.out.trans (h5.mono HWZ.out.size)); obtain ⟨⟨c0, c1, c2, c3, c4, c5, c6⟩, f0, f1, f2, f3, f4, f5, f6⟩ := HG5.out.facts; clear h5)
          refine bodyPost_ret (got_results rfl rfl (putG_bl HG5.out _ _ _ _ _ _ _)) rfl ?_
          exact HE.out _ HRR.out (H5.out.trans ((putG_but w5 N _ _ _ _ _ _ _).below (by have := HNW.out; omega) H5.out.size))
      · have hin' : ¬ (pk : Int) < (n : Int) := by omega
        have hge' : (n : Int) ≤ (pk : Int) := by omega
        have hgd : decide (n ≤ pk) = true := decide_eq_true (by omega)
        have hgi : decide ((n : Int) ≤ (pk : Int)) = true := decide_eq_true (by omega)
        rw [if_neg hin] at hR HMUK
        have HE := hide (HBD.out 3 n)
        have HRR := hide hR.symm
        unfold badV gotV at HE HMUK
        clear hin hix hR
        go_wp2_with fail
        go_quiet (fail)
        have HGZ : Hid (GZ (wr.drewN nq) N) := HGR
        have HWZ : Hid (Below w.heap.size w (wr.drewN nq)) := hide (below_drewN HWW.out nq)
        generalize wr.drewN nq = wz at *
        go_wp2_with (go_at_call 30; refine (HMUK.out _).mono ?_; rintro ε w5 ⟨rfl, h5⟩; have HG5 := hide (HGZ.out.keep h5); have H5 := hide (HWZ.out.trans (h5.mono HWZ.out.size)); obtain ⟨⟨c0, c1, c2, c3, c4, c5, c6⟩, f0, f1, f2, f3, f4, f5, f6⟩ := HG5.out.facts; clear h5)
        refine bodyPost_ret (got_results rfl rfl (putG_bl HG5.out _ _ _ _ _ _ _)) rfl ?_
        exact HE.out _ HRR.out (H5.out.trans ((putG_but w5 N _ _ _ _ _ _ _).below (by have := HNW.out; omega) H5.out.size))
    · have hkm' : ¬ (k : Int) < (m : Int) := by omega
      obtain rfl : k = m := by omega
      have hR := hr.out
      rw [HDE.out, HW0.out] at hR
      obtain ⟨pk, hpk⟩ : ∃ pk, pk = p + k := ⟨_, rfl⟩
      rw [← hpk] at hR
      have hps : (p : Int) + (k : Int) = (pk : Int) := by omega
      have hpw : IntKind.i64.wrap (pk : Int) = (pk : Int) := by have := HS.out; have := HP.out; have := HW.out; rw [IntKind.wrap_i64]; omega
      have HE := hide (HOK.out pk)
      have HRR := hide hR.symm
      unfold gotV at HE
      obtain ⟨⟨c0, c1, c2, c3, c4, c5, c6⟩, f0, f1, f2, f3, f4, f5, f6⟩ := HGR.out.facts
      clear hk hkm hpk hr hix hixW hR
      go_wp2_with fail
      refine bodyPost_ret (got_results rfl rfl (putG_bl HGR.out _ _ _ _ _ _ _)) rfl ?_
      exact HE.out _ HRR.out (HWW.out.trans ((putG_but wr N _ _ _ _ _ _ _).below (by have := HNW.out; omega) HWW.out.size))
end Go.Proofs.YtlebockgdonceaaGreatDoor
