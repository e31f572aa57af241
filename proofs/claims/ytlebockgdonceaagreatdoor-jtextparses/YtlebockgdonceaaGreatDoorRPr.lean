/- The contract of the document's Parse. -/
import Derived.Test.YtlebockgdonceaaGreatDoorRPq
namespace Go.Proofs.YtlebockgdonceaaGreatDoor
open Go.RowKit

theorem jb_results3 {fn : Func} {slot s2 s3 N : Nat} (h : fn.results = #[.cell slot 25, .tmp s2, .tmp s3]) {tmps : Array Value} (hs : tmps.getD slot undef = .pointer (some ⟨N, 0, none⟩)) {x y : Value} (hx : tmps.getD s2 undef = x) (hy : tmps.getD s3 undef = y) {w : World} {v0 v1 v2 v3 : Value} (hb : Bl w N [v0, v1, v2, v3] 25) : (results fn tmps).run Tryz.prog w = .ok (.tuple #[.agg #[v0, v1, v2, v3], x, y]) w := by
  have j0 : w.cell? ⟨N, 0, none⟩ = some v0 := hb.cell 0
  have j1 : w.cell? ⟨N, 1, none⟩ = some v1 := hb.cell 1
  have j2 : w.cell? ⟨N, 2, none⟩ = some v2 := hb.cell 2
  have j3 : w.cell? ⟨N, 3, none⟩ = some v3 := hb.cell 3
  have hs' : tmps[slot]?.getD undef = .pointer (some ⟨N, 0, none⟩) := by simpa using hs
  have hx' : tmps[s2]?.getD undef = x := by simpa using hx
  have hy' : tmps[s3]?.getD undef = y := by simpa using hy
  simp [results, h, go_sem, hs', hx', hy', j0, j1, j2, j3]
theorem pans_zero {w w' : World} {n q : Nat} (hb : Below w.heap.size w w') : PAns w J.zero n q (.returned (.tuple #[.agg #[.int .i64 0, .string { data := #[] }, .slice none 0 0, .slice none 0 0], .int .i64 (n : Int), .int .i64 (q : Int)])) w' :=
  ⟨JV.zero, rfl, jrep_leaf _ 0 [] _ (by simp), hb⟩
set_option maxHeartbeats 4000000 in
set_option maxRecDepth 100000 in
theorem rparse_any (s : ByteArray) (w : World) (hC : s.size ≤ 16384 → ChFacts s) (hs : s.size ≤ 9223372036854775807) : Calls Tryz.prog 5 #[.string s] w fun ε w' => PAns w (parse (sbytes s)).1 (parse (sbytes s)).2.1 (parse (sbytes s)).2.2 ε w' := by
  have hsl := sbytes_length s
  obtain ⟨R, hR⟩ : ∃ R, R = parse (sbytes s) := ⟨_, rfl⟩
  rw [← hR]
  have HJ0 : Hid (Jb (w.alloc (.cells #[.int .i64 0, .string { data := #[] }, .slice none 0 0, .slice none 0 0] 25)) w.heap.size 0 ⟨#[]⟩ (.slice none 0 0) (.slice none 0 0)) := Jb.new w _ _ _ _
  have HB0 := hide (below_new w (.cells #[.int .i64 0, .string { data := #[] }, .slice none 0 0, .slice none 0 0] 25))
  suffices HSU : ∀ PP : Ending → World → Prop, (∀ ε w', PAns w R.1 R.2.1 R.2.2 ε w' → PP ε w') → Calls Tryz.prog 5 #[.string s] w fun ε w' => True ∧ PP ε w' from (HSU _ (fun _ _ h => h)).mono fun _ _ h => h.2
  intro PP hPP
  have HPP := hide hPP
  clear hPP
  by_cases hbig : s.size ≤ 16384
  rotate_left
  · have hbi : (16384 : Int) < (s.size : Int) := by omega
    have HR : Hid (R = (J.zero, 1, 0)) := by show _ = _; rw [hR, parse, if_pos (by omega)]
    clear hR hC hsl hbig hs
    go_enter Tryz.func5, Tryz.ntmps5
    go_upto_region 1 with fail
    generalize (w.alloc (.cells #[.int .i64 0, .string { data := #[] }, .slice none 0 0, .slice none 0 0] 25)) = w1 at *
    have e0 := HJ0.out.c0
    have e1 := HJ0.out.c1
    have e2 := HJ0.out.c2
    have e3 := HJ0.out.c3
    have f0 := HJ0.out.fz 0
    have f1 := HJ0.out.fz 1
    have f2 := HJ0.out.fz 2
    have f3 := HJ0.out.fz 3
    have hz := HJ0.out.lt
    go_wp2_with fail
    refine bodyPost_ret (jb_results3 rfl rfl rfl rfl (Jb.put4 HJ0.out 0 { data := #[] } (.slice none 0 0) (.slice none 0 0))) rfl ?_
    refine ⟨trivial, HPP.out _ _ ?_⟩
    rw [HR.out]
    exact pans_zero (n := 1) (q := 0) (HB0.out.trans ((But.put4 w.heap.size w1 _ _ _ _).below (Nat.le_refl _) (by omega)))
  have hbi : ¬ (16384 : Int) < (s.size : Int) := by omega
  obtain ⟨k0, hk0⟩ : ∃ k0, k0 = skip (sbytes s) 0 := ⟨_, rfl⟩
  have hk0n : k0 ≤ s.size := by rw [hk0]; have := skip_le (s := sbytes s) (p := 0) (by omega); omega
  have HB1 : Hid (∀ W, Calls Tryz.prog 11 #[.string s, .int .i64 0] W fun e w' => e = .returned (.int .i64 (k0 : Int)) ∧ w' = W) := fun W => by rw [hk0]; exact rblanks_any s 0 W (by omega) hbig
  have HVC : Hid (∀ W, Calls Tryz.prog 10 #[.string s, .int .i64 (k0 : Int), .int .i64 0] W fun ε w' => RVAns (vAt (sbytes s) 32 k0) W ε w') := fun W => rvalue_any 32 (Nat.le_refl _) s k0 W (hC hbig) hbig hk0n
  have HBK : Hid (∀ r W, r ≤ s.size → Calls Tryz.prog 11 #[.string s, .int .i64 (r : Int)] W fun e w' => e = .returned (.int .i64 ((skip (sbytes s) r : Nat) : Int)) ∧ w' = W) := fun r W h => rblanks_any s r W h hbig
  have HNZ : Hid (∀ e q, vAt (sbytes s) 32 k0 = .error e q → e ≠ 0) := fun e q h => ((vAt_local 32).ill (sbytes s) [] k0 e q (by omega) h).2.2.2.1
  have HBDS : Hid (∀ q j, vAt (sbytes s) 32 k0 = .ok j q → q ≤ s.size) := fun q j h => (vAt_bd s 32 k0 q j hk0n h).2
  have HPD : Hid (parse (sbytes s) = match vAt (sbytes s) 32 k0 with
    | .error e q => (J.zero, e, q)
    | .ok v q => if skip (sbytes s) q < s.size then (J.zero, 4, skip (sbytes s) q) else (v, 0, 0)) := by
    show _ = _
    unfold parse
    rw [if_neg (by omega), hsl, ← hk0]
    cases vAt (sbytes s) 32 k0 <;> rfl
  clear hk0 hC hbig hs hsl
  rw [← hR] at HPD
  clear hR
  generalize sbytes s = l at *
  go_enter Tryz.func5, Tryz.ntmps5
  go_upto_region 1 with fail
  generalize (w.alloc (.cells #[.int .i64 0, .string { data := #[] }, .slice none 0 0, .slice none 0 0] 25)) = w1 at *
  have hz1 := HJ0.out.lt
  go_wp2_with (go_at_call 11; refine (HB1.out _).mono ?_; rintro ε wx ⟨rfl, hwx⟩; have hwy := hwx.symm; subst hwy; clear hwx)
  refine (HVC.out _).mono ?_
  intro ε w3 h3
  cases ho : vAt l 32 k0 with
  | error e1 q1 =>
    rw [ho] at h3 HPD
    obtain ⟨rfl, hb3⟩ := h3
    have he0 : e1 ≠ 0 := HNZ.out e1 q1 ho
    have hei : ((e1 : Int) != 0) = true := by simp; omega
    have HB3 := hide hb3
    have HJ3 := hide (HJ0.out.keep hb3)
    have hgb := GB.new w3 0 { data := #[] } (.slice none 0 0) (.slice none 0 0) 0 e1 q1
    have hba := below_new w3 (.cells #[.int .i64 0, .string { data := #[] }, .slice none 0 0, .slice none 0 0, .int .i64 0, .int .i64 (e1 : Int), .int .i64 (q1 : Int)] 41)
    have hz3 := hb3.size
    clear ho hb3 he0
    rw [show badV e1 q1 = .agg #[.int .i64 0, .string { data := #[] }, .slice none 0 0, .slice none 0 0, .int .i64 ((0 : Nat) : Int), .int .i64 (e1 : Int), .int .i64 (q1 : Int)] from rfl]
    go_upto_region 4 with fail
    have hgb2 : GB (w3.alloc (.cells #[.int .i64 0, .string { data := #[] }, .slice none 0 0, .slice none 0 0, .int .i64 0, .int .i64 (e1 : Int), .int .i64 (q1 : Int)] 41)) w3.heap.size 0 { data := #[] } (.slice none 0 0) (.slice none 0 0) 0 e1 q1 := hgb
    clear hgb
    generalize w3.alloc (.cells #[.int .i64 0, .string { data := #[] }, .slice none 0 0, .slice none 0 0, .int .i64 0, .int .i64 (e1 : Int), .int .i64 (q1 : Int)] 41) = w4 at *
    obtain ⟨m0, m1, m2, m3, m4, m5, m6⟩ := hgb2.facts
    have HJ4 := hide (HJ3.out.keep hba)
    have HB4 := hide ((HB0.out.trans (HB3.out.mono (by omega))).trans (hba.mono (by omega)))
    have e0 := HJ4.out.c0
    have e1' := HJ4.out.c1
    have e2 := HJ4.out.c2
    have e3 := HJ4.out.c3
    have f0 := HJ4.out.fz 0
    have f1 := HJ4.out.fz 1
    have f2 := HJ4.out.fz 2
    have f3 := HJ4.out.fz 3
    have hm1 : ¬ w3.heap.size = w.heap.size := by omega
    have hm2 : ¬ w.heap.size = w3.heap.size := by omega
    have hz4 := HB4.out.size
    clear hgb2 hba
    go_wp2_with fail
    go_region_held3 (fun W => W.cell? ⟨w3.heap.size, 5, none⟩ = some (.int .i64 (e1 : Int)) ∧ W.cell? ⟨w3.heap.size, 6, none⟩ = some (.int .i64 (q1 : Int))) (go_keep) (fail)
    go_wp2_with fail
    refine bodyPost_ret (jb_results3 rfl rfl rfl rfl (Bl.drew1 (Jb.put4 HJ4.out 0 { data := #[] } (.slice none 0 0) (.slice none 0 0)))) rfl ?_
    refine ⟨trivial, HPP.out _ _ ?_⟩
    rw [HPD.out]
    exact pans_zero (below_drew1 (HB4.out.trans ((But.put4 w.heap.size w4 _ _ _ _).below (Nat.le_refl _) hz4)))
  | ok j q1 =>
    rw [ho] at h3 HPD
    obtain ⟨x, rfl, hj, hb3⟩ := h3
    have hqn := HBDS.out q1 j ho
    have HB3 := hide hb3
    have HJ3 := hide (HJ0.out.keep hb3)
    have HR3 := hide hj
    have hgb := GB.new w3 x.k x.t (.slice x.an x.ln x.cn) (.slice x.ai x.li x.ci) q1 0 0
    have hba := below_new w3 (.cells #[.int .i64 x.k, .string x.t, .slice x.an x.ln x.cn, .slice x.ai x.li x.ci, .int .i64 (q1 : Int), .int .i64 0, .int .i64 0] 41)
    have hz3 := hb3.size
    clear ho hb3 hj
    rw [show gotX x q1 = .agg #[.int .i64 x.k, .string x.t, .slice x.an x.ln x.cn, .slice x.ai x.li x.ci, .int .i64 (q1 : Int), .int .i64 ((0 : Nat) : Int), .int .i64 ((0 : Nat) : Int)] from rfl]
    go_upto_region 4 with fail
    have hgb2 : GB (w3.alloc (.cells #[.int .i64 x.k, .string x.t, .slice x.an x.ln x.cn, .slice x.ai x.li x.ci, .int .i64 (q1 : Int), .int .i64 0, .int .i64 0] 41)) w3.heap.size x.k x.t (.slice x.an x.ln x.cn) (.slice x.ai x.li x.ci) q1 0 0 := hgb
    clear hgb
    generalize w3.alloc (.cells #[.int .i64 x.k, .string x.t, .slice x.an x.ln x.cn, .slice x.ai x.li x.ci, .int .i64 (q1 : Int), .int .i64 0, .int .i64 0] 41) = w4 at *
    obtain ⟨m0, m1, m2, m3, m4, m5, m6⟩ := hgb2.facts
    have HJ4 := hide (HJ3.out.keep hba)
    have HB4 := hide ((HB0.out.trans (HB3.out.mono (by omega))).trans (hba.mono (by omega)))
    have HBA := hide hba
    obtain ⟨k2, hk2⟩ : ∃ k2, k2 = skip l q1 := ⟨_, rfl⟩
    have HBQ : Hid (∀ W, Calls Tryz.prog 11 #[.string s, .int .i64 (q1 : Int)] W fun e w' => e = .returned (.int .i64 (k2 : Int)) ∧ w' = W) := fun W => by rw [hk2]; exact HBK.out q1 W hqn
    have HPE : Hid (R = if k2 < s.size then (J.zero, 4, k2) else (j, 0, 0)) := by show _ = _; rw [HPD.out, hk2]
    have e0 := HJ4.out.c0
    have e1' := HJ4.out.c1
    have e2 := HJ4.out.c2
    have e3 := HJ4.out.c3
    have f0 := HJ4.out.fz 0
    have f1 := HJ4.out.fz 1
    have f2 := HJ4.out.fz 2
    have f3 := HJ4.out.fz 3
    have hz4 := HB4.out.size
    have hza := hba.size
    clear hgb2 hba hk2 hqn HPD
    by_cases hkn : k2 < s.size
    · have hki : (k2 : Int) < (s.size : Int) := by omega
      have HR : Hid (R = (J.zero, 4, k2)) := by show _ = _; rw [HPE.out, if_pos hkn]
      clear hkn HPE
      go_wp2_with (go_at_call 11; refine (HBQ.out _).mono ?_; rintro ε wx ⟨rfl, hwx⟩; have hwy := hwx.symm; subst hwy; clear hwx)
      refine bodyPost_ret (jb_results3 rfl rfl rfl rfl (Jb.put4 HJ4.out 0 { data := #[] } (.slice none 0 0) (.slice none 0 0))) rfl ?_
      refine ⟨trivial, HPP.out _ _ ?_⟩
      rw [HR.out]
      exact pans_zero (n := 4) (q := k2) (HB4.out.trans ((But.put4 w.heap.size w4 _ _ _ _).below (Nat.le_refl _) hz4))
    · have hki : ¬ (k2 : Int) < (s.size : Int) := by omega
      have HR : Hid (R = (j, 0, 0)) := by show _ = _; rw [HPE.out, if_neg hkn]
      clear hkn HPE
      go_wp2_with (go_at_call 11; refine (HBQ.out _).mono ?_; rintro ε wx ⟨rfl, hwx⟩; have hwy := hwx.symm; subst hwy; clear hwx)
      refine bodyPost_ret (jb_results3 rfl rfl rfl rfl (Jb.put4 HJ4.out x.k x.t (.slice x.an x.ln x.cn) (.slice x.ai x.li x.ci))) rfl ?_
      have hbt := But.put4 w.heap.size w4 (.int .i64 x.k) (.string x.t) (.slice x.an x.ln x.cn) (.slice x.ai x.li x.ci)
      refine ⟨trivial, HPP.out _ _ ?_⟩
      rw [HR.out]
      exact ⟨x, rfl, JRep.wide (JRep.stay _ _ _ HR3.out (fun b hb => (hbt.block b (by have := hb.2; omega) (by have := hb.1; omega)).trans (HBA.out.block b hb.2))) (fun b hb => ⟨by have := hb.1; omega, Nat.lt_of_lt_of_le hb.2 (Nat.le_trans hza hbt.size)⟩), HB4.out.trans (hbt.below (Nat.le_refl _) hz4)⟩
end Go.Proofs.YtlebockgdonceaaGreatDoor
