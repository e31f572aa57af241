/- The contract of the document's Fit. -/
import Derived.Test.YtiaedngnofablaaGreatDoorRClean
import Derived.Test.YtiaedngnofablaaGreatDoorKSame
namespace Go.Proofs.YtiaedngnofablaaGreatDoor
open Go.RowKit

theorem shErr_out (dep : Int) (x : JV) (h : x.k < 0 ∨ 6 < x.k) : shErr dep x = 47 := by
  unfold shErr
  have a1 : ¬ (x.k = 5 ∨ x.k = 6) := by omega
  have a2 : deepB dep x.k = false := by unfold deepB; rw [decide_eq_false a1, Bool.and_false]
  have a3 : soundB x = false := by
    unfold soundB
    rw [if_neg (by omega), if_neg (by omega), if_neg (by omega)]
    exact decide_eq_false (by omega)
  rw [a2, a3, if_neg (by decide)]
  split
  · rfl
  · rfl
set_option linter.unusedSimpArgs false in
set_option maxHeartbeats 8000000 in
set_option maxRecDepth 100000 in
theorem fit_any (x : JV) (dep : Int) (w : World) (hd : dep ≤ 32) (hs : x.t.size ≤ 4611686018427387904) :
    Calls Tryz.prog 47 #[x.val, .int .i64 dep] w fun e w' => e = .returned (.int .i64 (shErr dep x : Int)) ∧ Below w.heap.size w w' := by
  have HS := hide hs
  obtain ⟨n0, hn0⟩ : ∃ n, n = shErr dep x := ⟨_, rfl⟩
  rw [← hn0]
  have HN0 := hide hn0
  have HB := hide (below_new w (.cells #[.int .i64 x.k, .string x.t, .slice x.an x.ln x.cn, .slice x.ai x.li x.ci] 25))
  have HJ := hide (Jb.new w x.k x.t (.slice x.an x.ln x.cn) (.slice x.ai x.li x.ci))
  have d0 : ¬ ((32 : Int) < dep) := by omega
  clear hn0 hs hd
  obtain ⟨k, t, an, ln, cn, ai, li, ci⟩ := x
  rw [show JV.val ⟨k, t, an, ln, cn, ai, li, ci⟩ = .agg #[.int .i64 k, .string t, .slice an ln cn, .slice ai li ci] from rfl]
  simp only at HB HJ HS
  go_enter Tryz.func47, Tryz.ntmps47
  go_upto_region 1 with fail
  have HB2 := hide HB.out
  obtain ⟨N, hN⟩ : ∃ N, N = w.heap.size := ⟨_, rfl⟩
  rw [← hN] at HB HJ ⊢
  clear hN
  generalize w.alloc (.cells #[.int .i64 k, .string t, .slice an ln cn, .slice ai li ci] 25) = w1 at *
  have j0 := HJ.out.c0
  have j1 := HJ.out.c1
  have j2 := HJ.out.c2
  have j3 := HJ.out.c3
  clear HJ HB
  by_cases hk0 : k < 0
  · have e5 : (k == 5) = false := by rw [beq_eq_false_iff_ne]; omega
    have e6 : (k == 6) = false := by rw [beq_eq_false_iff_ne]; omega
    have HN : Hid (n0 = 47) := by
      show _ = _
      rw [HN0.out, shErr_out _ _ (by first | exact .inl hk0 | exact .inr (by assumption))]
    clear HN0
    go_wp2_with fail
    go_ret
    exact ⟨by rw [HN.out]; rfl, HB2.out⟩
  by_cases hk7 : 6 < k
  · have e5 : (k == 5) = false := by rw [beq_eq_false_iff_ne]; omega
    have e6 : (k == 6) = false := by rw [beq_eq_false_iff_ne]; omega
    have HN : Hid (n0 = 47) := by
      show _ = _
      rw [HN0.out, shErr_out _ _ (by first | exact .inl hk0 | exact .inr (by assumption))]
    clear HN0
    go_wp2_with fail
    go_ret
    exact ⟨by rw [HN.out]; rfl, HB2.out⟩
  have hks : k = 0 ∨ k = 1 ∨ k = 2 ∨ k = 3 ∨ k = 4 ∨ k = 5 ∨ k = 6 := by omega
  clear hk0 hk7
  rcases hks with rfl | rfl | rfl | rfl | rfl | rfl | rfl
  · cases h1 : t.toList.isEmpty with
    | false =>
      have HN : Hid (n0 = 47) := by show _ = _; rw [HN0.out]; simp [shErr, deepB, fieldsB, soundB, h1]
      clear HN0
      go_wp2_with fail
      go_ret
      exact ⟨by rw [HN.out]; rfl, HB2.out⟩
    | true =>
      by_cases h2 : (0 : Int) < (li : Int)
      · have g2 : 0 < li := by omega
        have HN : Hid (n0 = 47) := by show _ = _; rw [HN0.out]; simp [shErr, deepB, fieldsB, soundB, h1, g2]
        clear HN0
        go_wp2_with fail
        go_ret
        exact ⟨by rw [HN.out]; rfl, HB2.out⟩
      · have g2 : li = 0 := by omega
        by_cases h3 : (0 : Int) < (ln : Int)
        · have g3 : 0 < ln := by omega
          have HN : Hid (n0 = 47) := by show _ = _; rw [HN0.out]; simp [shErr, deepB, fieldsB, soundB, h1, g2, g3]
          clear HN0
          go_wp2_with fail
          go_ret
          exact ⟨by rw [HN.out]; rfl, HB2.out⟩
        · have g3 : ln = 0 := by omega
          have HN : Hid (n0 = 0) := by show _ = _; rw [HN0.out]; simp [shErr, deepB, fieldsB, soundB, h1, g2, g3]
          clear HN0
          go_wp2_with fail
          go_ret
          exact ⟨by rw [HN.out]; rfl, HB2.out⟩
  · cases h1 : t.toList.isEmpty with
    | false =>
      have HN : Hid (n0 = 47) := by show _ = _; rw [HN0.out]; simp [shErr, deepB, fieldsB, soundB, h1]
      clear HN0
      go_wp2_with fail
      go_ret
      exact ⟨by rw [HN.out]; rfl, HB2.out⟩
    | true =>
      by_cases h2 : (0 : Int) < (li : Int)
      · have g2 : 0 < li := by omega
        have HN : Hid (n0 = 47) := by show _ = _; rw [HN0.out]; simp [shErr, deepB, fieldsB, soundB, h1, g2]
        clear HN0
        go_wp2_with fail
        go_ret
        exact ⟨by rw [HN.out]; rfl, HB2.out⟩
      · have g2 : li = 0 := by omega
        by_cases h3 : (0 : Int) < (ln : Int)
        · have g3 : 0 < ln := by omega
          have HN : Hid (n0 = 47) := by show _ = _; rw [HN0.out]; simp [shErr, deepB, fieldsB, soundB, h1, g2, g3]
          clear HN0
          go_wp2_with fail
          go_ret
          exact ⟨by rw [HN.out]; rfl, HB2.out⟩
        · have g3 : ln = 0 := by omega
          have HN : Hid (n0 = 0) := by show _ = _; rw [HN0.out]; simp [shErr, deepB, fieldsB, soundB, h1, g2, g3]
          clear HN0
          go_wp2_with fail
          go_ret
          exact ⟨by rw [HN.out]; rfl, HB2.out⟩
  · cases h1 : t.toList.isEmpty with
    | false =>
      have HN : Hid (n0 = 47) := by show _ = _; rw [HN0.out]; simp [shErr, deepB, fieldsB, soundB, h1]
      clear HN0
      go_wp2_with fail
      go_ret
      exact ⟨by rw [HN.out]; rfl, HB2.out⟩
    | true =>
      by_cases h2 : (0 : Int) < (li : Int)
      · have g2 : 0 < li := by omega
        have HN : Hid (n0 = 47) := by show _ = _; rw [HN0.out]; simp [shErr, deepB, fieldsB, soundB, h1, g2]
        clear HN0
        go_wp2_with fail
        go_ret
        exact ⟨by rw [HN.out]; rfl, HB2.out⟩
      · have g2 : li = 0 := by omega
        by_cases h3 : (0 : Int) < (ln : Int)
        · have g3 : 0 < ln := by omega
          have HN : Hid (n0 = 47) := by show _ = _; rw [HN0.out]; simp [shErr, deepB, fieldsB, soundB, h1, g2, g3]
          clear HN0
          go_wp2_with fail
          go_ret
          exact ⟨by rw [HN.out]; rfl, HB2.out⟩
        · have g3 : ln = 0 := by omega
          have HN : Hid (n0 = 0) := by show _ = _; rw [HN0.out]; simp [shErr, deepB, fieldsB, soundB, h1, g2, g3]
          clear HN0
          go_wp2_with fail
          go_ret
          exact ⟨by rw [HN.out]; rfl, HB2.out⟩
  · by_cases h2 : (0 : Int) < (li : Int)
    · have g2 : 0 < li := by omega
      have HN : Hid (n0 = 47) := by show _ = _; rw [HN0.out]; simp [shErr, deepB, fieldsB, soundB, g2]
      clear HN0
      go_wp2_with fail
      go_ret
      exact ⟨by rw [HN.out]; rfl, HB2.out⟩
    · have g2 : li = 0 := by omega
      by_cases h3 : (0 : Int) < (ln : Int)
      · have g3 : 0 < ln := by omega
        have HN : Hid (n0 = 47) := by show _ = _; rw [HN0.out]; simp [shErr, deepB, fieldsB, soundB, g2, g3]
        clear HN0
        go_wp2_with fail
        go_ret
        exact ⟨by rw [HN.out]; rfl, HB2.out⟩
      · have g3 : ln = 0 := by omega
        have HN : Hid (n0 = if litFrom (sbytes t) 0 0 = true then 0 else 47) := by show _ = _; rw [HN0.out]; simp [shErr, deepB, fieldsB, soundB, isLit_from, g2, g3]
        clear HN0
        go_wp2_with fail
        refine (rliteral_any t _ HS.out).mono ?_
        rintro e w2 ⟨rfl, hB2⟩
        have HB3 := hide (below_up HB2.out hB2)
        have m0 := cell_kept j0 hB2
        have m1 := cell_kept j1 hB2
        have m2 := cell_kept j2 hB2
        have m3 := cell_kept j3 hB2
        clear hB2
        cases hq : litFrom (sbytes t) 0 0 with
        | true =>
          have HM : Hid (n0 = 0) := by show _ = _; rw [HN.out, hq]; rfl
          go_wp2_with fail
          go_ret
          exact ⟨by rw [HM.out]; rfl, HB3.out⟩
        | false =>
          have HM : Hid (n0 = 47) := by show _ = _; rw [HN.out, hq]; rfl
          go_wp2_with fail
          go_ret
          exact ⟨by rw [HM.out]; rfl, HB3.out⟩
  · by_cases h2 : (0 : Int) < (li : Int)
    · have g2 : 0 < li := by omega
      have HN : Hid (n0 = 47) := by show _ = _; rw [HN0.out]; simp [shErr, deepB, fieldsB, soundB, g2]
      clear HN0
      go_wp2_with fail
      go_ret
      exact ⟨by rw [HN.out]; rfl, HB2.out⟩
    · have g2 : li = 0 := by omega
      by_cases h3 : (0 : Int) < (ln : Int)
      · have g3 : 0 < ln := by omega
        have HN : Hid (n0 = 47) := by show _ = _; rw [HN0.out]; simp [shErr, deepB, fieldsB, soundB, g2, g3]
        clear HN0
        go_wp2_with fail
        go_ret
        exact ⟨by rw [HN.out]; rfl, HB2.out⟩
      · have g3 : ln = 0 := by omega
        have HN : Hid (n0 = if clean (sbytes t) = true then 0 else 47) := by show _ = _; rw [HN0.out]; simp [shErr, deepB, fieldsB, soundB, isLit_from, g2, g3]
        clear HN0
        go_wp2_with fail
        refine (rclean_any t _ HS.out).mono ?_
        rintro e w2 ⟨rfl, hB2⟩
        have HB3 := hide (below_up HB2.out hB2)
        have m0 := cell_kept j0 hB2
        have m1 := cell_kept j1 hB2
        have m2 := cell_kept j2 hB2
        have m3 := cell_kept j3 hB2
        clear hB2
        cases hq : clean (sbytes t) with
        | true =>
          have HM : Hid (n0 = 0) := by show _ = _; rw [HN.out, hq]; rfl
          go_wp2_with fail
          go_ret
          exact ⟨by rw [HM.out]; rfl, HB3.out⟩
        | false =>
          have HM : Hid (n0 = 47) := by show _ = _; rw [HN.out, hq]; rfl
          go_wp2_with fail
          go_ret
          exact ⟨by rw [HM.out]; rfl, HB3.out⟩
  · by_cases h4 : (32 : Int) ≤ dep
    · have HN : Hid (n0 = 46) := by show _ = _; rw [HN0.out]; simp [shErr, deepB, fieldsB, soundB, h4]
      clear HN0
      go_wp2_with fail
      go_ret
      exact ⟨by rw [HN.out]; rfl, HB2.out⟩
    · cases h1 : t.toList.isEmpty with
      | false =>
        have HN : Hid (n0 = 47) := by show _ = _; rw [HN0.out]; simp [shErr, deepB, fieldsB, soundB, h4, h1]
        clear HN0
        go_wp2_with fail
        go_ret
        exact ⟨by rw [HN.out]; rfl, HB2.out⟩
      | true =>
        by_cases h3 : (0 : Int) < (ln : Int)
        · have g3 : 0 < ln := by omega
          have HN : Hid (n0 = 47) := by show _ = _; rw [HN0.out]; simp [shErr, deepB, fieldsB, soundB, h4, h1, g3]
          clear HN0
          go_wp2_with fail
          go_ret
          exact ⟨by rw [HN.out]; rfl, HB2.out⟩
        · have g3 : ln = 0 := by omega
          have HN : Hid (n0 = 0) := by show _ = _; rw [HN0.out]; simp [shErr, deepB, fieldsB, soundB, h4, h1, g3]
          clear HN0
          go_wp2_with fail
          go_ret
          exact ⟨by rw [HN.out]; rfl, HB2.out⟩
  · by_cases h4 : (32 : Int) ≤ dep
    · have HN : Hid (n0 = 46) := by show _ = _; rw [HN0.out]; simp [shErr, deepB, fieldsB, soundB, h4]
      clear HN0
      go_wp2_with fail
      go_ret
      exact ⟨by rw [HN.out]; rfl, HB2.out⟩
    · cases h1 : t.toList.isEmpty with
      | false =>
        have HN : Hid (n0 = 47) := by show _ = _; rw [HN0.out]; simp [shErr, deepB, fieldsB, soundB, h4, h1]
        clear HN0
        go_wp2_with fail
        go_ret
        exact ⟨by rw [HN.out]; rfl, HB2.out⟩
      | true =>
        by_cases h5 : ln = li
        · have b5 : ((ln : Int) != (li : Int)) = false := by simp [h5]
          have HN : Hid (n0 = 0) := by show _ = _; rw [HN0.out]; simp [shErr, deepB, fieldsB, soundB, h4, h1, h5]
          clear HN0
          go_wp2_with fail
          go_ret
          exact ⟨by rw [HN.out]; rfl, HB2.out⟩
        · have b5 : ((ln : Int) != (li : Int)) = true := by simp; omega
          have HN : Hid (n0 = 47) := by show _ = _; rw [HN0.out]; simp [shErr, deepB, fieldsB, soundB, h4, h1, h5]
          clear HN0
          go_wp2_with fail
          go_ret
          exact ⟨by rw [HN.out]; rfl, HB2.out⟩
end Go.Proofs.YtiaedngnofablaaGreatDoor
