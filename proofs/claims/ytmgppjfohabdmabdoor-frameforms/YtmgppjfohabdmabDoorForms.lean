/- The walk of the law FrameForms: every row of bytes and every bound: it returns true and turns nothing old. -/
import Derived.Deep.DeepCutAuto
import Derived.Test.YtmgppjfohabdmabDoorFormsMath
import Derived.Test.YtmgppjfohabdmabDoorOpenAll
import Derived.Test.YtmgppjfohabdmabDoorSealAll
import Derived.Test.YtmgppjfohabdmabDoorSmall
import Derived.Test.YtmgppjfohabdmabDoorSteps
namespace Go.Proofs.YtmgppjfohabdmabDoor
open Go.RowKit

theorem bstr_size (xs : List Nat) : (bstr xs).size = xs.length := by show (bstr xs).data.size = _; simp [bstr]

set_option maxHeartbeats 1600000 in
set_option maxRecDepth 100000 in
theorem frameForms_walk (cb : Nat) (bo : Option Addr) (most : Int) (xs : List Nat) (w : World) (hl : xs.length ≤ 140737488351232) (hcb : xs.length ≤ cb) (hm : -9223372036854775808 ≤ most ∧ most ≤ 9223372036854775807) (hx : ∀ x ∈ xs, x < 256) (hb : Row w bo xs) (hT : Tab w) :
    Calls Tryd.prog 6 #[.slice bo xs.length cb, .int .i64 most] w fun e w' => e = .returned (.bool true) ∧ Below w.heap.size w w' := by
  have HX : Hid (∀ x ∈ xs, x < 256) := hx
  have HBW : Hid (Row w bo xs) := hb
  have HT : Hid (Tab w) := hT
  obtain ⟨uv, uk, ue, HU⟩ : ∃ uv uk ue, Hid (uread xs = (uv, uk, ue)) := ⟨_, _, _, rfl⟩
  obtain ⟨tv, tk, te, HV⟩ : ∃ tv tk te, Hid (textOf xs most = (tv, tk, te)) := ⟨_, _, _, rfl⟩
  obtain ⟨out, HOU⟩ : ∃ out, Hid (out = openOut xs) := ⟨_, rfl⟩
  obtain ⟨er, HER⟩ : ∃ er, Hid (er = openErr xs) := ⟨_, rfl⟩
  obtain ⟨kd, HKD⟩ : ∃ kd, Hid (kd = openKind xs) := ⟨_, rfl⟩
  obtain ⟨en, HEN⟩ : ∃ en, Hid (en = openEnd xs) := ⟨_, rfl⟩
  have huv : uv < 18446744073709551616 := by have := uread_lt xs; rw [HU.out] at this; exact this
  clear hx hb hT
  go_enter Tryd.func6, Tryd.ntmps6
  go_wp2_with fail
  refine (uint_any xs.length cb bo xs w rfl hl HX.out HBW.out).mono ?_
  rintro e w ⟨rfl, rfl⟩
  rw [HU.out]
  go_upto_region 2 with fail
  go_cut [43] (fun c wx => c = .bool false ∧ Hid (Below w.heap.size w wx))
  case first =>
    rename_i J KK hJ hKK
    by_cases h0 : ue = 0
    · subst h0
      obtain ⟨hf1, hf2, hf3⟩ := uread_form HX.out HU.out
      have HF1 : Hid ([] ++ uenc uv = xs.take uk) := hf1
      have HUL : Hid ((xs.take uk).length = uk) := by show _ = _; rw [List.length_take]; omega
      clear hf1
      have hb1 : decide ((uk : Int) < 1) = false := by simp; omega
      have hb2 : decide ((xs.length : Int) < (uk : Int)) = false := by simp; omega
      refine region_any_var (by kernel_rfl) ?_
      intro A hA
      have hsz : A.tmps.size = 118 := by rw [hA]; rfl
      have e0 : A.eval (.tmp 0) = .slice bo xs.length cb := by rw [hA]; rfl
      have e5 : A.eval (.tmp 5) = .int .u64 (uv : Int) := by rw [hA]; rfl
      have e6 : A.eval (.tmp 6) = .int .i64 (uk : Int) := by rw [hA]; rfl
      have e7 : A.eval (.tmp 7) = .int .i64 0 := by rw [hA]; rfl
      refine take_move (i := 0) 22 7 (.int .i64 0) rfl rfl rfl (by kernel_rfl) (by kernel_rfl) (by kernel_rfl) (fun _ _ _ h => h) rfl (by simp [e7]) ?_
      refine step_call (i := 1) 23 12 #[.int .i64 0] rfl rfl (by kernel_rfl) rfl (by unfold execOp; simp; go_simp) ?_
      refine (num_any _ _).mono ?_
      rintro e w5 ⟨rfl, rfl⟩
      refine ⟨_, rfl, ?_⟩
      refine take_run (i := 2) 24 (.bool true) rfl rfl (by kernel_rfl) (by kernel_rfl) (by kernel_rfl) (fun _ _ _ h => h) rfl (fun w => by unfold execOp; simp [ev_put, hsz, sz_put]; go_simp) ?_
      refine take_move (i := 3) 25 24 (.bool true) rfl rfl rfl (by kernel_rfl) (by kernel_rfl) (by kernel_rfl) (fun _ _ _ h => h) rfl (by simp [ev_put, hsz, sz_put]) ?_
      refine take_move (i := 4) 26 6 (.int .i64 (uk : Int)) rfl rfl rfl (by kernel_rfl) (by kernel_rfl) (by kernel_rfl) (fun _ _ _ h => h) (wants 3 25 true rfl rfl (by simp [sz_put, hsz]) (by simp [ev_put, hsz, sz_put])) (by simp [ev_put, e6]) ?_
      refine take_run (i := 5) 27 (.bool false) rfl rfl (by kernel_rfl) (by kernel_rfl) (by kernel_rfl) (fun _ _ _ h => h) (wants 3 25 true rfl rfl (by simp [sz_put, hsz]) (by simp [ev_put, hsz, sz_put])) (fun w => by unfold execOp; simp [ev_put, hsz, sz_put]; go_simp) ?_
      refine take_move (i := 6) 28 27 (.bool false) rfl rfl rfl (by kernel_rfl) (by kernel_rfl) (by kernel_rfl) (fun _ _ _ h => h) (wants 3 25 true rfl rfl (by simp [sz_put, hsz]) (by simp [ev_put, hsz, sz_put])) (by simp [ev_put, hsz, sz_put]) ?_
      refine take_move (i := 7) 29 6 (.int .i64 (uk : Int)) rfl rfl rfl (by kernel_rfl) (by kernel_rfl) (by kernel_rfl) (fun _ _ _ h => h) (wants 6 28 false rfl rfl (by simp [sz_put, hsz]) (by simp [ev_put, hsz, sz_put])) (by simp [ev_put, e6]) ?_
      refine take_move (i := 8) 30 0 (.slice bo xs.length cb) rfl rfl rfl (by kernel_rfl) (by kernel_rfl) (by kernel_rfl) (fun _ _ _ h => h) (wants 6 28 false rfl rfl (by simp [sz_put, hsz]) (by simp [ev_put, hsz, sz_put])) (by simp [ev_put, e0]) ?_
      refine take_run (i := 9) 31 (.int .i64 (xs.length : Int)) rfl rfl (by kernel_rfl) (by kernel_rfl) (by kernel_rfl) (fun _ _ _ h => h) (wants 6 28 false rfl rfl (by simp [sz_put, hsz]) (by simp [ev_put, hsz, sz_put])) (fun w => by unfold execOp; simp; go_simp) ?_
      refine take_run (i := 10) 32 (.bool false) rfl rfl (by kernel_rfl) (by kernel_rfl) (by kernel_rfl) (fun _ _ _ h => h) (wants 6 28 false rfl rfl (by simp [sz_put, hsz]) (by simp [ev_put, hsz, sz_put])) (fun w => by unfold execOp; simp [ev_put, hsz, sz_put]; go_simp) ?_
      refine take_run (i := 11) 33 (.bool false) rfl rfl (by kernel_rfl) (by kernel_rfl) (by kernel_rfl) (fun _ _ _ h => h) (wants 3 25 true rfl rfl (by simp [sz_put, hsz]) (by simp [ev_put, hsz, sz_put])) (fun w => by unfold execOp; simp [ev_put, hsz, sz_put]; go_simp) ?_
      refine take_move (i := 12) 34 33 (.bool false) rfl rfl rfl (by kernel_rfl) (by kernel_rfl) (by kernel_rfl) (fun _ _ _ h => h) (wants 3 25 true rfl rfl (by simp [sz_put, hsz]) (by simp [ev_put, hsz, sz_put])) (by simp [ev_put, hsz, sz_put]) ?_
      refine take_move (i := 13) 35 5 (.int .u64 (uv : Int)) rfl rfl rfl (by kernel_rfl) (by kernel_rfl) (by kernel_rfl) (fun _ _ _ h => h) (wants 12 34 false rfl rfl (by simp [sz_put, hsz]) (by simp [ev_put, hsz, sz_put])) (by simp [ev_put, e5]) ?_
      refine take_move (i := 15) 37 0 (.slice bo xs.length cb) rfl rfl rfl (by kernel_rfl) (by kernel_rfl) (by kernel_rfl) (fun _ _ _ h => h) (wants 12 34 false rfl rfl (by simp [sz_put, hsz]) (by simp [ev_put, hsz, sz_put])) (by simp [ev_put, e0]) ?_
      refine take_move (i := 16) 38 6 (.int .i64 (uk : Int)) rfl rfl rfl (by kernel_rfl) (by kernel_rfl) (by kernel_rfl) (fun _ _ _ h => h) (wants 12 34 false rfl rfl (by simp [sz_put, hsz]) (by simp [ev_put, hsz, sz_put])) (by simp [ev_put, e6]) ?_
      refine take_run (i := 17) 39 (.slice bo uk cb) rfl rfl (by kernel_rfl) (by kernel_rfl) (by kernel_rfl) (fun _ _ _ h => h) (wants 12 34 false rfl rfl (by simp [sz_put, hsz]) (by simp [ev_put, hsz, sz_put])) (fun w => by unfold execOp; simp [ev_put, hsz, sz_put]; go_simp; intro h; exact absurd h (by omega)) ?_
      refine step_call (i := 14) 36 20 #[.slice none 0 0, .int .u64 (uv : Int)] rfl rfl (by kernel_rfl) (wants 12 34 false rfl rfl (by simp [sz_put, hsz]) (by simp [ev_put, hsz, sz_put])) (by unfold execOp; simp; go_simp) ?_
      refine (putUint_any uv 0 0 none [] _ huv rfl (by omega) (.inl rfl)).mono ?_
      rintro e w5 ⟨ro, rn, rc, rfl, h5⟩
      refine ⟨_, rfl, ?_⟩
      refine step_call (i := 18) 40 19 #[.slice ro rn rc, .slice bo uk cb] rfl rfl (by kernel_rfl) (wants 12 34 false rfl rfl (by simp [sz_put, hsz]) (by simp [ev_put, hsz, sz_put])) (by unfold execOp; simp; go_simp) ?_
      refine (same_true' rn uk rc cb ro bo (xs.take uk) _ (by have := h5.out.1; rw [HF1.out] at this; exact this) HUL.out.symm (by have := h5.out.2.2.1; rw [HF1.out] at this; exact this) (by exact (HBW.out.takeN uk).keep (below_undrewN (n := 1) h5.out.2.2.2.2)) (lt_take HX.out _)).mono ?_
      rintro e w6 ⟨rfl, hw6⟩
      subst hw6
      refine ⟨_, rfl, ?_⟩
      refine take_run (i := 19) 41 (.bool false) rfl rfl (by kernel_rfl) (by kernel_rfl) (by kernel_rfl) (fun _ _ _ h => h) (wants 12 34 false rfl rfl (by simp [sz_put, hsz]) (by simp [ev_put, hsz, sz_put])) (fun w => by unfold execOp; simp [ev_put, hsz, sz_put]; go_simp) ?_
      refine take_run (i := 20) 42 (.bool false) rfl rfl (by kernel_rfl) (by kernel_rfl) (by kernel_rfl) (fun _ _ _ h => h) (wants 3 25 true rfl rfl (by simp [sz_put, hsz]) (by simp [ev_put, hsz, sz_put])) (fun w => by unfold execOp; simp [ev_put, hsz, sz_put]; go_simp) ?_
      refine take_run (i := 21) 43 (.bool false) rfl rfl (by kernel_rfl) (by kernel_rfl) (by kernel_rfl) (fun _ _ _ h => h) rfl (fun w => by unfold execOp; simp [ev_put, hsz, sz_put]; go_simp) ?_
      refine wpAny_done (by kernel_rfl) ?_ _
      subst hA
      refine hKK _ _ (Met.intro (hJ _ _ ?_))
      simp only [put_mk, List.set_cons_succ, List.set_cons_zero]
      (repeat apply Exists.intro)
      refine ⟨?_, rfl⟩
      exact ⟨rfl, below_undrewN (n := 1) h5.out.2.2.2.2⟩
    · have hne : ((ue : Int) == 0) = false := by rw [beq_eq_false_iff_ne]; omega
      refine region_any_var (by kernel_rfl) ?_
      intro A hA
      have hsz : A.tmps.size = 118 := by rw [hA]; rfl
      have e7 : A.eval (.tmp 7) = .int .i64 (ue : Int) := by rw [hA]; rfl
      refine take_move (i := 0) 22 7 (.int .i64 (ue : Int)) rfl rfl rfl (by kernel_rfl) (by kernel_rfl) (by kernel_rfl) (fun _ _ _ h => h) rfl (by simp [e7]) ?_
      refine step_call (i := 1) 23 12 #[.int .i64 (ue : Int)] rfl rfl (by kernel_rfl) rfl (by unfold execOp; simp; go_simp) ?_
      refine (num_any _ _).mono ?_
      rintro e w5 ⟨rfl, rfl⟩
      refine ⟨_, rfl, ?_⟩
      refine take_run (i := 2) 24 (.bool false) rfl rfl (by kernel_rfl) (by kernel_rfl) (by kernel_rfl) (fun _ _ _ h => h) rfl (fun w => by unfold execOp; simp [ev_put, hsz, sz_put]; go_simp) ?_
      refine take_move (i := 3) 25 24 (.bool false) rfl rfl rfl (by kernel_rfl) (by kernel_rfl) (by kernel_rfl) (fun _ _ _ h => h) rfl (by simp [ev_put, hsz, sz_put]) ?_
      refine take_skip (i := 4) 26 rfl rfl (by kernel_rfl) (by kernel_rfl) (by kernel_rfl) (fun _ _ _ h => h) (skips 3 25 true rfl rfl (by simp [sz_put, hsz]) (by simp [ev_put, hsz, sz_put])) ?_
      refine take_skip (i := 5) 27 rfl rfl (by kernel_rfl) (by kernel_rfl) (by kernel_rfl) (fun _ _ _ h => h) (skips 3 25 true rfl rfl (by simp [sz_put, hsz]) (by simp [ev_put, hsz, sz_put])) ?_
      refine take_skip (i := 6) 28 rfl rfl (by kernel_rfl) (by kernel_rfl) (by kernel_rfl) (fun _ _ _ h => h) (skips 3 25 true rfl rfl (by simp [sz_put, hsz]) (by simp [ev_put, hsz, sz_put])) ?_
      refine take_skip (i := 7) 29 rfl rfl (by kernel_rfl) (by kernel_rfl) (by kernel_rfl) (fun _ _ _ h => h) (skips_undef 6 28 false rfl rfl (by simp [ev_put, hsz, sz_put])) ?_
      refine take_skip (i := 8) 30 rfl rfl (by kernel_rfl) (by kernel_rfl) (by kernel_rfl) (fun _ _ _ h => h) (skips_undef 6 28 false rfl rfl (by simp [ev_put, hsz, sz_put])) ?_
      refine take_skip (i := 9) 31 rfl rfl (by kernel_rfl) (by kernel_rfl) (by kernel_rfl) (fun _ _ _ h => h) (skips_undef 6 28 false rfl rfl (by simp [ev_put, hsz, sz_put])) ?_
      refine take_skip (i := 10) 32 rfl rfl (by kernel_rfl) (by kernel_rfl) (by kernel_rfl) (fun _ _ _ h => h) (skips_undef 6 28 false rfl rfl (by simp [ev_put, hsz, sz_put])) ?_
      refine take_skip (i := 11) 33 rfl rfl (by kernel_rfl) (by kernel_rfl) (by kernel_rfl) (fun _ _ _ h => h) (skips 3 25 true rfl rfl (by simp [sz_put, hsz]) (by simp [ev_put, hsz, sz_put])) ?_
      refine take_skip (i := 12) 34 rfl rfl (by kernel_rfl) (by kernel_rfl) (by kernel_rfl) (fun _ _ _ h => h) (skips 3 25 true rfl rfl (by simp [sz_put, hsz]) (by simp [ev_put, hsz, sz_put])) ?_
      refine take_skip (i := 13) 35 rfl rfl (by kernel_rfl) (by kernel_rfl) (by kernel_rfl) (fun _ _ _ h => h) (skips_undef 12 34 false rfl rfl (by simp [ev_put, hsz, sz_put])) ?_
      refine take_skip (i := 14) 36 rfl rfl (by kernel_rfl) (by kernel_rfl) (by kernel_rfl) (fun _ _ _ h => h) (skips_undef 12 34 false rfl rfl (by simp [ev_put, hsz, sz_put])) ?_
      refine take_skip (i := 15) 37 rfl rfl (by kernel_rfl) (by kernel_rfl) (by kernel_rfl) (fun _ _ _ h => h) (skips_undef 12 34 false rfl rfl (by simp [ev_put, hsz, sz_put])) ?_
      refine take_skip (i := 16) 38 rfl rfl (by kernel_rfl) (by kernel_rfl) (by kernel_rfl) (fun _ _ _ h => h) (skips_undef 12 34 false rfl rfl (by simp [ev_put, hsz, sz_put])) ?_
      refine take_skip (i := 17) 39 rfl rfl (by kernel_rfl) (by kernel_rfl) (by kernel_rfl) (fun _ _ _ h => h) (skips_undef 12 34 false rfl rfl (by simp [ev_put, hsz, sz_put])) ?_
      refine take_skip (i := 18) 40 rfl rfl (by kernel_rfl) (by kernel_rfl) (by kernel_rfl) (fun _ _ _ h => h) (skips_undef 12 34 false rfl rfl (by simp [ev_put, hsz, sz_put])) ?_
      refine take_skip (i := 19) 41 rfl rfl (by kernel_rfl) (by kernel_rfl) (by kernel_rfl) (fun _ _ _ h => h) (skips_undef 12 34 false rfl rfl (by simp [ev_put, hsz, sz_put])) ?_
      refine take_skip (i := 20) 42 rfl rfl (by kernel_rfl) (by kernel_rfl) (by kernel_rfl) (fun _ _ _ h => h) (skips 3 25 true rfl rfl (by simp [sz_put, hsz]) (by simp [ev_put, hsz, sz_put])) ?_
      refine take_run (i := 21) 43 (.bool false) rfl rfl (by kernel_rfl) (by kernel_rfl) (by kernel_rfl) (fun _ _ _ h => h) rfl (fun w => by unfold execOp; simp [ev_put, hsz, sz_put]; go_simp) ?_
      refine wpAny_done (by kernel_rfl) ?_ _
      subst hA
      refine hKK _ _ (Met.intro (hJ _ _ ?_))
      simp only [put_mk, List.set_cons_succ, List.set_cons_zero]
      (repeat apply Exists.intro)
      refine ⟨?_, rfl⟩
      exact ⟨rfl, (Below.refl _ _).drew⟩
  case rest =>
    obtain ⟨rfl, hL1⟩ := hcut
    have HB1 : Hid (Row wc bo xs) := HBW.out.keep hL1.out
    go_wp2_with fail
    refine (text_any xs.length cb bo most xs wc rfl hcb hl hm HX.out HB1.out).mono ?_
    rintro e w2 ⟨rfl, rfl⟩
    rw [HV.out]
    go_upto_region 5 with fail
    go_cut [78] (fun c wx => c = .bool false ∧ Hid (Below w2.heap.size w2 wx))
    case first =>
      rename_i J KK hJ hKK
      by_cases h0 : te = 0
      · subst h0
        obtain ⟨hf1, hf2, hf3, hf4, hf5, hf6⟩ := textOf_form HX.out HV.out
        have HF1 : Hid ([] ++ uenc (bstr tv).size ++ sbytes (bstr tv) = xs.take tk) := by show _ = _; rw [sbytes_bstr hf5, bstr_size]; exact hf1
        have HUL : Hid ((xs.take tk).length = tk) := by show _ = _; rw [List.length_take]; omega
        have hbs : (bstr tv).size = tv.length := bstr_size tv
        clear hf1 hf5
        have hb1 : decide ((tk : Int) < 1) = false := by simp; omega
        have hb2 : decide ((xs.length : Int) < (tk : Int)) = false := by simp; omega
        have hb3 : decide (most < (tv.length : Int)) = false := by simp; omega
        refine region_any_var (by kernel_rfl) ?_
        intro A hA
        have hsz : A.tmps.size = 118 := by rw [hA]; rfl
        have e0 : A.eval (.tmp 0) = .slice bo xs.length cb := by rw [hA]; rfl
        have e1 : A.eval (.tmp 1) = .int .i64 most := by rw [hA]; rfl
        have e8 : A.eval (.tmp 8) = .string (bstr tv) := by rw [hA]; rfl
        have e9 : A.eval (.tmp 9) = .int .i64 (tk : Int) := by rw [hA]; rfl
        have e10 : A.eval (.tmp 10) = .int .i64 0 := by rw [hA]; rfl
        refine take_move (i := 0) 51 10 (.int .i64 0) rfl rfl rfl (by kernel_rfl) (by kernel_rfl) (by kernel_rfl) (fun _ _ _ h => h) rfl (by simp [e10]) ?_
        refine step_call (i := 1) 52 12 #[.int .i64 0] rfl rfl (by kernel_rfl) rfl (by unfold execOp; simp; go_simp) ?_
        refine (num_any _ _).mono ?_
        rintro e w5 ⟨rfl, rfl⟩
        refine ⟨_, rfl, ?_⟩
        refine take_run (i := 2) 53 (.bool true) rfl rfl (by kernel_rfl) (by kernel_rfl) (by kernel_rfl) (fun _ _ _ h => h) rfl (fun w => by unfold execOp; simp [ev_put, hsz, sz_put]; go_simp) ?_
        refine take_move (i := 3) 54 53 (.bool true) rfl rfl rfl (by kernel_rfl) (by kernel_rfl) (by kernel_rfl) (fun _ _ _ h => h) rfl (by simp [ev_put, hsz, sz_put]) ?_
        refine take_move (i := 4) 55 9 (.int .i64 (tk : Int)) rfl rfl rfl (by kernel_rfl) (by kernel_rfl) (by kernel_rfl) (fun _ _ _ h => h) (wants 3 54 true rfl rfl (by simp [sz_put, hsz]) (by simp [ev_put, hsz, sz_put])) (by simp [ev_put, e9]) ?_
        refine take_run (i := 5) 56 (.bool false) rfl rfl (by kernel_rfl) (by kernel_rfl) (by kernel_rfl) (fun _ _ _ h => h) (wants 3 54 true rfl rfl (by simp [sz_put, hsz]) (by simp [ev_put, hsz, sz_put])) (fun w => by unfold execOp; simp [ev_put, hsz, sz_put]; go_simp) ?_
        refine take_move (i := 6) 57 56 (.bool false) rfl rfl rfl (by kernel_rfl) (by kernel_rfl) (by kernel_rfl) (fun _ _ _ h => h) (wants 3 54 true rfl rfl (by simp [sz_put, hsz]) (by simp [ev_put, hsz, sz_put])) (by simp [ev_put, hsz, sz_put]) ?_
        refine take_move (i := 7) 58 9 (.int .i64 (tk : Int)) rfl rfl rfl (by kernel_rfl) (by kernel_rfl) (by kernel_rfl) (fun _ _ _ h => h) (wants 6 57 false rfl rfl (by simp [sz_put, hsz]) (by simp [ev_put, hsz, sz_put])) (by simp [ev_put, e9]) ?_
        refine take_move (i := 8) 59 0 (.slice bo xs.length cb) rfl rfl rfl (by kernel_rfl) (by kernel_rfl) (by kernel_rfl) (fun _ _ _ h => h) (wants 6 57 false rfl rfl (by simp [sz_put, hsz]) (by simp [ev_put, hsz, sz_put])) (by simp [ev_put, e0]) ?_
        refine take_run (i := 9) 60 (.int .i64 (xs.length : Int)) rfl rfl (by kernel_rfl) (by kernel_rfl) (by kernel_rfl) (fun _ _ _ h => h) (wants 6 57 false rfl rfl (by simp [sz_put, hsz]) (by simp [ev_put, hsz, sz_put])) (fun w => by unfold execOp; simp; go_simp) ?_
        refine take_run (i := 10) 61 (.bool false) rfl rfl (by kernel_rfl) (by kernel_rfl) (by kernel_rfl) (fun _ _ _ h => h) (wants 6 57 false rfl rfl (by simp [sz_put, hsz]) (by simp [ev_put, hsz, sz_put])) (fun w => by unfold execOp; simp [ev_put, hsz, sz_put]; go_simp) ?_
        refine take_run (i := 11) 62 (.bool false) rfl rfl (by kernel_rfl) (by kernel_rfl) (by kernel_rfl) (fun _ _ _ h => h) (wants 3 54 true rfl rfl (by simp [sz_put, hsz]) (by simp [ev_put, hsz, sz_put])) (fun w => by unfold execOp; simp [ev_put, hsz, sz_put]; go_simp) ?_
        refine take_move (i := 12) 63 62 (.bool false) rfl rfl rfl (by kernel_rfl) (by kernel_rfl) (by kernel_rfl) (fun _ _ _ h => h) (wants 3 54 true rfl rfl (by simp [sz_put, hsz]) (by simp [ev_put, hsz, sz_put])) (by simp [ev_put, hsz, sz_put]) ?_
        refine take_move (i := 13) 64 8 (.string (bstr tv)) rfl rfl rfl (by kernel_rfl) (by kernel_rfl) (by kernel_rfl) (fun _ _ _ h => h) (wants 12 63 false rfl rfl (by simp [sz_put, hsz]) (by simp [ev_put, hsz, sz_put])) (by simp [ev_put, e8]) ?_
        refine take_run (i := 14) 65 (.int .i64 (tv.length : Int)) rfl rfl (by kernel_rfl) (by kernel_rfl) (by kernel_rfl) (fun _ _ _ h => h) (wants 12 63 false rfl rfl (by simp [sz_put, hsz]) (by simp [ev_put, hsz, sz_put])) (fun w => by unfold execOp; simp; go_simp) ?_
        refine take_move (i := 15) 66 1 (.int .i64 most) rfl rfl rfl (by kernel_rfl) (by kernel_rfl) (by kernel_rfl) (fun _ _ _ h => h) (wants 12 63 false rfl rfl (by simp [sz_put, hsz]) (by simp [ev_put, hsz, sz_put])) (by simp [ev_put, e1]) ?_
        refine take_run (i := 16) 67 (.bool false) rfl rfl (by kernel_rfl) (by kernel_rfl) (by kernel_rfl) (fun _ _ _ h => h) (wants 12 63 false rfl rfl (by simp [sz_put, hsz]) (by simp [ev_put, hsz, sz_put])) (fun w => by unfold execOp; simp [ev_put, hsz, sz_put]; go_simp) ?_
        refine take_run (i := 17) 68 (.bool false) rfl rfl (by kernel_rfl) (by kernel_rfl) (by kernel_rfl) (fun _ _ _ h => h) (wants 3 54 true rfl rfl (by simp [sz_put, hsz]) (by simp [ev_put, hsz, sz_put])) (fun w => by unfold execOp; simp [ev_put, hsz, sz_put]; go_simp) ?_
        refine take_move (i := 18) 69 68 (.bool false) rfl rfl rfl (by kernel_rfl) (by kernel_rfl) (by kernel_rfl) (fun _ _ _ h => h) (wants 3 54 true rfl rfl (by simp [sz_put, hsz]) (by simp [ev_put, hsz, sz_put])) (by simp [ev_put, hsz, sz_put]) ?_
        refine take_move (i := 19) 70 8 (.string (bstr tv)) rfl rfl rfl (by kernel_rfl) (by kernel_rfl) (by kernel_rfl) (fun _ _ _ h => h) (wants 18 69 false rfl rfl (by simp [sz_put, hsz]) (by simp [ev_put, hsz, sz_put])) (by simp [ev_put, e8]) ?_
        refine take_move (i := 21) 72 0 (.slice bo xs.length cb) rfl rfl rfl (by kernel_rfl) (by kernel_rfl) (by kernel_rfl) (fun _ _ _ h => h) (wants 18 69 false rfl rfl (by simp [sz_put, hsz]) (by simp [ev_put, hsz, sz_put])) (by simp [ev_put, e0]) ?_
        refine take_move (i := 22) 73 9 (.int .i64 (tk : Int)) rfl rfl rfl (by kernel_rfl) (by kernel_rfl) (by kernel_rfl) (fun _ _ _ h => h) (wants 18 69 false rfl rfl (by simp [sz_put, hsz]) (by simp [ev_put, hsz, sz_put])) (by simp [ev_put, e9]) ?_
        refine take_run (i := 23) 74 (.slice bo tk cb) rfl rfl (by kernel_rfl) (by kernel_rfl) (by kernel_rfl) (fun _ _ _ h => h) (wants 18 69 false rfl rfl (by simp [sz_put, hsz]) (by simp [ev_put, hsz, sz_put])) (fun w => by unfold execOp; simp [ev_put, hsz, sz_put]; go_simp; intro h; exact absurd h (by omega)) ?_
        refine step_call (i := 20) 71 22 #[.slice none 0 0, .string (bstr tv)] rfl rfl (by kernel_rfl) (wants 18 69 false rfl rfl (by simp [sz_put, hsz]) (by simp [ev_put, hsz, sz_put])) (by unfold execOp; simp; go_simp) ?_
        refine (putText_any 0 0 none [] (bstr tv) _ rfl (by omega) (by omega) (.inl rfl)).mono ?_
        rintro e w5 ⟨ro, rn, rc, rfl, h5⟩
        refine ⟨_, rfl, ?_⟩
        refine step_call (i := 24) 75 19 #[.slice ro rn rc, .slice bo tk cb] rfl rfl (by kernel_rfl) (wants 18 69 false rfl rfl (by simp [sz_put, hsz]) (by simp [ev_put, hsz, sz_put])) (by unfold execOp; simp; go_simp) ?_
        refine (same_true' rn tk rc cb ro bo (xs.take tk) _ (by have := h5.out.1; rw [HF1.out] at this; exact this) HUL.out.symm (by have := h5.out.2.2.1; rw [HF1.out] at this; exact this) (by exact (HB1.out.takeN tk).keep (below_undrewN (n := 1) h5.out.2.2.2.2)) (lt_take HX.out _)).mono ?_
        rintro e w6 ⟨rfl, hw6⟩
        subst hw6
        refine ⟨_, rfl, ?_⟩
        refine take_run (i := 25) 76 (.bool false) rfl rfl (by kernel_rfl) (by kernel_rfl) (by kernel_rfl) (fun _ _ _ h => h) (wants 18 69 false rfl rfl (by simp [sz_put, hsz]) (by simp [ev_put, hsz, sz_put])) (fun w => by unfold execOp; simp [ev_put, hsz, sz_put]; go_simp) ?_
        refine take_run (i := 26) 77 (.bool false) rfl rfl (by kernel_rfl) (by kernel_rfl) (by kernel_rfl) (fun _ _ _ h => h) (wants 3 54 true rfl rfl (by simp [sz_put, hsz]) (by simp [ev_put, hsz, sz_put])) (fun w => by unfold execOp; simp [ev_put, hsz, sz_put]; go_simp) ?_
        refine take_run (i := 27) 78 (.bool false) rfl rfl (by kernel_rfl) (by kernel_rfl) (by kernel_rfl) (fun _ _ _ h => h) rfl (fun w => by unfold execOp; simp [ev_put, hsz, sz_put]; go_simp) ?_
        refine wpAny_done (by kernel_rfl) ?_ _
        subst hA
        refine hKK _ _ (Met.intro (hJ _ _ ?_))
        simp only [put_mk, List.set_cons_succ, List.set_cons_zero]
        (repeat apply Exists.intro)
        refine ⟨?_, rfl⟩
        exact ⟨rfl, below_undrewN (n := 1) h5.out.2.2.2.2⟩
      · have hne : ((te : Int) == 0) = false := by rw [beq_eq_false_iff_ne]; omega
        refine region_any_var (by kernel_rfl) ?_
        intro A hA
        have hsz : A.tmps.size = 118 := by rw [hA]; rfl
        have e10 : A.eval (.tmp 10) = .int .i64 (te : Int) := by rw [hA]; rfl
        refine take_move (i := 0) 51 10 (.int .i64 (te : Int)) rfl rfl rfl (by kernel_rfl) (by kernel_rfl) (by kernel_rfl) (fun _ _ _ h => h) rfl (by simp [e10]) ?_
        refine step_call (i := 1) 52 12 #[.int .i64 (te : Int)] rfl rfl (by kernel_rfl) rfl (by unfold execOp; simp; go_simp) ?_
        refine (num_any _ _).mono ?_
        rintro e w5 ⟨rfl, rfl⟩
        refine ⟨_, rfl, ?_⟩
        refine take_run (i := 2) 53 (.bool false) rfl rfl (by kernel_rfl) (by kernel_rfl) (by kernel_rfl) (fun _ _ _ h => h) rfl (fun w => by unfold execOp; simp [ev_put, hsz, sz_put]; go_simp) ?_
        refine take_move (i := 3) 54 53 (.bool false) rfl rfl rfl (by kernel_rfl) (by kernel_rfl) (by kernel_rfl) (fun _ _ _ h => h) rfl (by simp [ev_put, hsz, sz_put]) ?_
        refine take_skip (i := 4) 55 rfl rfl (by kernel_rfl) (by kernel_rfl) (by kernel_rfl) (fun _ _ _ h => h) (skips 3 54 true rfl rfl (by simp [sz_put, hsz]) (by simp [ev_put, hsz, sz_put])) ?_
        refine take_skip (i := 5) 56 rfl rfl (by kernel_rfl) (by kernel_rfl) (by kernel_rfl) (fun _ _ _ h => h) (skips 3 54 true rfl rfl (by simp [sz_put, hsz]) (by simp [ev_put, hsz, sz_put])) ?_
        refine take_skip (i := 6) 57 rfl rfl (by kernel_rfl) (by kernel_rfl) (by kernel_rfl) (fun _ _ _ h => h) (skips 3 54 true rfl rfl (by simp [sz_put, hsz]) (by simp [ev_put, hsz, sz_put])) ?_
        refine take_skip (i := 7) 58 rfl rfl (by kernel_rfl) (by kernel_rfl) (by kernel_rfl) (fun _ _ _ h => h) (skips_undef 6 57 false rfl rfl (by simp [ev_put, hsz, sz_put])) ?_
        refine take_skip (i := 8) 59 rfl rfl (by kernel_rfl) (by kernel_rfl) (by kernel_rfl) (fun _ _ _ h => h) (skips_undef 6 57 false rfl rfl (by simp [ev_put, hsz, sz_put])) ?_
        refine take_skip (i := 9) 60 rfl rfl (by kernel_rfl) (by kernel_rfl) (by kernel_rfl) (fun _ _ _ h => h) (skips_undef 6 57 false rfl rfl (by simp [ev_put, hsz, sz_put])) ?_
        refine take_skip (i := 10) 61 rfl rfl (by kernel_rfl) (by kernel_rfl) (by kernel_rfl) (fun _ _ _ h => h) (skips_undef 6 57 false rfl rfl (by simp [ev_put, hsz, sz_put])) ?_
        refine take_skip (i := 11) 62 rfl rfl (by kernel_rfl) (by kernel_rfl) (by kernel_rfl) (fun _ _ _ h => h) (skips 3 54 true rfl rfl (by simp [sz_put, hsz]) (by simp [ev_put, hsz, sz_put])) ?_
        refine take_skip (i := 12) 63 rfl rfl (by kernel_rfl) (by kernel_rfl) (by kernel_rfl) (fun _ _ _ h => h) (skips 3 54 true rfl rfl (by simp [sz_put, hsz]) (by simp [ev_put, hsz, sz_put])) ?_
        refine take_skip (i := 13) 64 rfl rfl (by kernel_rfl) (by kernel_rfl) (by kernel_rfl) (fun _ _ _ h => h) (skips_undef 12 63 false rfl rfl (by simp [ev_put, hsz, sz_put])) ?_
        refine take_skip (i := 14) 65 rfl rfl (by kernel_rfl) (by kernel_rfl) (by kernel_rfl) (fun _ _ _ h => h) (skips_undef 12 63 false rfl rfl (by simp [ev_put, hsz, sz_put])) ?_
        refine take_skip (i := 15) 66 rfl rfl (by kernel_rfl) (by kernel_rfl) (by kernel_rfl) (fun _ _ _ h => h) (skips_undef 12 63 false rfl rfl (by simp [ev_put, hsz, sz_put])) ?_
        refine take_skip (i := 16) 67 rfl rfl (by kernel_rfl) (by kernel_rfl) (by kernel_rfl) (fun _ _ _ h => h) (skips_undef 12 63 false rfl rfl (by simp [ev_put, hsz, sz_put])) ?_
        refine take_skip (i := 17) 68 rfl rfl (by kernel_rfl) (by kernel_rfl) (by kernel_rfl) (fun _ _ _ h => h) (skips 3 54 true rfl rfl (by simp [sz_put, hsz]) (by simp [ev_put, hsz, sz_put])) ?_
        refine take_skip (i := 18) 69 rfl rfl (by kernel_rfl) (by kernel_rfl) (by kernel_rfl) (fun _ _ _ h => h) (skips 3 54 true rfl rfl (by simp [sz_put, hsz]) (by simp [ev_put, hsz, sz_put])) ?_
        refine take_skip (i := 19) 70 rfl rfl (by kernel_rfl) (by kernel_rfl) (by kernel_rfl) (fun _ _ _ h => h) (skips_undef 18 69 false rfl rfl (by simp [ev_put, hsz, sz_put])) ?_
        refine take_skip (i := 20) 71 rfl rfl (by kernel_rfl) (by kernel_rfl) (by kernel_rfl) (fun _ _ _ h => h) (skips_undef 18 69 false rfl rfl (by simp [ev_put, hsz, sz_put])) ?_
        refine take_skip (i := 21) 72 rfl rfl (by kernel_rfl) (by kernel_rfl) (by kernel_rfl) (fun _ _ _ h => h) (skips_undef 18 69 false rfl rfl (by simp [ev_put, hsz, sz_put])) ?_
        refine take_skip (i := 22) 73 rfl rfl (by kernel_rfl) (by kernel_rfl) (by kernel_rfl) (fun _ _ _ h => h) (skips_undef 18 69 false rfl rfl (by simp [ev_put, hsz, sz_put])) ?_
        refine take_skip (i := 23) 74 rfl rfl (by kernel_rfl) (by kernel_rfl) (by kernel_rfl) (fun _ _ _ h => h) (skips_undef 18 69 false rfl rfl (by simp [ev_put, hsz, sz_put])) ?_
        refine take_skip (i := 24) 75 rfl rfl (by kernel_rfl) (by kernel_rfl) (by kernel_rfl) (fun _ _ _ h => h) (skips_undef 18 69 false rfl rfl (by simp [ev_put, hsz, sz_put])) ?_
        refine take_skip (i := 25) 76 rfl rfl (by kernel_rfl) (by kernel_rfl) (by kernel_rfl) (fun _ _ _ h => h) (skips_undef 18 69 false rfl rfl (by simp [ev_put, hsz, sz_put])) ?_
        refine take_skip (i := 26) 77 rfl rfl (by kernel_rfl) (by kernel_rfl) (by kernel_rfl) (fun _ _ _ h => h) (skips 3 54 true rfl rfl (by simp [sz_put, hsz]) (by simp [ev_put, hsz, sz_put])) ?_
        refine take_run (i := 27) 78 (.bool false) rfl rfl (by kernel_rfl) (by kernel_rfl) (by kernel_rfl) (fun _ _ _ h => h) rfl (fun w => by unfold execOp; simp [ev_put, hsz, sz_put]; go_simp) ?_
        refine wpAny_done (by kernel_rfl) ?_ _
        subst hA
        refine hKK _ _ (Met.intro (hJ _ _ ?_))
        simp only [put_mk, List.set_cons_succ, List.set_cons_zero]
        (repeat apply Exists.intro)
        refine ⟨?_, rfl⟩
        exact ⟨rfl, (Below.refl _ _).drew⟩
    case rest =>
      obtain ⟨rfl, hL2⟩ := hcut
      have HL3 : Hid (Below w.heap.size w wc) := hL1.out.trans (hL2.out.mono hL1.out.size)
      have HB3 : Hid (Row wc bo xs) := HBW.out.keep HL3.out
      have HT3 : Hid (Tab wc) := HT.out.keep HL3.out
      clear hL1 hL2 HB1 HBW HT HU HV huv
      go_wp2_with fail
      refine (open_all xs.length cb bo xs wc rfl hcb hl HX.out HB3.out HT3.out).mono ?_
      rintro e w4 ⟨po, pn, pc, rfl, h4⟩
      rw [← HER.out, ← HKD.out, ← HEN.out]
      have HM4 : Hid (Made wc w4 po pn pc out) := by show Made wc w4 po pn pc out; rw [HOU.out]; exact h4.out
      have HL4 : Hid (Below w.heap.size w w4) := HL3.out.trans (HM4.out.2.2.2.2.mono HL3.out.size)
      have HB4 : Hid (Row w4 bo xs) := HB3.out.keep HM4.out.2.2.2.2
      have HT4 : Hid (Tab w4) := HT3.out.keep HM4.out.2.2.2.2
      have hs4 := HL4.out.size
      clear h4 HL3 HB3 HT3
      by_cases h0 : er = 0
      · subst h0
        have hok : openErr xs = 0 := HER.out.symm
        obtain ⟨hf1, hf2, hf3, hf4⟩ := openForm HX.out hok
        have k1 : kd = xs.getD 8 0 := by rw [HKD.out]; unfold openKind; rw [if_pos hok]
        have k2 : en = 9 + num4 xs := by rw [HEN.out]; unfold openEnd; rw [if_pos hok]
        have k3 : out = openLoad xs := by rw [HOU.out]; unfold openOut; rw [if_pos hok]
        have hkd2 : kd < 256 := by rw [k1]; exact lt_get HX.out 8
        have hkd1 : 0 < kd := by rw [k1]; omega
        have hen9 : 9 ≤ en := by omega
        have henl : en ≤ xs.length := by omega
        have HSE : Hid (sealed kd out = xs.take en) := by show _ = _; rw [k1, k2, k3]; exact hf1
        have HTL : Hid ((xs.take en).length = en) := by show _ = _; rw [List.length_take]; omega
        have HOL : Hid (9 + pn = en ∧ pn ≤ 2097152) := by
          have e1 := HM4.out.1
          rw [k3, openLoad_length hf2] at e1
          exact ⟨by omega, by omega⟩
        have HUO : Hid (∀ x ∈ out, x < 256) := by show ∀ x ∈ out, x < 256; rw [HOU.out]; exact openOut_lt HX.out
        clear hf1 hf2 hf3 hf4 k1 k2 k3 hok
        have hb1 : ((en : Int) < 9) = False := by rw [eq_iff_iff, iff_false]; omega
        have hb2 : ((xs.length : Int) < (en : Int)) = False := by rw [eq_iff_iff, iff_false]; omega
        go_wp2_with (go_at_call 12; refine (num_any _ _).mono ?_; rintro e w5 ⟨rfl, rfl⟩)
        refine (seal_any pc kd po pn out _ hkd1 hkd2 HM4.out.1 HOL.out.2 HUO.out (by exact HM4.out.2.2.1.keep (below_new _ _)) (by exact HT4.out.keep (below_new _ _))).mono ?_
        rintro e w5 ⟨rfl, h5⟩
        have HL45 : Hid (Below w4.heap.size w4 w5) := (below_new _ _).trans (h5.out.2.mono (by simp))
        have HL5 : Hid (Below w.heap.size w w5) := HL4.out.trans (HL45.out.mono hs4)
        have HB5 : Hid (Row w5 bo xs) := HB4.out.keep HL45.out
        have HT5 : Hid (Tab w5) := HT4.out.keep HL45.out
        have HK5 : Hid (Blk w5 (w4.heap.size + 1) (xs.take en)) := by
          have hk := h5.out.1
          rw [HSE.out] at hk
          show Blk w5 (w4.heap.size + 1) (xs.take en)
          simpa using hk
        clear h5 HL45
        go_wp2_with (go_at_call 12; refine (num_any _ _).mono ?_; rintro e w6 ⟨rfl, rfl⟩)
        refine (same_true' (9 + pn) en (9 + pn) cb _ bo (xs.take en) _ (by rw [HTL.out]; exact HOL.out.1) HTL.out.symm (by exact HK5.out.row) (by exact HB5.out.takeN en) (lt_take HX.out _)).mono ?_
        rintro e w7 ⟨rfl, hw7⟩
        subst hw7
        go_wp2_with fail
        refine (live_true _ (by exact HT5.out)).mono ?_
        rintro e w8 ⟨rfl, h8⟩
        have HL6 : Hid (Below w.heap.size w w8) := HL5.out.trans (h8.mono HL5.out.size)
        clear h8
        go_wp2
        go_ret
        exact ⟨rfl, HL6.out⟩
      · have hne : ((er : Int) == 0) = false := by rw [beq_eq_false_iff_ne]; omega
        go_wp2_with (go_at_call 12; refine (num_any _ _).mono ?_; rintro e w5 ⟨rfl, rfl⟩)
        refine (live_true _ (by exact HT4.out.keep (below_new _ _))).mono ?_
        rintro e w6 ⟨rfl, h6⟩
        have HL6 : Hid (Below w.heap.size w w6) := HL4.out.trans ((((below_new w4 _).trans (h6.mono (by simp)))).mono hs4)
        clear h6
        go_wp2
        go_ret
        exact ⟨rfl, HL6.out⟩
end Go.Proofs.YtmgppjfohabdmabDoor
