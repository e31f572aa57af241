/- The document's Wait and Sweep. -/
import Derived.Test.YtbhlciaigadlkaaQRefD
namespace Go.Proofs.Ytbhlciaigadlkaa
open Go.RowKit Go.Maps

set_option maxHeartbeats 2000000 in
set_option maxRecDepth 100000 in
theorem rwait_any (S : LS) (hS : Ok S) (ao : Option Addr) (n c now : Nat) (nm : Nm) (L : Tab) (w : World) (hn : n = L.length) (hV : VSee w ao L) (hR : RI S L) (hnow : now < 18446744073709551616) (hnb : n ≤ 9223372036854775807) :
    Calls Try.prog 23 #[.agg (rcl S (.slice ao n c)).toArray, .string (str nm), .int .u64 (now : Int)] w fun e w' => e = .returned (.int .u64 (S.wait nm now : Int)) ∧ Below w.heap.size w w' := by
  have HB := hide (Bl.new w #[.int .i64 (S.tries : Int), .int .u64 (S.win : Int), .int .i64 (S.subs : Int), .int .u64 (S.clock : Int), .slice ao n c] 32)
  have HBN := hide (below_new w (.cells #[.int .i64 (S.tries : Int), .int .u64 (S.win : Int), .int .i64 (S.subs : Int), .int .u64 (S.clock : Int), .slice ao n c] 32))
  have hcl := hS.clock
  have hwin := hS.win2
  have htr := hS.tries2
  have hle : S.clock ≤ max now S.clock := by omega
  have HWY : Hid (∀ W, VSee W ao L → Calls Try.prog 37 #[.agg (rcl S (.slice ao n c)).toArray, .string (str nm), .int .u64 (now : Int)] W fun e w' => e = .returned (.int .i64 ((S.left nm (max now S.clock)).2 : Int)) ∧ Below W.heap.size W w') := hide fun W hW => rwhy_any S hS ao n c now nm L W hn hW hR hnow hnb
  have HAT : Hid (∀ W, Calls Try.prog 38 #[.agg (rcl S (.slice ao n c)).toArray, .int .u64 (now : Int)] W fun e w' => e = .returned (.int .u64 ((max now S.clock : Nat) : Int)) ∧ Below W.heap.size W w') := hide fun W => rat_any S ao n c now W
  have HOP : Hid (∀ W, VSee W ao L → Calls Try.prog 39 #[.agg (rcl S (.slice ao n c)).toArray, .string (str nm), .int .u64 ((max now S.clock : Nat) : Int)] W fun e w' => e = .returned (.int .i64 (idxV (idx S.win (max now S.clock) nm L))) ∧ Below W.heap.size W w') := hide fun W hW => ropen_any S ao n c (max now S.clock) nm L W hn hW (fun p hp => Nat.le_trans (hR.each p hp).1 hle) (by omega) hnb
  have HKN : Hid (∀ W, VSee W ao L → Calls Try.prog 40 #[.agg (rcl S (.slice ao n c)).toArray, .int .u64 ((max now S.clock : Nat) : Int)] W fun e w' => ∃ m : Nat, e = .returned (.tuple #[.int .i64 (((L.filter (alive S.win (max now S.clock))).length : Nat) : Int), .int .u64 (m : Int)]) ∧ Hid (Below W.heap.size W w' ∧ LeastIf S.win (max now S.clock) (L.filter (alive S.win (max now S.clock))) m)) := hide fun W hW => rknown_any S ao n c (max now S.clock) L W hn hW (fun p hp => Nat.le_trans (hR.each p hp).1 hle) (by omega) hwin hnb
  have hTb : max now S.clock < 18446744073709551616 := by omega
  have HV := hide hV
  have HWX : Hid (∀ m, LeastIf S.win (max now S.clock) (L.filter (alive S.win (max now S.clock))) m → S.wait nm now = if (S.left nm (max now S.clock)).2 = 80 then S.win - (max now S.clock - (L[(idx S.win (max now S.clock) nm L).getD 0]?.getD ([], (0, 0))).2.1) else if (S.left nm (max now S.clock)).2 = 5 then m else 0) := hide fun m hm => wait_idx hS hR hm
  have HIS := hide (fun i (hi : idx S.win (max now S.clock) nm L = some i) => idx_some hS hR hle hi)
  have HIL := hide (fun i (hi : idx S.win (max now S.clock) nm L = some i) => idx_lt hi)
  have HN := hide hn
  have HBG := hide (fun p (hp : p ∈ L) => Nat.le_trans (hR.each p hp).1 hle)
  have h80i : (S.left nm (max now S.clock)).2 = 80 → ∃ i, idx S.win (max now S.clock) nm L = some i := fun h => by
    have hl : nm.length ≤ 256 := (left_err h).1
    have hw := why_idx hS hR hl hle
    cases hi : idx S.win (max now S.clock) nm L with
    | some i => exact ⟨i, rfl⟩
    | none =>
      rw [hw, hi] at h
      simp only at h
      split at h <;> cases h
  have hex : ∃ m0, LeastIf S.win (max now S.clock) (L.filter (alive S.win (max now S.clock))) m0 := by
    by_cases he : (L.filter (alive S.win (max now S.clock))).length = 0
    · exact ⟨0, fun h => absurd he h⟩
    · have hm : ∀ M : Tab, M.length ≠ 0 → ∃ m, IsLeast S.win (max now S.clock) M m := by
        intro M
        induction M with
        | nil => intro h; exact absurd rfl h
        | cons x r ih =>
          intro _
          by_cases hr : r.length = 0
          · rw [List.length_eq_zero_iff.1 hr]; exact ⟨_, least_one _ _ x⟩
          · obtain ⟨m, h1, p, hp, e⟩ := ih hr
            by_cases hx : restN S.win x.2.1 (max now S.clock) ≤ m
            · exact ⟨_, fun q hq => by
                rcases List.mem_cons.1 hq with rfl | hq
                · exact Nat.le_refl _
                · exact Nat.le_trans hx (h1 q hq), x, by simp, rfl⟩
            · exact ⟨m, fun q hq => by
                rcases List.mem_cons.1 hq with rfl | hq
                · omega
                · exact h1 q hq, p, by simp [hp], e⟩
      obtain ⟨m, hm⟩ := hm _ he
      exact ⟨m, fun _ => hm⟩
  generalize max now S.clock = T at *
  generalize hen : (S.left nm T).2 = en at *
  by_cases h80 : en = 80
  · obtain ⟨i, hi⟩ := h80i h80
    obtain ⟨v, hv, hg, hv0, hvo⟩ := HIS.out i hi
    have hin := HIL.out i hi
    rw [← HN.out] at hin
    have HVV := hide hv
    have hvb := HBG.out _ (List.mem_of_getElem? hv)
    obtain ⟨m0, hm0⟩ := hex
    have hwv := HWX.out m0 hm0
    rw [if_pos h80, hi] at hwv
    simp only [Option.getD_some, hv] at hwv
    rw [hwv]
    rw [hi] at HOP
    subst h80
    obtain ⟨vb, vc⟩ := v
    simp only at hvb hvo ⊢
    have hin' : (i : Int) < (n : Int) := by omega
    have hi0 : (0 : Int) ≤ (i : Int) := by omega
    have HU1 : Hid (IntKind.u64.wrap ((T : Int) - (vb : Int)) = ((T - vb : Nat) : Int)) := hide (by rw [IntKind.wrap_u64]; omega)
    have HU2 : Hid (IntKind.u64.wrap ((S.win : Int) - ((T - vb : Nat) : Int)) = ((S.win - (T - vb) : Nat) : Int)) := hide (by rw [IntKind.wrap_u64]; omega)
    clear hwv hV hR hn hi hv hg hv0 hin hm0 h80i hen hnb
    unfold idxV rcl at *
    simp only at *
    go_enter Try.func23, Try.ntmps23
    go_upto_region 1 with fail
    obtain ⟨N, hN⟩ : ∃ N, N = w.heap.size := ⟨_, rfl⟩
    rw [← hN] at HB ⊢
    clear hN
    have HVC := hide (HV.out.keep HBN.out)
    generalize w.alloc (.cells #[.int .i64 (S.tries : Int), .int .u64 (S.win : Int), .int .i64 (S.subs : Int), .int .u64 (S.clock : Int), .slice ao n c] 32) = u at *
    have HCUR := HBN
    have HBC := HB
    clear HB HBN
    have b0 : u.cell? ⟨N, 0, none⟩ = some (.int .i64 (S.tries : Int)) := HBC.out.cell 0; have b1 : u.cell? ⟨N, 1, none⟩ = some (.int .u64 (S.win : Int)) := HBC.out.cell 1; have b2 : u.cell? ⟨N, 2, none⟩ = some (.int .i64 (S.subs : Int)) := HBC.out.cell 2; have b3 : u.cell? ⟨N, 3, none⟩ = some (.int .u64 (S.clock : Int)) := HBC.out.cell 3; have b4 : u.cell? ⟨N, 4, none⟩ = some (.slice ao n c) := HBC.out.cell 4
    go_upto_region 4 with (first
      | (go_at_call 38; refine (HAT.out _).mono ?_; rintro e w1 ⟨rfl, hw1⟩; have HCw1 := hide (HCUR.out.trans (hw1.mono HCUR.out.size)); have HBw1 := hide (HBC.out.keep hw1); have HVw1 := hide (HVC.out.keep hw1); clear HCUR HBC HVC b0 b1 b2 b3 b4; have HCUR := HCw1; have HBC := HBw1; have HVC := HVw1; have b0 : w1.cell? ⟨N, 0, none⟩ = some (.int .i64 (S.tries : Int)) := HBC.out.cell 0; have b1 : w1.cell? ⟨N, 1, none⟩ = some (.int .u64 (S.win : Int)) := HBC.out.cell 1; have b2 : w1.cell? ⟨N, 2, none⟩ = some (.int .i64 (S.subs : Int)) := HBC.out.cell 2; have b3 : w1.cell? ⟨N, 3, none⟩ = some (.int .u64 (S.clock : Int)) := HBC.out.cell 3; have b4 : w1.cell? ⟨N, 4, none⟩ = some (.slice ao n c) := HBC.out.cell 4; clear hw1 HCw1 HBw1 HVw1)
      | (go_at_call 37; refine (HWY.out _ HVC.out).mono ?_; rintro e w2 ⟨rfl, hw2⟩; have HCw2 := hide (HCUR.out.trans (hw2.mono HCUR.out.size)); have HBw2 := hide (HBC.out.keep hw2); have HVw2 := hide (HVC.out.keep hw2); clear HCUR HBC HVC b0 b1 b2 b3 b4; have HCUR := HCw2; have HBC := HBw2; have HVC := HVw2; have b0 : w2.cell? ⟨N, 0, none⟩ = some (.int .i64 (S.tries : Int)) := HBC.out.cell 0; have b1 : w2.cell? ⟨N, 1, none⟩ = some (.int .u64 (S.win : Int)) := HBC.out.cell 1; have b2 : w2.cell? ⟨N, 2, none⟩ = some (.int .i64 (S.subs : Int)) := HBC.out.cell 2; have b3 : w2.cell? ⟨N, 3, none⟩ = some (.int .u64 (S.clock : Int)) := HBC.out.cell 3; have b4 : w2.cell? ⟨N, 4, none⟩ = some (.slice ao n c) := HBC.out.cell 4; clear hw2 HCw2 HBw2 HVw2))
    obtain ⟨bb, off, hao, q0, q1, q2⟩ := HVC.out.at HVV.out
    subst hao
    simp only at q0 q1 q2
    have HVX := hide (fun (W : World) (h : VSee W (some ⟨bb, off, none⟩) L) => h.at HVV.out)
    go_region_held (fun W => W.cell? ⟨N, 0, none⟩ = some (.int .i64 (S.tries : Int)) ∧ W.cell? ⟨N, 1, none⟩ = some (.int .u64 (S.win : Int)) ∧ W.cell? ⟨N, 2, none⟩ = some (.int .i64 (S.subs : Int)) ∧ W.cell? ⟨N, 3, none⟩ = some (.int .u64 (S.clock : Int)) ∧ W.cell? ⟨N, 4, none⟩ = some (.slice (some ⟨bb, off, none⟩) n c) ∧ W.cell? ⟨bb, off + i * 3 + 1, none⟩ = some (.int .u64 (vb : Int))) (go_keep) (first
      | (go_at_call 39; refine (HOP.out _ (by exact HVC.out)).mono ?_; rintro e w3 ⟨rfl, hw3d⟩; have hw3 := below_undrew hw3d; clear hw3d; have HCw3 := hide (HCUR.out.trans (hw3.mono HCUR.out.size)); have HBw3 := hide (HBC.out.keep hw3); have HVw3 := hide (HVC.out.keep hw3); clear HCUR HBC HVC b0 b1 b2 b3 b4; have HCUR := HCw3; have HBC := HBw3; have HVC := HVw3; have b0 : w3.cell? ⟨N, 0, none⟩ = some (.int .i64 (S.tries : Int)) := HBC.out.cell 0; have b1 : w3.cell? ⟨N, 1, none⟩ = some (.int .u64 (S.win : Int)) := HBC.out.cell 1; have b2 : w3.cell? ⟨N, 2, none⟩ = some (.int .i64 (S.subs : Int)) := HBC.out.cell 2; have b3 : w3.cell? ⟨N, 3, none⟩ = some (.int .u64 (S.clock : Int)) := HBC.out.cell 3; have b4 : w3.cell? ⟨N, 4, none⟩ = some (.slice (some ⟨bb, off, none⟩) n c) := HBC.out.cell 4; obtain ⟨_, _, he3, _, q1', _⟩ := HVX.out _ HVC.out; cases he3; clear hw3 HCw3 HBw3 HVw3))
    go_wp2
    go_ret
    exact ⟨ret_int (by first | (rw [HU1.out, HU2.out]) | (simp only [HU1.out, HU2.out])), HCUR.out⟩
  · have h80' : ((en : Int) == 80) = false := by simp; omega
    by_cases h5 : en = 5
    · have h5' : ((en : Int) == 5) = true := by simp; omega
      have HW5 : Hid (∀ m, LeastIf S.win T (L.filter (alive S.win T)) m → S.wait nm now = m) := hide fun m hm => by rw [HWX.out m hm, if_neg h80, if_pos h5]
      obtain ⟨wt, hwt⟩ : ∃ x, x = S.wait nm now := ⟨_, rfl⟩
      rw [← hwt]
      have HWT := hide hwt
      clear hV hR hn h80 h5 h80i hex hen hnb hwt HWX
      unfold idxV rcl at *
      go_enter Try.func23, Try.ntmps23
      go_upto_region 1 with fail
      obtain ⟨N, hN⟩ : ∃ N, N = w.heap.size := ⟨_, rfl⟩
      rw [← hN] at HB ⊢
      clear hN
      have HVC := hide (HV.out.keep HBN.out)
      generalize w.alloc (.cells #[.int .i64 (S.tries : Int), .int .u64 (S.win : Int), .int .i64 (S.subs : Int), .int .u64 (S.clock : Int), .slice ao n c] 32) = u at *
      have HCUR := HBN
      have HBC := HB
      clear HB HBN
      have b0 : u.cell? ⟨N, 0, none⟩ = some (.int .i64 (S.tries : Int)) := HBC.out.cell 0; have b1 : u.cell? ⟨N, 1, none⟩ = some (.int .u64 (S.win : Int)) := HBC.out.cell 1; have b2 : u.cell? ⟨N, 2, none⟩ = some (.int .i64 (S.subs : Int)) := HBC.out.cell 2; have b3 : u.cell? ⟨N, 3, none⟩ = some (.int .u64 (S.clock : Int)) := HBC.out.cell 3; have b4 : u.cell? ⟨N, 4, none⟩ = some (.slice ao n c) := HBC.out.cell 4
      go_wp2_with (first
        | (go_at_call 38; refine (HAT.out _).mono ?_; rintro e w1 ⟨rfl, hw1⟩; have HCw1 := hide (HCUR.out.trans (hw1.mono HCUR.out.size)); have HBw1 := hide (HBC.out.keep hw1); have HVw1 := hide (HVC.out.keep hw1); clear HCUR HBC HVC b0 b1 b2 b3 b4; have HCUR := HCw1; have HBC := HBw1; have HVC := HVw1; have b0 : w1.cell? ⟨N, 0, none⟩ = some (.int .i64 (S.tries : Int)) := HBC.out.cell 0; have b1 : w1.cell? ⟨N, 1, none⟩ = some (.int .u64 (S.win : Int)) := HBC.out.cell 1; have b2 : w1.cell? ⟨N, 2, none⟩ = some (.int .i64 (S.subs : Int)) := HBC.out.cell 2; have b3 : w1.cell? ⟨N, 3, none⟩ = some (.int .u64 (S.clock : Int)) := HBC.out.cell 3; have b4 : w1.cell? ⟨N, 4, none⟩ = some (.slice ao n c) := HBC.out.cell 4; clear hw1 HCw1 HBw1 HVw1)
        | (go_at_call 37; refine (HWY.out _ HVC.out).mono ?_; rintro e w2 ⟨rfl, hw2⟩; have HCw2 := hide (HCUR.out.trans (hw2.mono HCUR.out.size)); have HBw2 := hide (HBC.out.keep hw2); have HVw2 := hide (HVC.out.keep hw2); clear HCUR HBC HVC b0 b1 b2 b3 b4; have HCUR := HCw2; have HBC := HBw2; have HVC := HVw2; have b0 : w2.cell? ⟨N, 0, none⟩ = some (.int .i64 (S.tries : Int)) := HBC.out.cell 0; have b1 : w2.cell? ⟨N, 1, none⟩ = some (.int .u64 (S.win : Int)) := HBC.out.cell 1; have b2 : w2.cell? ⟨N, 2, none⟩ = some (.int .i64 (S.subs : Int)) := HBC.out.cell 2; have b3 : w2.cell? ⟨N, 3, none⟩ = some (.int .u64 (S.clock : Int)) := HBC.out.cell 3; have b4 : w2.cell? ⟨N, 4, none⟩ = some (.slice ao n c) := HBC.out.cell 4; clear hw2 HCw2 HBw2 HVw2)
        | (go_at_call 40; refine (HKN.out _ HVC.out).mono ?_; rintro e w3 ⟨m, rfl, hp3⟩; have hw3 := hp3.out.1; have HP3 := hp3; have HCw3 := hide (HCUR.out.trans (hw3.mono HCUR.out.size)); have HBw3 := hide (HBC.out.keep hw3); have HVw3 := hide (HVC.out.keep hw3); clear HCUR HBC HVC b0 b1 b2 b3 b4; have HCUR := HCw3; have HBC := HBw3; have HVC := HVw3; have b0 : w3.cell? ⟨N, 0, none⟩ = some (.int .i64 (S.tries : Int)) := HBC.out.cell 0; have b1 : w3.cell? ⟨N, 1, none⟩ = some (.int .u64 (S.win : Int)) := HBC.out.cell 1; have b2 : w3.cell? ⟨N, 2, none⟩ = some (.int .i64 (S.subs : Int)) := HBC.out.cell 2; have b3 : w3.cell? ⟨N, 3, none⟩ = some (.int .u64 (S.clock : Int)) := HBC.out.cell 3; have b4 : w3.cell? ⟨N, 4, none⟩ = some (.slice ao n c) := HBC.out.cell 4; clear hw3 HCw3 HBw3 HVw3))
      go_ret
      refine ⟨ret_int ?_, HCUR.out⟩
      rw [HWT.out, HW5.out m HP3.out.2]
    · have h5' : ((en : Int) == 5) = false := by simp; omega
      obtain ⟨m0, hm0⟩ := hex
      rw [HWX.out m0 hm0, if_neg h80, if_neg h5]
      clear hV hR hn h80 h5 h80i hm0 hen hnb
      unfold idxV rcl at *
      go_enter Try.func23, Try.ntmps23
      go_upto_region 1 with fail
      obtain ⟨N, hN⟩ : ∃ N, N = w.heap.size := ⟨_, rfl⟩
      rw [← hN] at HB ⊢
      clear hN
      have HVC := hide (HV.out.keep HBN.out)
      generalize w.alloc (.cells #[.int .i64 (S.tries : Int), .int .u64 (S.win : Int), .int .i64 (S.subs : Int), .int .u64 (S.clock : Int), .slice ao n c] 32) = u at *
      have HCUR := HBN
      have HBC := HB
      clear HB HBN
      have b0 : u.cell? ⟨N, 0, none⟩ = some (.int .i64 (S.tries : Int)) := HBC.out.cell 0; have b1 : u.cell? ⟨N, 1, none⟩ = some (.int .u64 (S.win : Int)) := HBC.out.cell 1; have b2 : u.cell? ⟨N, 2, none⟩ = some (.int .i64 (S.subs : Int)) := HBC.out.cell 2; have b3 : u.cell? ⟨N, 3, none⟩ = some (.int .u64 (S.clock : Int)) := HBC.out.cell 3; have b4 : u.cell? ⟨N, 4, none⟩ = some (.slice ao n c) := HBC.out.cell 4
      go_wp2_with (first
        | (go_at_call 38; refine (HAT.out _).mono ?_; rintro e w1 ⟨rfl, hw1⟩; have HCw1 := hide (HCUR.out.trans (hw1.mono HCUR.out.size)); have HBw1 := hide (HBC.out.keep hw1); have HVw1 := hide (HVC.out.keep hw1); clear HCUR HBC HVC b0 b1 b2 b3 b4; have HCUR := HCw1; have HBC := HBw1; have HVC := HVw1; have b0 : w1.cell? ⟨N, 0, none⟩ = some (.int .i64 (S.tries : Int)) := HBC.out.cell 0; have b1 : w1.cell? ⟨N, 1, none⟩ = some (.int .u64 (S.win : Int)) := HBC.out.cell 1; have b2 : w1.cell? ⟨N, 2, none⟩ = some (.int .i64 (S.subs : Int)) := HBC.out.cell 2; have b3 : w1.cell? ⟨N, 3, none⟩ = some (.int .u64 (S.clock : Int)) := HBC.out.cell 3; have b4 : w1.cell? ⟨N, 4, none⟩ = some (.slice ao n c) := HBC.out.cell 4; clear hw1 HCw1 HBw1 HVw1)
        | (go_at_call 37; refine (HWY.out _ HVC.out).mono ?_; rintro e w2 ⟨rfl, hw2⟩; have HCw2 := hide (HCUR.out.trans (hw2.mono HCUR.out.size)); have HBw2 := hide (HBC.out.keep hw2); have HVw2 := hide (HVC.out.keep hw2); clear HCUR HBC HVC b0 b1 b2 b3 b4; have HCUR := HCw2; have HBC := HBw2; have HVC := HVw2; have b0 : w2.cell? ⟨N, 0, none⟩ = some (.int .i64 (S.tries : Int)) := HBC.out.cell 0; have b1 : w2.cell? ⟨N, 1, none⟩ = some (.int .u64 (S.win : Int)) := HBC.out.cell 1; have b2 : w2.cell? ⟨N, 2, none⟩ = some (.int .i64 (S.subs : Int)) := HBC.out.cell 2; have b3 : w2.cell? ⟨N, 3, none⟩ = some (.int .u64 (S.clock : Int)) := HBC.out.cell 3; have b4 : w2.cell? ⟨N, 4, none⟩ = some (.slice ao n c) := HBC.out.cell 4; clear hw2 HCw2 HBw2 HVw2))
      go_ret
      exact ⟨rfl, HCUR.out⟩
end Go.Proofs.Ytbhlciaigadlkaa
