/- The document's Left and Wait. -/
import Derived.Test.YtbhlciaigadlkaaQRefT
import Derived.Test.YtbhlciaigadlkaaQApart
namespace Go.Proofs.Ytbhlciaigadlkaa
open Go.RowKit Go.Maps

theorem left_zero {S : LS} {nm : Nm} {t : Nat} (h : (S.left nm t).2 ≠ 0) : (S.left nm t).1 = 0 := by
  revert h
  have hN : (S.leftN t).2 ≠ 0 → (S.leftN t).1 = 0 := by
    unfold LS.leftN
    split
    · intro _; rfl
    · intro h; exact absurd rfl h
  unfold LS.left
  split
  · intro _; rfl
  · cases tget nm S.tab with
    | none => exact hN
    | some v =>
      simp only
      split
      · split
        · intro _; rfl
        · intro h; exact absurd rfl h
      · exact hN
set_option maxHeartbeats 2000000 in
set_option maxRecDepth 100000 in
theorem rleft_any (S : LS) (hS : Ok S) (ao : Option Addr) (n c now : Nat) (nm : Nm) (L : Tab) (w : World) (hn : n = L.length) (hV : VSee w ao L) (hR : RI S L) (hnow : now < 18446744073709551616) (hnb : n ≤ 9223372036854775807) :
    Calls Try.prog 22 #[.agg (rcl S (.slice ao n c)).toArray, .string (str nm), .int .u64 (now : Int)] w fun e w' => e = .returned (.int .i64 ((S.left nm (max now S.clock)).1 : Int)) ∧ Below w.heap.size w w' := by
  have HB := hide (Bl.new w #[.int .i64 (S.tries : Int), .int .u64 (S.win : Int), .int .i64 (S.subs : Int), .int .u64 (S.clock : Int), .slice ao n c] 32)
  have HBN := hide (below_new w (.cells #[.int .i64 (S.tries : Int), .int .u64 (S.win : Int), .int .i64 (S.subs : Int), .int .u64 (S.clock : Int), .slice ao n c] 32))
  have hcl := hS.clock
  have hwin := hS.win2
  have htr := hS.tries2
  have hle : S.clock ≤ max now S.clock := by omega
  have HWY : Hid (∀ W, VSee W ao L → Calls Try.prog 37 #[.agg (rcl S (.slice ao n c)).toArray, .string (str nm), .int .u64 (now : Int)] W fun e w' => e = .returned (.int .i64 ((S.left nm (max now S.clock)).2 : Int)) ∧ Below W.heap.size W w') := hide fun W hW => rwhy_any S hS ao n c now nm L W hn hW hR hnow hnb
  have HAT : Hid (∀ W, Calls Try.prog 38 #[.agg (rcl S (.slice ao n c)).toArray, .int .u64 (now : Int)] W fun e w' => e = .returned (.int .u64 ((max now S.clock : Nat) : Int)) ∧ Below W.heap.size W w') := hide fun W => rat_any S ao n c now W
  have HOP : Hid (∀ W, VSee W ao L → Calls Try.prog 39 #[.agg (rcl S (.slice ao n c)).toArray, .string (str nm), .int .u64 ((max now S.clock : Nat) : Int)] W fun e w' => e = .returned (.int .i64 (idxV (idx S.win (max now S.clock) nm L))) ∧ Below W.heap.size W w') := hide fun W hW => ropen_any S ao n c (max now S.clock) nm L W hn hW (fun p hp => Nat.le_trans (hR.each p hp).1 hle) (by omega) hnb
  have HKN : Hid (∀ W, VSee W ao L → Calls Try.prog 40 #[.agg (rcl S (.slice ao n c)).toArray, .int .u64 ((max now S.clock : Nat) : Int)] W fun e w' => ∃ m : Nat, e = .returned (.tuple #[.int .i64 (((L.filter (alive S.win (max now S.clock))).length : Nat) : Int), .int .u64 (m : Int)]) ∧ Hid (Below W.heap.size W w' ∧ LeastIf S.win (max now S.clock) (L.filter (alive S.win (max now S.clock))) m)) := hide fun W hW => rknown_any S ao n c (max now S.clock) L W hn hW (fun p hp => Nat.le_trans (hR.each p hp).1 hle) (by omega) hwin hnb
  have hTb : max now S.clock < 18446744073709551616 := by omega
  have HV := hide hV
  by_cases h0 : (S.left nm (max now S.clock)).2 = 0
  · rw [h0] at HWY
    have hl2 := (left_pos hS h0).1
    have hwy := why_idx hS hR hl2 hle
    have HIS := hide (fun i (hi : idx S.win (max now S.clock) nm L = some i) => idx_some hS hR hle hi)
    have HIL := hide (fun i (hi : idx S.win (max now S.clock) nm L = some i) => idx_lt hi)
    have HEA := hide (fun v (hg : tget nm S.tab = some v) => (hS.each _ (tget_some hg)).2.2.2.1)
    have HN := hide hn
    generalize max now S.clock = T at *
    cases hi : idx S.win T nm L with
    | none =>
      rw [hi] at HOP hwy
      simp only at hwy
      have hv : (S.left nm T).1 = S.tries := by
        rw [hwy] at h0 ⊢
        split at h0
        · cases h0
        · rename_i hf; rw [if_neg hf]
      rw [hv]
      clear hv hwy h0 hV hR hn hi hnb
      unfold idxV rcl at *
      simp only at *
      go_enter Try.func22, Try.ntmps22
      go_upto_region 1 with fail
      obtain ⟨N, hN⟩ : ∃ N, N = w.heap.size := ⟨_, rfl⟩
      rw [← hN] at HB ⊢
      clear hN
      have HVC := hide (HV.out.keep HBN.out)
      generalize w.alloc (.cells #[.int .i64 (S.tries : Int), .int .u64 (S.win : Int), .int .i64 (S.subs : Int), .int .u64 (S.clock : Int), .slice ao n c] 32) = u at *
      have HCUR := HBN
      have HBC := HB
      clear HB HBN
      have b0 : u.cell? ⟨N, 0, none⟩ = some (.int .i64 (S.tries : Int)) := HBC.out.cell 0; have b1 : u.cell? ⟨N, 1, none⟩ = some (.int .u64 (S.win : Int)) := HBC.out.cell 1; have b2 : u.cell? ⟨N, 2, none⟩ = some (.int .i64 (S.subs : Int)) := HBC.out.cell 2; have b3 : u.cell? ⟨N, 3, none⟩ = some (.int .u64 (S.clock : Int)) := HBC.out.cell 3; have b4 : u.cell? ⟨N, 4, none⟩ = some (.slice ao n c) := HBC.out.cell 4
      go_upto_region 3 with (first
        | (go_at_call 37; refine (HWY.out _ HVC.out).mono ?_; rintro e w1 ⟨rfl, hw1⟩; have HCw1 := hide (HCUR.out.trans (hw1.mono HCUR.out.size)); have HBw1 := hide (HBC.out.keep hw1); have HVw1 := hide (HVC.out.keep hw1); clear HCUR HBC HVC b0 b1 b2 b3 b4; have HCUR := HCw1; have HBC := HBw1; have HVC := HVw1; have b0 : w1.cell? ⟨N, 0, none⟩ = some (.int .i64 (S.tries : Int)) := HBC.out.cell 0; have b1 : w1.cell? ⟨N, 1, none⟩ = some (.int .u64 (S.win : Int)) := HBC.out.cell 1; have b2 : w1.cell? ⟨N, 2, none⟩ = some (.int .i64 (S.subs : Int)) := HBC.out.cell 2; have b3 : w1.cell? ⟨N, 3, none⟩ = some (.int .u64 (S.clock : Int)) := HBC.out.cell 3; have b4 : w1.cell? ⟨N, 4, none⟩ = some (.slice ao n c) := HBC.out.cell 4; clear hw1 HCw1 HBw1 HVw1))
      go_region_held (fun W => W.cell? ⟨N, 0, none⟩ = some (.int .i64 (S.tries : Int)) ∧ W.cell? ⟨N, 1, none⟩ = some (.int .u64 (S.win : Int)) ∧ W.cell? ⟨N, 2, none⟩ = some (.int .i64 (S.subs : Int)) ∧ W.cell? ⟨N, 3, none⟩ = some (.int .u64 (S.clock : Int)) ∧ W.cell? ⟨N, 4, none⟩ = some (.slice ao n c)) (go_keep) (first
        | (go_at_call 38; refine (HAT.out _).mono ?_; rintro e w2 ⟨rfl, hw2d⟩; have hw2 := below_undrew hw2d; clear hw2d; have HCw2 := hide (HCUR.out.trans (hw2.mono HCUR.out.size)); have HBw2 := hide (HBC.out.keep hw2); have HVw2 := hide (HVC.out.keep hw2); clear HCUR HBC HVC b0 b1 b2 b3 b4; have HCUR := HCw2; have HBC := HBw2; have HVC := HVw2; have b0 : w2.cell? ⟨N, 0, none⟩ = some (.int .i64 (S.tries : Int)) := HBC.out.cell 0; have b1 : w2.cell? ⟨N, 1, none⟩ = some (.int .u64 (S.win : Int)) := HBC.out.cell 1; have b2 : w2.cell? ⟨N, 2, none⟩ = some (.int .i64 (S.subs : Int)) := HBC.out.cell 2; have b3 : w2.cell? ⟨N, 3, none⟩ = some (.int .u64 (S.clock : Int)) := HBC.out.cell 3; have b4 : w2.cell? ⟨N, 4, none⟩ = some (.slice ao n c) := HBC.out.cell 4; clear hw2 HCw2 HBw2 HVw2)
        | (go_at_call 39; refine (HOP.out _ HVC.out).mono ?_; rintro e w3 ⟨rfl, hw3⟩; have HCw3 := hide (HCUR.out.trans (hw3.mono HCUR.out.size)); have HBw3 := hide (HBC.out.keep hw3); have HVw3 := hide (HVC.out.keep hw3); clear HCUR HBC HVC b0 b1 b2 b3 b4; have HCUR := HCw3; have HBC := HBw3; have HVC := HVw3; have b0 : w3.cell? ⟨N, 0, none⟩ = some (.int .i64 (S.tries : Int)) := HBC.out.cell 0; have b1 : w3.cell? ⟨N, 1, none⟩ = some (.int .u64 (S.win : Int)) := HBC.out.cell 1; have b2 : w3.cell? ⟨N, 2, none⟩ = some (.int .i64 (S.subs : Int)) := HBC.out.cell 2; have b3 : w3.cell? ⟨N, 3, none⟩ = some (.int .u64 (S.clock : Int)) := HBC.out.cell 3; have b4 : w3.cell? ⟨N, 4, none⟩ = some (.slice ao n c) := HBC.out.cell 4; clear hw3 HCw3 HBw3 HVw3))
      go_wp2
      go_ret
      exact ⟨rfl, HCUR.out⟩
    | some i =>
      rw [hi] at HOP hwy
      obtain ⟨v, hv, hg, hv0, hvo⟩ := HIS.out i hi
      have hin := HIL.out i hi
      rw [← HN.out] at hin
      have hct := HEA.out v hg
      have HVV := hide hv
      simp only [hv, Option.getD_some] at hwy
      have hv1 : (S.left nm T).1 = S.tries - v.2 := by
        rw [hwy] at h0 ⊢
        split at h0
        · cases h0
        · rename_i hf; rw [if_neg hf]
      rw [hv1]
      obtain ⟨vb, vc⟩ := v
      simp only at hct ⊢
      have hin' : (i : Int) < (n : Int) := by omega
      have hi0 : (0 : Int) ≤ (i : Int) := by omega
      have hsub : IntKind.i64.wrap ((S.tries : Int) - (vc : Int)) = ((S.tries - vc : Nat) : Int) := by rw [IntKind.wrap_i64]; omega
      clear hv1 hwy h0 hV hR hn hi hnb hv hg hv0 hvo hin hct
      unfold idxV rcl at *
      simp only at *
      generalize S.tries - vc = rr at *
      go_enter Try.func22, Try.ntmps22
      go_upto_region 1 with fail
      obtain ⟨N, hN⟩ : ∃ N, N = w.heap.size := ⟨_, rfl⟩
      rw [← hN] at HB ⊢
      clear hN
      have HVC := hide (HV.out.keep HBN.out)
      generalize w.alloc (.cells #[.int .i64 (S.tries : Int), .int .u64 (S.win : Int), .int .i64 (S.subs : Int), .int .u64 (S.clock : Int), .slice ao n c] 32) = u at *
      have HCUR := HBN
      have HBC := HB
      clear HB HBN
      have b0 : u.cell? ⟨N, 0, none⟩ = some (.int .i64 (S.tries : Int)) := HBC.out.cell 0; have b1 : u.cell? ⟨N, 1, none⟩ = some (.int .u64 (S.win : Int)) := HBC.out.cell 1; have b2 : u.cell? ⟨N, 2, none⟩ = some (.int .i64 (S.subs : Int)) := HBC.out.cell 2; have b3 : u.cell? ⟨N, 3, none⟩ = some (.int .u64 (S.clock : Int)) := HBC.out.cell 3; have b4 : u.cell? ⟨N, 4, none⟩ = some (.slice ao n c) := HBC.out.cell 4
      go_upto_region 3 with (first
        | (go_at_call 37; refine (HWY.out _ HVC.out).mono ?_; rintro e w1 ⟨rfl, hw1⟩; have HCw1 := hide (HCUR.out.trans (hw1.mono HCUR.out.size)); have HBw1 := hide (HBC.out.keep hw1); have HVw1 := hide (HVC.out.keep hw1); clear HCUR HBC HVC b0 b1 b2 b3 b4; have HCUR := HCw1; have HBC := HBw1; have HVC := HVw1; have b0 : w1.cell? ⟨N, 0, none⟩ = some (.int .i64 (S.tries : Int)) := HBC.out.cell 0; have b1 : w1.cell? ⟨N, 1, none⟩ = some (.int .u64 (S.win : Int)) := HBC.out.cell 1; have b2 : w1.cell? ⟨N, 2, none⟩ = some (.int .i64 (S.subs : Int)) := HBC.out.cell 2; have b3 : w1.cell? ⟨N, 3, none⟩ = some (.int .u64 (S.clock : Int)) := HBC.out.cell 3; have b4 : w1.cell? ⟨N, 4, none⟩ = some (.slice ao n c) := HBC.out.cell 4; clear hw1 HCw1 HBw1 HVw1))
      go_region_held (fun W => W.cell? ⟨N, 0, none⟩ = some (.int .i64 (S.tries : Int)) ∧ W.cell? ⟨N, 1, none⟩ = some (.int .u64 (S.win : Int)) ∧ W.cell? ⟨N, 2, none⟩ = some (.int .i64 (S.subs : Int)) ∧ W.cell? ⟨N, 3, none⟩ = some (.int .u64 (S.clock : Int)) ∧ W.cell? ⟨N, 4, none⟩ = some (.slice ao n c)) (go_keep) (first
        | (go_at_call 38; refine (HAT.out _).mono ?_; rintro e w2 ⟨rfl, hw2d⟩; have hw2 := below_undrew hw2d; clear hw2d; have HCw2 := hide (HCUR.out.trans (hw2.mono HCUR.out.size)); have HBw2 := hide (HBC.out.keep hw2); have HVw2 := hide (HVC.out.keep hw2); clear HCUR HBC HVC b0 b1 b2 b3 b4; have HCUR := HCw2; have HBC := HBw2; have HVC := HVw2; have b0 : w2.cell? ⟨N, 0, none⟩ = some (.int .i64 (S.tries : Int)) := HBC.out.cell 0; have b1 : w2.cell? ⟨N, 1, none⟩ = some (.int .u64 (S.win : Int)) := HBC.out.cell 1; have b2 : w2.cell? ⟨N, 2, none⟩ = some (.int .i64 (S.subs : Int)) := HBC.out.cell 2; have b3 : w2.cell? ⟨N, 3, none⟩ = some (.int .u64 (S.clock : Int)) := HBC.out.cell 3; have b4 : w2.cell? ⟨N, 4, none⟩ = some (.slice ao n c) := HBC.out.cell 4; clear hw2 HCw2 HBw2 HVw2)
        | (go_at_call 39; refine (HOP.out _ HVC.out).mono ?_; rintro e w3 ⟨rfl, hw3⟩; have HCw3 := hide (HCUR.out.trans (hw3.mono HCUR.out.size)); have HBw3 := hide (HBC.out.keep hw3); have HVw3 := hide (HVC.out.keep hw3); clear HCUR HBC HVC b0 b1 b2 b3 b4; have HCUR := HCw3; have HBC := HBw3; have HVC := HVw3; have b0 : w3.cell? ⟨N, 0, none⟩ = some (.int .i64 (S.tries : Int)) := HBC.out.cell 0; have b1 : w3.cell? ⟨N, 1, none⟩ = some (.int .u64 (S.win : Int)) := HBC.out.cell 1; have b2 : w3.cell? ⟨N, 2, none⟩ = some (.int .i64 (S.subs : Int)) := HBC.out.cell 2; have b3 : w3.cell? ⟨N, 3, none⟩ = some (.int .u64 (S.clock : Int)) := HBC.out.cell 3; have b4 : w3.cell? ⟨N, 4, none⟩ = some (.slice ao n c) := HBC.out.cell 4; clear hw3 HCw3 HBw3 HVw3))
      obtain ⟨bb, off, hao, q0, q1, q2⟩ := HVC.out.at HVV.out
      subst hao
      simp only at q0 q1 q2
      go_wp2
      go_quiet (fail)
      go_wp2
      go_ret
      exact ⟨rfl, below_drewN HCUR.out _⟩
  · have hz := left_zero h0
    rw [hz]
    have h0' : (((S.left nm (max now S.clock)).2 : Int) == 0) = false := by simp; omega
    generalize (S.left nm (max now S.clock)).2 = en at *
    clear hz h0 hV hR hn hnb
    unfold rcl at *
    go_enter Try.func22, Try.ntmps22
    go_upto_region 1 with fail
    obtain ⟨N, hN⟩ : ∃ N, N = w.heap.size := ⟨_, rfl⟩
    rw [← hN] at HB ⊢
    clear hN
    have HVC := hide (HV.out.keep HBN.out)
    generalize w.alloc (.cells #[.int .i64 (S.tries : Int), .int .u64 (S.win : Int), .int .i64 (S.subs : Int), .int .u64 (S.clock : Int), .slice ao n c] 32) = u at *
    have HCUR := HBN
    have HBC := HB
    clear HB HBN
    have b0 : u.cell? ⟨N, 0, none⟩ = some (.int .i64 (S.tries : Int)) := HBC.out.cell 0; have b1 : u.cell? ⟨N, 1, none⟩ = some (.int .u64 (S.win : Int)) := HBC.out.cell 1; have b2 : u.cell? ⟨N, 2, none⟩ = some (.int .i64 (S.subs : Int)) := HBC.out.cell 2; have b3 : u.cell? ⟨N, 3, none⟩ = some (.int .u64 (S.clock : Int)) := HBC.out.cell 3; have b4 : u.cell? ⟨N, 4, none⟩ = some (.slice ao n c) := HBC.out.cell 4
    go_wp2_with (first
      | (go_at_call 37; refine (HWY.out _ HVC.out).mono ?_; rintro e w1 ⟨rfl, hw1⟩; have HCw1 := hide (HCUR.out.trans (hw1.mono HCUR.out.size)); have HBw1 := hide (HBC.out.keep hw1); have HVw1 := hide (HVC.out.keep hw1); clear HCUR HBC HVC b0 b1 b2 b3 b4; have HCUR := HCw1; have HBC := HBw1; have HVC := HVw1; have b0 : w1.cell? ⟨N, 0, none⟩ = some (.int .i64 (S.tries : Int)) := HBC.out.cell 0; have b1 : w1.cell? ⟨N, 1, none⟩ = some (.int .u64 (S.win : Int)) := HBC.out.cell 1; have b2 : w1.cell? ⟨N, 2, none⟩ = some (.int .i64 (S.subs : Int)) := HBC.out.cell 2; have b3 : w1.cell? ⟨N, 3, none⟩ = some (.int .u64 (S.clock : Int)) := HBC.out.cell 3; have b4 : w1.cell? ⟨N, 4, none⟩ = some (.slice ao n c) := HBC.out.cell 4; clear hw1 HCw1 HBw1 HVw1))
    go_ret
    exact ⟨rfl, HCUR.out⟩
end Go.Proofs.Ytbhlciaigadlkaa
