/- LimitPlays, walked. -/
import Derived.Test.YtbhlciaigadlkaaQPlayP
import Derived.Test.YtbhlciaigadlkaaQPlaysA
import Derived.Test.YtbhlciaigadlkaaQWaitsA
import Derived.Test.YtbhlciaigadlkaaQApart
namespace Go.Proofs.Ytbhlciaigadlkaa
open Go.RowKit Go.Maps Go.Shelf

/-- A call, as a step of a region that draws. -/
theorem law_call {P : Program} {w : World} {ops : Array Oper} {o : Oper} {a : Act} {K : Act → World → Prop} {Q : Exit → Act → World → Prop} {E : Prop} (hgd : o.guard = none) (d : Nat) (hd : o.dst = some d) (f : FuncId) (args : Array Value)
    (hv : (execOp a.eval o).run P w = .ok (.enter f args) w) {Post : Ending → World → Prop} (hC : Calls P f args w Post) (h : ∀ e w', Post e w' → ∃ v, e = .returned v ∧ K (a.put o.dst v) w') : if Region.wanted o (yielded ops a.tmps) = true then Oper.wp P o a w K Q else E := by
  rw [if_pos (by simp [Region.wanted, hgd])]
  unfold Oper.wp
  rw [hv, Oper.upon_enter]
  refine hC.mono ?_
  intro e w' hp
  obtain ⟨v, rfl, hk⟩ := h e w' hp
  simp only [hd] at hk ⊢
  exact hk
set_option maxHeartbeats 2000000 in
set_option maxRecDepth 100000 in
theorem limitPlays_good (tn wn sn : Nat) (fo : Option Addr) (cf : Nat) (l : List Oc) (w : World) (hgd : 1 ≤ tn ∧ tn ≤ 1000000 ∧ 1 ≤ wn ∧ wn < 18446744073709551616 ∧ 1 ≤ sn ∧ sn ≤ 4096) (hS : OSee w fo l) (hO : OOk l) (hl : l.length * 32 ≤ 140737488351232) :
    Calls Try.prog 3 #[sval tn wn sn (.slice fo l.length cf)] w fun e w' => e = .returned (.bool true) ∧ Below w.heap.size w w' := by
  have HLV : Hid (∀ W, Calls Try.prog 10 #[] W fun e w' => e = .returned (.bool true) ∧ Below W.heap.size W w') := hide live_true
  have HB := hide (Bl.new w #[.int .i64 (tn : Int), .int .u64 (wn : Int), .int .i64 (sn : Int), .slice fo l.length cf] 25)
  have HBN := hide (below_new w (.cells #[.int .i64 (tn : Int), .int .u64 (wn : Int), .int .i64 (sn : Int), .slice fo l.length cf] 25))
  have HNW : Hid (∀ (G : List Nat) W, Below w.heap.size w W → (∀ b ∈ G, b < W.heap.size) → Calls Try.prog 8 #[.int .i64 (tn : Int), .int .u64 (wn : Int), .int .i64 (sn : Int)] W fun e w' => ∃ lp, e = .returned (.tuple #[pf lp, .int .i64 0]) ∧ Mine G w w' lp (fresh tn wn sn) ∧ Below W.heap.size W w') := hide fun G W hb hl => new_g G w tn wn sn W hgd hb hl
  have HNX : Hid (∀ W, Calls Try.prog 8 #[.int .i64 (tn : Int), .int .u64 (wn : Int), .int .i64 (sn : Int)] W fun e w' => ∃ lp, e = .returned (.tuple #[pf lp, .int .i64 0]) ∧ Mine [] W w' lp (fresh tn wn sn) ∧ Below W.heap.size W w') := hide fun W => new_g [] W tn wn sn W hgd (Below.refl _ _) (fun b hb => by cases hb)
  have HRN := hide (refGood tn wn sn hgd)
  have HS := hide hS
  have HO := hide hO
  generalize hnl : l.length = nf at *
  have HNL := hide hnl
  have HNF := hide hl
  clear hgd hS hO hnl hl
  unfold sval pf at *
  go_enter Try.func3, Try.ntmps3
  go_upto_region 1 with fail
  obtain ⟨N, hN⟩ : ∃ N, N = w.heap.size := ⟨_, rfl⟩
  rw [← hN] at HB ⊢
  clear hN
  generalize w.alloc (.cells #[.int .i64 (tn : Int), .int .u64 (wn : Int), .int .i64 (sn : Int), .slice fo nf cf] 25) = u at *
  have b0 : u.cell? ⟨N, 0, none⟩ = some (.int .i64 (tn : Int)) := HB.out.cell 0
  have b1 : u.cell? ⟨N, 1, none⟩ = some (.int .u64 (wn : Int)) := HB.out.cell 1
  have b2 : u.cell? ⟨N, 2, none⟩ = some (.int .i64 (sn : Int)) := HB.out.cell 2
  go_wp2_with fail
  refine (HNW.out [N] _ HBN.out (fun b hb => by rw [List.mem_singleton.1 hb]; exact HB.out.lt)).mono ?_
  rintro e w1 ⟨lp, rfl, h1, k1⟩
  have H1 := hide h1
  have HB1 := hide (HB.out.keep k1)
  clear h1 k1 b0 b1 b2
  have b0 : w1.cell? ⟨N, 0, none⟩ = some (.int .i64 (tn : Int)) := HB1.out.cell 0
  have b1 : w1.cell? ⟨N, 1, none⟩ = some (.int .u64 (wn : Int)) := HB1.out.cell 1
  have b2 : w1.cell? ⟨N, 2, none⟩ = some (.int .i64 (sn : Int)) := HB1.out.cell 2
  go_wp2_with fail
  refine (HNX.out _).mono ?_
  rintro e w2 ⟨kp, rfl, h2, k2⟩
  have H2 := hide (two_made H1.out h2)
  have HB2 := hide (HB1.out.keep k2)
  clear h2 k2 b0 b1 b2
  have b0 : w2.cell? ⟨N, 0, none⟩ = some (.int .i64 (tn : Int)) := HB2.out.cell 0
  have b1 : w2.cell? ⟨N, 1, none⟩ = some (.int .u64 (wn : Int)) := HB2.out.cell 1
  have b2 : w2.cell? ⟨N, 2, none⟩ = some (.int .i64 (sn : Int)) := HB2.out.cell 2
  go_wp2_with fail
  refine (HRN.out _).mono ?_
  rintro e w3 ⟨rfl, h3⟩
  have H3 := hide (H2.out.below h3).1
  have HB3 := hide (HB2.out.keep h3)
  clear h3 b0 b1 b2 H1 H2 HB1 HB2 HB HBN
  obtain ⟨P, hP⟩ : ∃ P, P = w3.heap.size := ⟨_, rfl⟩
  have H4 := hide (H3.out.more (.cells #[.int .i64 (tn : Int), .int .u64 (wn : Int), .int .i64 (sn : Int), .int .u64 0, .slice none 0 0] 32) hP)
  have HB4 := hide (HB3.out.alloc (.cells #[.int .i64 (tn : Int), .int .u64 (wn : Int), .int .i64 (sn : Int), .int .u64 0, .slice none 0 0] 32))
  have HP4' := Bl.new w3 #[.int .i64 (tn : Int), .int .u64 (wn : Int), .int .i64 (sn : Int), .int .u64 0, .slice none 0 0] 32
  rw [← hP] at HP4'
  have HP4 := hide HP4'
  have HNP : Hid (N ≠ P ∧ w.heap.size ≤ P) := hide ⟨by have := HB3.out.lt; omega, by have := H3.out.bel.size; omega⟩
  go_upto_region 4 with fail
  rw [← hP]
  clear HP4' hP H3 HB3
  generalize w3.alloc (.cells #[.int .i64 (tn : Int), .int .u64 (wn : Int), .int .i64 (sn : Int), .int .u64 0, .slice none 0 0] 32) = u4 at *
  go_upto_region 8 with (first
    | (go_at_call 10; refine (HLV.out _).mono ?_; rintro e w5 ⟨rfl, h5⟩; have H5 := hide (H4.out.below h5).1; have HB5 := hide (HB4.out.keep h5); have HP5 := hide (HP4.out.keep h5); clear h5)
    | (go_at_call 11; refine (num_any _ _).mono ?_; rintro e wx ⟨rfl, hwx⟩; have hwy := hwx.symm; subst hwy; clear hwx))
  have p0 : w5.cell? ⟨P, 0, none⟩ = some (.int .i64 (tn : Int)) := HP5.out.cell 0
  have p1 : w5.cell? ⟨P, 1, none⟩ = some (.int .u64 (wn : Int)) := HP5.out.cell 1
  have p2 : w5.cell? ⟨P, 2, none⟩ = some (.int .i64 (sn : Int)) := HP5.out.cell 2
  have p3 : w5.cell? ⟨P, 3, none⟩ = some (.int .u64 0) := HP5.out.cell 3
  have p4 : w5.cell? ⟨P, 4, none⟩ = some (.slice none 0 0) := HP5.out.cell 4
  obtain ⟨Q, hQ⟩ : ∃ Q, Q = w5.heap.size := ⟨_, rfl⟩
  have H6 := hide (H5.out.more (.cells #[.int .i64 (tn : Int), .int .u64 (wn : Int), .int .i64 (sn : Int), .int .u64 0, .slice none 0 0] 32) hQ)
  have HB6 := hide (HB5.out.alloc (.cells #[.int .i64 (tn : Int), .int .u64 (wn : Int), .int .i64 (sn : Int), .int .u64 0, .slice none 0 0] 32))
  have HP6 := hide (HP5.out.alloc (.cells #[.int .i64 (tn : Int), .int .u64 (wn : Int), .int .i64 (sn : Int), .int .u64 0, .slice none 0 0] 32))
  have HQ6' := Bl.new w5 #[.int .i64 (tn : Int), .int .u64 (wn : Int), .int .i64 (sn : Int), .int .u64 0, .slice none 0 0] 32
  rw [← hQ] at HQ6'
  have HQ6 := hide HQ6'
  have HNQ : Hid (N ≠ Q ∧ P ≠ Q ∧ w.heap.size ≤ Q) := hide ⟨by have := HB5.out.lt; omega, by have := HP5.out.lt; omega, by have := H5.out.bel.size; omega⟩
  go_upto_region 9 with fail
  rw [← hQ]
  clear HQ6' hQ H4 HB4 HP4 H5 HB5 HP5 p0 p1 p2 p3 p4
  generalize w5.alloc (.cells #[.int .i64 (tn : Int), .int .u64 (wn : Int), .int .i64 (sn : Int), .int .u64 0, .slice none 0 0] 32) = u6 at *
  go_wp2_with fail
  go_loopw [10] (fun a9 wr => ∃ i : Nat, a9 = .int .i64 (i : Int) ∧ i ≤ nf ∧ Hid (∃ G S T ao bo n c m d L K, PlJ w wr N P Q lp kp [.int .i64 (tn : Int), .int .u64 (wn : Int), .int .i64 (sn : Int), .slice fo nf cf] i G S T ao bo n c m d L K))
    (fun a9 _ => nf - (match a9 with | .int _ x => x.toNat | _ => 0))
  case atStart => exact ⟨0, rfl, Nat.zero_le _, hide ⟨_, _, _, _, _, _, _, _, _, _, _, plj_start H6.out (by simp) (by simp) (by simp) ⟨HNP.out.1, HNQ.out.1, HNQ.out.2.1⟩ ⟨HNP.out.2, HNQ.out.2.2⟩ HB6.out HP6.out HQ6.out⟩⟩
  case round =>
    obtain ⟨i, rfl, hi, hrel⟩ := hrel
    obtain ⟨G, S, T, ao, bo, n, c, m, d, L, K, hJ⟩ := hrel.out
    have HJ := hide hJ
    have b3 : wr.cell? ⟨N, 3, none⟩ = some (.slice fo nf cf) := hJ.box.cell 3
    clear hrel hJ H6 HB6 HP6 HQ6 HNW HNX HRN HLV
    by_cases hin : i < nf
    · have hin' : (i : Int) < (nf : Int) := by omega
      obtain ⟨x, hx⟩ : ∃ x, l[i]? = some x := ⟨_, List.getElem?_eq_getElem (by rw [HNL.out]; exact hin)⟩
      obtain ⟨bb, off, hao, -⟩ := HS.out.at hx
      subst hao
      have HSC : Hid (∀ W, Below w.heap.size w W → W.cell? ⟨bb, off + i * 3, none⟩ = some (.int .i64 x.k) ∧ W.cell? ⟨bb, off + i * 3 + 1, none⟩ = some (.string (str x.s)) ∧ W.cell? ⟨bb, off + i * 3 + 2, none⟩ = some (.int .u64 (x.n : Int))) := hide fun W hW => by
        obtain ⟨b', o', he, g0, g1, g2⟩ := (HS.out.keep hW).at hx
        cases he
        exact ⟨g0, g1, g2⟩
      obtain ⟨hxs, hxn⟩ := HO.out.at hx
      have HXN := hide hxn
      have HXS := hide hxs
      have HIN := hide hin
      have hwri : IntKind.i64.wrap ((i : Int) + 1) = ((i + 1 : Nat) : Int) := by have := HNF.out; rw [IntKind.wrap_i64]; omega
      obtain ⟨xk, xs, xn⟩ := x
      simp only at HSC HXS HXN
      obtain ⟨q0, q1, q2⟩ := HSC.out wr HJ.out.two.bel
      clear hi hx hxs hxn hin
      by_cases hev : i % 2 = 0
      · have hmod : Int.tmod (i : Int) 2 = 0 := by rw [show (2 : Int) = ((2 : Nat) : Int) from rfl, ← Int.ofNat_tmod]; omega
        clear hev
        have HPL := hide (played_any G w lp kp S T ao n c L xk xs xn wr.drew HJ.out.two.drew HJ.out.seeS (fun a ha => (HJ.out.ga a ha).1) HJ.out.lenS HJ.out.riS (by have := HJ.out.lenS; have := HJ.out.moreS; have := HIN.out; have := HNF.out; omega) HXS.out HXN.out)
        generalize hpS : playS S xk xs xn = S' at HPL
        clear hpS
        have p0 : wr.cell? ⟨P, 0, none⟩ = some (.int .i64 (S.tries : Int)) := HJ.out.bP.cell 0; have p1 : wr.cell? ⟨P, 1, none⟩ = some (.int .u64 (S.win : Int)) := HJ.out.bP.cell 1; have p2 : wr.cell? ⟨P, 2, none⟩ = some (.int .i64 (S.subs : Int)) := HJ.out.bP.cell 2; have p3 : wr.cell? ⟨P, 3, none⟩ = some (.int .u64 (S.clock : Int)) := HJ.out.bP.cell 3; have p4 : wr.cell? ⟨P, 4, none⟩ = some (.slice ao n c) := HJ.out.bP.cell 4
        unfold rcl at HPL
        go_wp2_with fail
        go_region_law (first
          | (refine law_call rfl 91 rfl 12 #[.pointer (some ⟨lp, 0, none⟩), .agg #[.int .i64 (S.tries : Int), .int .u64 (S.win : Int), .int .i64 (S.subs : Int), .int .u64 (S.clock : Int), .slice ao n c], .agg #[.int .i64 xk, .string (str xs), .int .u64 (xn : Int)]] (by unfold execOp; simp; go_simp) HPL.out ?_; rintro ε w3 ⟨ao', n', c', rfl, L', hp⟩; refine ⟨_, rfl, ?_⟩; unfold rcl; have HP := hide hp.undrew; clear hp; have HBP := hide (HP.out.held.bl HJ.out.gP HJ.out.bP); clear p0 p1 p2 p3 p4; have p0 : w3.cell? ⟨P, 0, none⟩ = some (.int .i64 (S.tries : Int)) := HBP.out.cell 0; have p1 : w3.cell? ⟨P, 1, none⟩ = some (.int .u64 (S.win : Int)) := HBP.out.cell 1; have p2 : w3.cell? ⟨P, 2, none⟩ = some (.int .i64 (S.subs : Int)) := HBP.out.cell 2; have p3 : w3.cell? ⟨P, 3, none⟩ = some (.int .u64 (S.clock : Int)) := HBP.out.cell 3; have p4 : w3.cell? ⟨P, 4, none⟩ = some (.slice ao n c) := HBP.out.cell 4; have pf' := fun i => HBP.out.frozen i))
        all_goals
          go_wp2
          go_roundw
          case rel =>
            obtain ⟨G', hG'⟩ := HJ.out.step (c' := c') HP.out
            exact ⟨i + 1, by first | rfl | simp, HIN.out, hide ⟨_, _, _, _, _, _, _, _, _, _, _, hG'⟩⟩
          case measure => have := HIN.out; simp; omega
      · have hmod : Int.tmod (i : Int) 2 = 1 := by rw [show (2 : Int) = ((2 : Nat) : Int) from rfl, ← Int.ofNat_tmod]; omega
        clear hev
        have HPL := hide (played_any G w kp lp T S bo m d K xk xs xn wr.drew HJ.out.two.swap.drew HJ.out.seeT (fun a ha => (HJ.out.gb a ha).1) HJ.out.lenT HJ.out.riT (by have := HJ.out.lenT; have := HJ.out.moreT; have := HIN.out; have := HNF.out; omega) HXS.out HXN.out)
        generalize hpS : playS T xk xs xn = S' at HPL
        clear hpS
        have p0 : wr.cell? ⟨Q, 0, none⟩ = some (.int .i64 (T.tries : Int)) := HJ.out.bQ.cell 0; have p1 : wr.cell? ⟨Q, 1, none⟩ = some (.int .u64 (T.win : Int)) := HJ.out.bQ.cell 1; have p2 : wr.cell? ⟨Q, 2, none⟩ = some (.int .i64 (T.subs : Int)) := HJ.out.bQ.cell 2; have p3 : wr.cell? ⟨Q, 3, none⟩ = some (.int .u64 (T.clock : Int)) := HJ.out.bQ.cell 3; have p4 : wr.cell? ⟨Q, 4, none⟩ = some (.slice bo m d) := HJ.out.bQ.cell 4
        unfold rcl at HPL
        go_wp2_with fail
        go_region_law (first
          | (refine law_call rfl 102 rfl 12 #[.pointer (some ⟨kp, 0, none⟩), .agg #[.int .i64 (T.tries : Int), .int .u64 (T.win : Int), .int .i64 (T.subs : Int), .int .u64 (T.clock : Int), .slice bo m d], .agg #[.int .i64 xk, .string (str xs), .int .u64 (xn : Int)]] (by unfold execOp; simp; go_simp) HPL.out ?_; rintro ε w3 ⟨ao', n', c', rfl, L', hp⟩; refine ⟨_, rfl, ?_⟩; unfold rcl; have HP := hide hp.undrew; clear hp; have HBP := hide (HP.out.held.bl HJ.out.gQ HJ.out.bQ); clear p0 p1 p2 p3 p4; have p0 : w3.cell? ⟨Q, 0, none⟩ = some (.int .i64 (T.tries : Int)) := HBP.out.cell 0; have p1 : w3.cell? ⟨Q, 1, none⟩ = some (.int .u64 (T.win : Int)) := HBP.out.cell 1; have p2 : w3.cell? ⟨Q, 2, none⟩ = some (.int .i64 (T.subs : Int)) := HBP.out.cell 2; have p3 : w3.cell? ⟨Q, 3, none⟩ = some (.int .u64 (T.clock : Int)) := HBP.out.cell 3; have p4 : w3.cell? ⟨Q, 4, none⟩ = some (.slice bo m d) := HBP.out.cell 4; have pf' := fun i => HBP.out.frozen i))
        all_goals
          go_wp2
          go_roundw
          case rel =>
            obtain ⟨G', hG'⟩ := HJ.out.swap.step (c' := c') HP.out
            exact ⟨i + 1, by first | rfl | simp, HIN.out, hide ⟨_, _, _, _, _, _, _, _, _, _, _, hG'.swap⟩⟩
          case measure => have := HIN.out; simp; omega
    · have hin' : ¬ (i : Int) < (nf : Int) := by omega
      clear hi hin
      go_wp2
      go_ret
      exact ⟨rfl, HJ.out.two.bel⟩
set_option maxHeartbeats 1000000 in
set_option maxRecDepth 100000 in
theorem limitPlays_bad (t : Int) (wn : Nat) (sb : Int) (fo : Option Addr) (nf cf : Nat) (w : World) (hg : ¬ good t wn sb) :
    Calls Try.prog 3 #[sval t wn sb (.slice fo nf cf)] w fun e w' => e = .returned (.bool true) ∧ Below w.heap.size w w' := by
  have HLV : Hid (∀ W, Calls Try.prog 10 #[] W fun e w' => e = .returned (.bool true) ∧ Below W.heap.size W w') := hide live_true
  have HB := hide (Bl.new w #[.int .i64 t, .int .u64 (wn : Int), .int .i64 sb, .slice fo nf cf] 25)
  have HBN := hide (below_new w (.cells #[.int .i64 t, .int .u64 (wn : Int), .int .i64 sb, .slice fo nf cf] 25))
  have HNW : Hid (∀ W, Calls Try.prog 8 #[.int .i64 t, .int .u64 (wn : Int), .int .i64 sb] W fun e w' => e = .returned (.tuple #[.pointer none, .int .i64 2]) ∧ w' = W) := hide fun W => new_bad t wn sb W (by unfold good at hg; omega)
  have HRN := hide (refBad t wn sb hg)
  clear hg
  unfold sval at *
  go_enter Try.func3, Try.ntmps3
  go_upto_region 1 with fail
  obtain ⟨N, hN⟩ : ∃ N, N = w.heap.size := ⟨_, rfl⟩
  rw [← hN] at HB ⊢
  clear hN
  generalize w.alloc (.cells #[.int .i64 t, .int .u64 (wn : Int), .int .i64 sb, .slice fo nf cf] 25) = u at *
  have b0 : u.cell? ⟨N, 0, none⟩ = some (.int .i64 t) := HB.out.cell 0
  have b1 : u.cell? ⟨N, 1, none⟩ = some (.int .u64 (wn : Int)) := HB.out.cell 1
  have b2 : u.cell? ⟨N, 2, none⟩ = some (.int .i64 sb) := HB.out.cell 2
  go_wp2_with (first
    | (go_at_call 8; refine (HNW.out _).mono ?_; rintro e wx ⟨rfl, hwx⟩; have hwy := hwx.symm; subst hwy; clear hwx)
    | (go_at_call 9; refine (HRN.out _).mono ?_; rintro e w3 ⟨rfl, h3⟩; have H3 := hide (HBN.out.trans (h3.mono HBN.out.size)); clear h3)
    | (go_at_call 10; refine (HLV.out _).mono ?_; rintro e w4 ⟨rfl, h4⟩; have H4 := hide h4; clear h4)
    | (go_at_call 11; refine (num_any _ _).mono ?_; rintro e wx ⟨rfl, hwx⟩; have hwy := hwx.symm; subst hwy; clear hwx))
  go_ret
  have h5 := H3.out.trans ((below_new w3 (.cells #[.int .i64 0, .int .u64 0, .int .i64 0, .int .u64 0, .slice none 0 0] 32)).mono H3.out.size)
  exact ⟨rfl, h5.trans (H4.out.mono h5.size)⟩
theorem limitPlays_card (t : Int) (wn : Nat) (sb : Int) (ao : Option Addr) (c : Nat) (l : List Oc) (w : World) (hw : wn < 18446744073709551616) (hS : OSee w ao l) (hO : OOk l) (hl : l.length * 32 ≤ 140737488351232) :
    Calls Try.prog 3 #[.agg #[.int .i64 t, .int .u64 (wn : Int), .int .i64 sb, .slice ao l.length c]] w fun e w' => e = .returned (.bool true) ∧ Below w.heap.size w w' := by
  by_cases hg : good t wn sb
  · obtain ⟨tn, sn, rfl, rfl, hgd⟩ := good_nat hg hw
    exact limitPlays_good tn wn sn ao c l w hgd hS hO hl
  · exact limitPlays_bad t wn sb ao l.length c w hg
end Go.Proofs.Ytbhlciaigadlkaa
