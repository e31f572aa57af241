/- LimitApart, walked. -/
import Derived.Test.YtbhlciaigadlkaaQTwo
namespace Go.Proofs.Ytbhlciaigadlkaa
open Go.RowKit Go.Maps Go.Shelf

/-- What the law has at each round's head. -/
structure ApI (w wr : World) (N lp kp : Nat) (S T : LS) (cs : List Value) (nm : Nm) (i : Nat) : Prop where
  two : Two [N] w wr lp kp S T
  box : Bl wr N cs 25
  ai : AI S T nm i
theorem below_undrew {w w' : World} (h : Below w.drew.heap.size w.drew w') : Below w.heap.size w w' := ⟨h.os, h.tape, h.output, h.size, h.block⟩
theorem Mine.undrew {G : List Nat} {w0 w : World} {lp : Nat} {S : LS} (h : Mine G w0.drew w lp S) : Mine G w0 w lp S := ⟨h.rep, below_undrew h.bel, h.lt⟩
set_option maxHeartbeats 2000000 in
set_option maxRecDepth 100000 in
theorem limitApart_walk (t : Int) (wn : Nat) (sb : Int) (ao : Option Addr) (c : Nat) (l : List Oc) (nm : Nm) (w : World) (hw : wn < 18446744073709551616) (hS : OSee w ao l) (hO : OOk l) :
    Calls Try.prog 6 #[sval t wn sb (.slice ao l.length c), .string (str nm)] w fun e w' => e = .returned (.bool true) ∧ Below w.heap.size w w' := by
  have HLV : Hid (∀ W, Calls Try.prog 10 #[] W fun e w' => e = .returned (.bool true) ∧ Below W.heap.size W w') := hide live_true
  have HB := hide (Bl.new w #[.int .i64 t, .int .u64 (wn : Int), .int .i64 4096, .slice ao l.length c] 25)
  have HBN := hide (below_new w (.cells #[.int .i64 t, .int .u64 (wn : Int), .int .i64 4096, .slice ao l.length c] 25))
  by_cases hg : good t wn 4096
  · obtain ⟨tn, sn, rfl, h4, hgd⟩ := good_nat hg hw
    obtain rfl : sn = 4096 := by omega
    have HM : Hid (∀ W, Calls Try.prog 13 #[sval tn wn 4096 (.slice ao l.length c)] W fun e w' => ∃ lp, e = .returned (pf lp) ∧ Mine [] W w' lp (fresh tn wn 4096)) := hide fun W => made_any tn wn 4096 ao l.length c W hgd
    have HS := hide hS
    have HO := hide hO
    generalize hnl : l.length = n at *
    have HNL := hide hnl
    clear hg hgd hw hS hO hnl h4
    unfold sval pf at *
    go_enter Try.func6, Try.ntmps6
    go_upto_region 2 with fail
    obtain ⟨N, hN⟩ : ∃ N, N = w.heap.size := ⟨_, rfl⟩
    rw [← hN] at HB ⊢
    clear hN
    generalize w.alloc (.cells #[.int .i64 (tn : Int), .int .u64 (wn : Int), .int .i64 4096, .slice ao n c] 25) = u at *
    have b0 : u.cell? ⟨N, 0, none⟩ = some (.int .i64 (tn : Int)) := HB.out.cell 0
    have b1 : u.cell? ⟨N, 1, none⟩ = some (.int .u64 (wn : Int)) := HB.out.cell 1
    have b2 : u.cell? ⟨N, 2, none⟩ = some (.int .i64 4096) := HB.out.cell 2
    have b3 : u.cell? ⟨N, 3, none⟩ = some (.slice ao n c) := HB.out.cell 3
    go_cut [5, 6] (fun a5 a6 wx => ∃ lp kp : Nat, a5 = .pointer (some ⟨lp, 0, none⟩) ∧ a6 = .pointer (some ⟨kp, 0, none⟩) ∧ Hid (Two [N] w wx lp kp (fresh tn wn 4096) (fresh tn wn 4096) ∧ Bl wx N [.int .i64 (tn : Int), .int .u64 (wn : Int), .int .i64 4096, .slice ao n c] 25))
    case first =>
      have tok : True := trivial
      go_region_held (fun W => W.cell? ⟨N, 0, none⟩ = some (.int .i64 (tn : Int)) ∧ W.cell? ⟨N, 1, none⟩ = some (.int .u64 (wn : Int)) ∧ W.cell? ⟨N, 2, none⟩ = some (.int .i64 4096) ∧ W.cell? ⟨N, 3, none⟩ = some (.slice ao n c)) (go_keep) (first
        | (go_at_call 13; have _t := tok; refine (HM.out _).mono ?_; rintro e w1 ⟨lp, rfl, h1⟩; have h1' := h1.undrew; have H1 := hide (h1'.rebase (G := [N]) HBN.out (fun b hb => by rw [List.mem_singleton.1 hb]; exact HB.out.lt)); have HB1 := hide (HB.out.keep h1'.bel); have d0 := cell_kept b0 h1'.bel; have d1 := cell_kept b1 h1'.bel; have d2 := cell_kept b2 h1'.bel; have d3 := cell_kept b3 h1'.bel; clear h1 h1' tok)
        | (go_at_call 13; refine (HM.out _).mono ?_; rintro e w2 ⟨kp, rfl, h2⟩; have HT2 := hide (two_made H1.out h2); have HB2 := hide (HB1.out.keep h2.bel); have e0 := cell_kept d0 h2.bel; have e1 := cell_kept d1 h2.bel; have e2 := cell_kept d2 h2.bel; have e3 := cell_kept d3 h2.bel; clear h2))
      go_wp2_with fail
      go_meet
      case rel => exact ⟨lp, kp, rfl, rfl, hide ⟨HT2.out, HB2.out⟩⟩
    case rest =>
      obtain ⟨lp, kp, rfl, rfl, hT⟩ := hcut
      have HT0 := hide hT.out.1
      have HB0 := hide hT.out.2
      clear hT b0 b1 b2 b3 HM
      have b3 : wc.cell? ⟨N, 3, none⟩ = some (.slice ao n c) := HB0.out.cell 3
      by_cases hbig : 4096 < n
      · have hbig' : (4096 : Int) < (n : Int) := by omega
        clear hbig
        go_wp2_with (first
          | (go_at_call 10; refine (HLV.out _).mono ?_; rintro e w4 ⟨rfl, h4⟩; have H4 := hide (HT0.out.below h4).1; have d3 := cell_kept b3 h4; clear h4))
        go_ret
        exact ⟨rfl, H4.out.bel⟩
      · have hbig' : ¬ (4096 : Int) < (n : Int) := by omega
        have HN4 : Hid (n ≤ 4096) := hide (by omega)
        clear hbig
        go_wp2_with (first
          | (go_at_call 10; refine (HLV.out _).mono ?_; rintro e w4 ⟨rfl, h4⟩; have H4 := hide (HT0.out.below h4).1; have HB4 := hide (HB0.out.keep h4); have d3 := cell_kept b3 h4; clear h4))
        clear b3 d3
        go_loopw [9] (fun a9 wr => ∃ i : Nat, a9 = .int .i64 (i : Int) ∧ i ≤ n ∧ Hid (∃ S T : LS, ApI w wr N lp kp S T [.int .i64 (tn : Int), .int .u64 (wn : Int), .int .i64 4096, .slice ao n c] nm i))
          (fun a9 _ => n - (match a9 with | .int _ x => x.toNat | _ => 0))
        case atStart => exact ⟨0, rfl, Nat.zero_le _, hide ⟨_, _, ⟨H4.out, HB4.out, ai_start tn wn nm⟩⟩⟩
        case round =>
          obtain ⟨i, rfl, hi, hrel⟩ := hrel
          obtain ⟨S, T, hI⟩ := hrel.out
          have HI := hide hI
          have b3 : wr.cell? ⟨N, 3, none⟩ = some (.slice ao n c) := hI.box.cell 3
          clear hrel hI
          by_cases hin : i < n
          · have hin' : (i : Int) < (n : Int) := by omega
            obtain ⟨x, hx⟩ : ∃ x, l[i]? = some x := ⟨_, List.getElem?_eq_getElem (by rw [HNL.out]; exact hin)⟩
            obtain ⟨bb, off, hao, q0, q1, q2⟩ := (HS.out.keep HI.out.two.bel).at hx
            subst hao
            obtain ⟨hxs, hxn⟩ := HO.out.at hx
            have HXN := hide hxn
            have HIN := hide hin
            have hwri : IntKind.i64.wrap ((i : Int) + 1) = ((i + 1 : Nat) : Int) := by have := HN4.out; rw [IntKind.wrap_i64]; omega
            obtain ⟨xk, xs, xn⟩ := x
            simp only at q0 q1 q2 hxs HXN
            have HMO := hide (HI.out.two.more (.cells #[.int .i64 xk, .string (str xs), .int .u64 (xn : Int)] 40) rfl)
            have HBO := hide (HI.out.box.alloc (.cells #[.int .i64 xk, .string (str xs), .int .u64 (xn : Int)] 40))
            have HXO := hide (Bl.new wr #[.int .i64 xk, .string (str xs), .int .u64 (xn : Int)] 40)
            clear hi hx hxs hxn hin
            go_upto_region 12 with fail
            obtain ⟨A, hA⟩ : ∃ A, A = wr.heap.size := ⟨_, rfl⟩
            rw [← hA] at HMO HXO ⊢
            clear hA q0 q1 q2 b3
            generalize wr.alloc (.cells #[.int .i64 xk, .string (str xs), .int .u64 (xn : Int)] 40) = u1 at *
            have q1 : u1.cell? ⟨A, 1, none⟩ = some (.string (str xs)) := HXO.out.cell 1
            have q2 : u1.cell? ⟨A, 2, none⟩ = some (.int .u64 (xn : Int)) := HXO.out.cell 2
            have HOKS := hide HMO.out.oks
            have HTR := hide (try_t HMO.out xs xn HXN.out)
            have hsz := str_size xs
            have tok2 : True := trivial
            by_cases hxe : xs = nm
            · have hq : ((str xs).toList == (str nm).toList) = true := by rw [str_beq]; exact decide_eq_true hxe
              have HSM := hide (ai_same HOKS.out.1 HOKS.out.2 HI.out.ai (by have := HIN.out; have := HN4.out; omega) (now := xn) HXN.out)
              rw [← hxe] at HSM
              have HTK : Hid (∀ W R, Two [A, N] w W lp kp R T → Calls Try.prog 14 #[pf kp, .string (str xs), .int .u64 (xn : Int)] W fun e w' => e = .returned (two (T.try xs xn).2) ∧ Two [A, N] w w' kp lp (T.try xs xn).1 R ∧ Held [A, N] W w') := hide fun W R hW => try_t hW.swap xs xn HXN.out
              rw [← HSM.out.1] at HTK
              have HAI := hide HSM.out.2
              clear HSM
              unfold two pf at *
              generalize S.try xs xn = r at *
              generalize T.try xs xn = r' at *
              obtain ⟨R, ln, en⟩ := r
              simp only at HTR HTK HAI
              rw [hxe] at HAI
              clear hxe
              go_wp2_with (first
                | (go_at_call 14; have _t := tok2; refine HTR.out.mono ?_; rintro e w3 ⟨rfl, h3, k3⟩; clear tok2; have H3 := hide h3; have HX3 := hide (k3.bl (by simp) HXO.out); have HB3 := hide (k3.bl (by simp) HBO.out); clear h3 k3 q1 q2; have q1 : w3.cell? ⟨A, 1, none⟩ = some (.string (str xs)) := HX3.out.cell 1; have q2 : w3.cell? ⟨A, 2, none⟩ = some (.int .u64 (xn : Int)) := HX3.out.cell 2)
                | (go_at_call 14; refine (HTK.out _ _ H3.out).mono ?_; rintro e w5 ⟨rfl, h5, k5⟩; have H5 := hide h5.swap; have HB5 := hide (k5.bl (by simp) HB3.out); clear h5 k5 q1 q2))
              go_roundw
              case rel => exact ⟨i + 1, by first | rfl | simp, HIN.out, hide ⟨_, _, ⟨H5.out.less (fun b hb => by simp at hb ⊢; exact .inr hb), HB5.out, HAI.out⟩⟩⟩
              case measure => have := HIN.out; simp; omega
            · have hq : ((str xs).toList == (str nm).toList) = false := by rw [str_beq]; exact decide_eq_false hxe
              have HAI := hide (ai_other HOKS.out.1 HOKS.out.2 HI.out.ai (nm' := xs) (now := xn) HXN.out hxe)
              by_cases h256 : xs.length ≤ 256
              · have h256' : (xs.length : Int) ≤ 256 := by omega
                rw [if_pos h256] at HAI
                have HSW : Hid (∀ W R, Two [A, N] w W lp kp R T → Calls Try.prog 17 #[pf kp, .int .u64 (xn : Int)] W fun e w' => e = .returned (.int .i64 ((T.goTo xn).tab.length : Int)) ∧ Two [A, N] w w' kp lp (T.goTo xn) R ∧ Held [A, N] W w') := hide fun W R hW => sweep_t hW.swap xn HXN.out
                clear h256 hxe
                unfold two pf at *
                generalize S.try xs xn = r at *
                obtain ⟨R, ln, en⟩ := r
                simp only at HTR HAI
                generalize (T.goTo xn).tab.length = tl at *
                go_wp2_with (first
                  | (go_at_call 14; have _t := tok2; refine HTR.out.mono ?_; rintro e w3 ⟨rfl, h3, k3⟩; clear tok2; have H3 := hide h3; have HX3 := hide (k3.bl (by simp) HXO.out); have HB3 := hide (k3.bl (by simp) HBO.out); clear h3 k3 q1 q2; have q1 : w3.cell? ⟨A, 1, none⟩ = some (.string (str xs)) := HX3.out.cell 1; have q2 : w3.cell? ⟨A, 2, none⟩ = some (.int .u64 (xn : Int)) := HX3.out.cell 2)
                  | (go_at_call 17; refine (HSW.out _ _ H3.out).mono ?_; rintro e w5 ⟨rfl, h5, k5⟩; have H5 := hide h5.swap; have HB5 := hide (k5.bl (by simp) HB3.out); clear h5 k5 q1 q2))
                go_roundw
                case rel => exact ⟨i + 1, by first | rfl | simp, HIN.out, hide ⟨_, _, ⟨H5.out.less (fun b hb => by simp at hb ⊢; exact .inr hb), HB5.out, HAI.out⟩⟩⟩
                case measure => have := HIN.out; simp; omega
              · have h256' : ¬ (xs.length : Int) ≤ 256 := by omega
                rw [if_neg h256] at HAI
                clear h256 hxe
                unfold two pf at *
                generalize S.try xs xn = r at *
                obtain ⟨R, ln, en⟩ := r
                simp only at HTR HAI
                go_wp2_with (first
                  | (go_at_call 14; have _t := tok2; refine HTR.out.mono ?_; rintro e w3 ⟨rfl, h3, k3⟩; clear tok2; have H3 := hide h3; have HX3 := hide (k3.bl (by simp) HXO.out); have HB3 := hide (k3.bl (by simp) HBO.out); clear h3 k3 q1 q2; have q1 : w3.cell? ⟨A, 1, none⟩ = some (.string (str xs)) := HX3.out.cell 1; have q2 : w3.cell? ⟨A, 2, none⟩ = some (.int .u64 (xn : Int)) := HX3.out.cell 2))
                go_roundw
                case rel => exact ⟨i + 1, by first | rfl | simp, HIN.out, hide ⟨_, _, ⟨H3.out.less (fun b hb => by simp at hb ⊢; exact .inr hb), HB3.out, HAI.out⟩⟩⟩
                case measure => have := HIN.out; simp; omega
          · have hin' : ¬ (i : Int) < (n : Int) := by omega
            clear hi hin
            go_wp2
            go_ret
            exact ⟨rfl, HI.out.two.bel⟩
  · have HM : Hid (∀ W, Calls Try.prog 13 #[sval t wn 4096 (.slice ao l.length c)] W fun e w' => e = .returned (.pointer none) ∧ Below W.heap.size W w') := hide fun W => made_bad t wn 4096 ao l.length c W hg
    have HR := hide (refBad t wn 4096 hg)
    generalize l.length = n at *
    clear hg hw hS hO
    unfold sval at *
    go_enter Try.func6, Try.ntmps6
    go_upto_region 2 with fail
    obtain ⟨N, hN⟩ : ∃ N, N = w.heap.size := ⟨_, rfl⟩
    rw [← hN] at HB ⊢
    clear hN
    generalize w.alloc (.cells #[.int .i64 t, .int .u64 (wn : Int), .int .i64 4096, .slice ao n c] 25) = u at *
    have b0 : u.cell? ⟨N, 0, none⟩ = some (.int .i64 t) := HB.out.cell 0
    have b1 : u.cell? ⟨N, 1, none⟩ = some (.int .u64 (wn : Int)) := HB.out.cell 1
    have b2 : u.cell? ⟨N, 2, none⟩ = some (.int .i64 4096) := HB.out.cell 2
    have b3 : u.cell? ⟨N, 3, none⟩ = some (.slice ao n c) := HB.out.cell 3
    have tok : True := trivial
    go_region_held (fun W => W.cell? ⟨N, 0, none⟩ = some (.int .i64 t) ∧ W.cell? ⟨N, 1, none⟩ = some (.int .u64 (wn : Int)) ∧ W.cell? ⟨N, 2, none⟩ = some (.int .i64 4096) ∧ W.cell? ⟨N, 3, none⟩ = some (.slice ao n c)) (go_keep) (first
      | (go_at_call 13; have _t := tok; refine (HM.out _).mono ?_; rintro e w1 ⟨rfl, h1⟩; have h1' := below_undrew h1; have H1 := hide (HBN.out.trans (h1'.mono HBN.out.size)); have HB1 := hide (HB.out.keep h1'); have d0 := cell_kept b0 h1'; have d1 := cell_kept b1 h1'; have d2 := cell_kept b2 h1'; have d3 := cell_kept b3 h1'; clear h1 h1' tok)
      | (go_at_call 13; refine (HM.out _).mono ?_; rintro e w2 ⟨rfl, h2⟩; have H2 := hide (H1.out.trans (h2.mono H1.out.size)); have HB2 := hide (HB1.out.keep h2); have e0 := cell_kept d0 h2; have e1 := cell_kept d1 h2; have e2 := cell_kept d2 h2; have e3 := cell_kept d3 h2; clear h2))
    all_goals
      go_wp2_with (first
        | (go_at_call 9; refine (HR.out _).mono ?_; rintro e w3 ⟨rfl, h3⟩; have H3 := hide (H2.out.trans (h3.mono H2.out.size)); clear h3)
        | (go_at_call 10; refine (HLV.out _).mono ?_; rintro e w4 ⟨rfl, h4⟩; have H4 := hide h4; clear h4))
      go_ret
      have h5 := H3.out.trans ((below_new w3 (.cells #[.int .i64 0, .int .u64 0, .int .i64 0, .int .u64 0, .slice none 0 0] 32)).mono H3.out.size)
      exact ⟨rfl, h5.trans (H4.out.mono h5.size)⟩
theorem limitApart_card (t : Int) (wn : Nat) (sb : Int) (ao : Option Addr) (c : Nat) (l : List Oc) (s : ByteArray) (w : World) (hw : wn < 18446744073709551616) (hS : OSee w ao l) (hO : OOk l) :
    Calls Try.prog 6 #[.agg #[.int .i64 t, .int .u64 (wn : Int), .int .i64 sb, .slice ao l.length c], .string s] w fun e w' => e = .returned (.bool true) ∧ Below w.heap.size w w' := by
  have := limitApart_walk t wn sb ao c l (nmOf s) w hw hS hO
  rw [str_nmOf] at this
  exact this
end Go.Proofs.Ytbhlciaigadlkaa
