/- LimitWaits where nothing is made, or the subject is too long. -/
import Derived.Test.YtbhlciaigadlkaaQApart
import Derived.Test.YtbhlciaigadlkaaQWaitM
namespace Go.Proofs.Ytbhlciaigadlkaa
open Go.RowKit Go.Maps Go.Shelf

theorem refGood (t wn sb : Nat) (h : 1 ≤ t ∧ t ≤ 1000000 ∧ 1 ≤ wn ∧ wn < 18446744073709551616 ∧ 1 ≤ sb ∧ sb ≤ 4096) (W : World) : Calls Try.prog 9 #[.int .i64 t, .int .u64 wn, .int .i64 sb] W fun e w' => e = .returned (.tuple #[.agg #[.int .i64 t, .int .u64 wn, .int .i64 sb, .int .u64 0, .slice none 0 0], .int .i64 0]) ∧ Below W.heap.size W w' := by
  have hg : good (t : Int) wn sb := ⟨by omega, by omega, by omega, by omega, by omega⟩
  have := refNew_any t wn sb W
  unfold newR newE at this
  rw [if_pos hg, if_pos hg] at this
  exact this
/-- What the law has at each round's head. -/
structure WaI (w wr : World) (N lp : Nat) (S : LS) (cs : List Value) : Prop where
  mine : Mine [N] w wr lp S
  box : Bl wr N cs 25
set_option maxHeartbeats 2000000 in
set_option maxRecDepth 100000 in
theorem waits_bad (t : Int) (wn : Nat) (sb : Int) (ao : Option Addr) (c n : Nat) (nm : Nm) (w : World) (hg : ¬ good t wn sb) :
    Calls Try.prog 5 #[sval t wn sb (.slice ao n c), .string (str nm)] w fun e w' => e = .returned (.bool true) ∧ Below w.heap.size w w' := by
  have HLV : Hid (∀ W, Calls Try.prog 10 #[] W fun e w' => e = .returned (.bool true) ∧ Below W.heap.size W w') := hide live_true
  have HM : Hid (∀ W, Calls Try.prog 13 #[sval t wn sb (.slice ao n c)] W fun e w' => e = .returned (.pointer none) ∧ Below W.heap.size W w') := hide fun W => made_bad t wn sb ao n c W hg
  have HR := hide (refBad t wn sb hg)
  have HBN := hide (below_new w (.cells #[.int .i64 t, .int .u64 (wn : Int), .int .i64 sb, .slice ao n c] 25))
  have HB := hide (Bl.new w #[.int .i64 t, .int .u64 (wn : Int), .int .i64 sb, .slice ao n c] 25)
  clear hg
  unfold sval at *
  go_enter Try.func5, Try.ntmps5
  go_upto_region 1 with fail
  obtain ⟨N, hN⟩ : ∃ N, N = w.heap.size := ⟨_, rfl⟩
  rw [← hN] at HB ⊢
  clear hN
  generalize w.alloc (.cells #[.int .i64 t, .int .u64 (wn : Int), .int .i64 sb, .slice ao n c] 25) = u at *
  have b0 : u.cell? ⟨N, 0, none⟩ = some (.int .i64 t) := HB.out.cell 0
  have b1 : u.cell? ⟨N, 1, none⟩ = some (.int .u64 (wn : Int)) := HB.out.cell 1
  have b2 : u.cell? ⟨N, 2, none⟩ = some (.int .i64 sb) := HB.out.cell 2
  have b3 : u.cell? ⟨N, 3, none⟩ = some (.slice ao n c) := HB.out.cell 3
  go_wp2_with (first
    | (go_at_call 13; refine (HM.out _).mono ?_; rintro e w1 ⟨rfl, h1⟩; have H1 := hide (HBN.out.trans (h1.mono HBN.out.size)); have HB1 := hide (HB.out.keep h1); clear h1 b0 b1 b2 b3; have b0 : w1.cell? ⟨N, 0, none⟩ = some (.int .i64 t) := HB1.out.cell 0; have b1 : w1.cell? ⟨N, 1, none⟩ = some (.int .u64 (wn : Int)) := HB1.out.cell 1; have b2 : w1.cell? ⟨N, 2, none⟩ = some (.int .i64 sb) := HB1.out.cell 2)
    | (go_at_call 9; refine (HR.out _).mono ?_; rintro e w2 ⟨rfl, h2⟩; have H2 := hide (H1.out.trans (h2.mono H1.out.size)); clear h2)
    | (go_at_call 10; refine (HLV.out _).mono ?_; rintro e w3 ⟨rfl, h3⟩; have H3 := hide h3; clear h3))
  go_ret
  have h4 := H2.out.trans ((below_new w2 (.cells #[.int .i64 0, .int .u64 0, .int .i64 0, .int .u64 0, .slice none 0 0] 32)).mono H2.out.size)
  exact ⟨rfl, h4.trans (H3.out.mono h4.size)⟩
set_option maxHeartbeats 2000000 in
set_option maxRecDepth 100000 in
theorem waits_long (tn wn sn : Nat) (ao : Option Addr) (c n : Nat) (nm : Nm) (w : World) (hgd : 1 ≤ tn ∧ tn ≤ 1000000 ∧ 1 ≤ wn ∧ wn < 18446744073709551616 ∧ 1 ≤ sn ∧ sn ≤ 4096) (hl : 256 < nm.length) :
    Calls Try.prog 5 #[sval tn wn sn (.slice ao n c), .string (str nm)] w fun e w' => e = .returned (.bool true) ∧ Below w.heap.size w w' := by
  have HLV : Hid (∀ W, Calls Try.prog 10 #[] W fun e w' => e = .returned (.bool true) ∧ Below W.heap.size W w') := hide live_true
  have HM : Hid (∀ W, Calls Try.prog 13 #[sval tn wn sn (.slice ao n c)] W fun e w' => ∃ lp, e = .returned (pf lp) ∧ Mine [] W w' lp (fresh tn wn sn)) := hide fun W => made_any tn wn sn ao n c W hgd
  have HR := hide (refGood tn wn sn hgd)
  have HBN := hide (below_new w (.cells #[.int .i64 (tn : Int), .int .u64 (wn : Int), .int .i64 (sn : Int), .slice ao n c] 25))
  have HB := hide (Bl.new w #[.int .i64 (tn : Int), .int .u64 (wn : Int), .int .i64 (sn : Int), .slice ao n c] 25)
  have hsz := str_size nm
  have hl' : (256 : Int) < (nm.length : Int) := by omega
  generalize nm.length = k at *
  clear hl hgd
  unfold sval pf at *
  go_enter Try.func5, Try.ntmps5
  go_upto_region 1 with fail
  obtain ⟨N, hN⟩ : ∃ N, N = w.heap.size := ⟨_, rfl⟩
  rw [← hN] at HB ⊢
  clear hN
  generalize w.alloc (.cells #[.int .i64 (tn : Int), .int .u64 (wn : Int), .int .i64 (sn : Int), .slice ao n c] 25) = u at *
  have b0 : u.cell? ⟨N, 0, none⟩ = some (.int .i64 (tn : Int)) := HB.out.cell 0
  have b1 : u.cell? ⟨N, 1, none⟩ = some (.int .u64 (wn : Int)) := HB.out.cell 1
  have b2 : u.cell? ⟨N, 2, none⟩ = some (.int .i64 (sn : Int)) := HB.out.cell 2
  have b3 : u.cell? ⟨N, 3, none⟩ = some (.slice ao n c) := HB.out.cell 3
  have tok : True := trivial
  go_wp2_with (first
    | (go_at_call 13; refine (HM.out _).mono ?_; rintro e w1 ⟨lp, rfl, h1⟩; have H1 := hide (HBN.out.trans (h1.bel.mono HBN.out.size)); have HB1 := hide (HB.out.keep h1.bel); clear h1 b0 b1 b2 b3)
    | (go_at_call 10; have _t := tok; refine (HLV.out _).mono ?_; rintro e w2 ⟨rfl, h2⟩; have H2 := hide (H1.out.trans (h2.mono H1.out.size)); have HB2 := hide (HB1.out.keep h2); clear h2 tok; have b0 : w2.cell? ⟨N, 0, none⟩ = some (.int .i64 (tn : Int)) := HB2.out.cell 0; have b1 : w2.cell? ⟨N, 1, none⟩ = some (.int .u64 (wn : Int)) := HB2.out.cell 1; have b2 : w2.cell? ⟨N, 2, none⟩ = some (.int .i64 (sn : Int)) := HB2.out.cell 2)
    | (go_at_call 9; refine (HR.out _).mono ?_; rintro e w3 ⟨rfl, h3⟩; have H3 := hide (H2.out.trans (h3.mono H2.out.size)); clear h3)
    | (go_at_call 10; refine (HLV.out _).mono ?_; rintro e w4 ⟨rfl, h4⟩; have H4 := hide h4; clear h4))
  go_ret
  have h5 := H3.out.trans ((below_new w3 (.cells #[.int .i64 (tn : Int), .int .u64 (wn : Int), .int .i64 (sn : Int), .int .u64 0, .slice none 0 0] 32)).mono H3.out.size)
  exact ⟨rfl, h5.trans (H4.out.mono h5.size)⟩
end Go.Proofs.Ytbhlciaigadlkaa
