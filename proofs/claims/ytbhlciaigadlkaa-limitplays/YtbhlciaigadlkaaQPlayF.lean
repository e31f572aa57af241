/- The law's played: Left and Wait. -/
import Derived.Test.YtbhlciaigadlkaaQPlayB
namespace Go.Proofs.Ytbhlciaigadlkaa
open Go.RowKit Go.Maps Go.Shelf

theorem lefts_t {G : List Nat} {w0 w : World} {lp kp : Nat} {S T : LS} (h : Two G w0 w lp kp S T) (nm : Nm) (now : Nat) (hn : now < 18446744073709551616) :
    Calls Try.prog 16 #[pf lp, .string (str nm), .int .u64 (now : Int)] w fun e w' => e = .returned (.int .i64 ((S.left nm (max now S.clock)).1 : Int)) ∧ Below w.heap.size w w' := by
  obtain ⟨Y, Z, h1, h2, h3, h4⟩ := h.rep
  exact lefts_any lp now nm S Y w h1 hn
theorem wait_t {G : List Nat} {w0 w : World} {lp kp : Nat} {S T : LS} (h : Two G w0 w lp kp S T) (nm : Nm) (now : Nat) (hn : now < 18446744073709551616) :
    Calls Try.prog 15 #[pf lp, .string (str nm), .int .u64 (now : Int)] w fun e w' => e = .returned (.int .u64 (S.wait nm now : Int)) ∧ Below w.heap.size w w' := by
  obtain ⟨Y, Z, h1, h2, h3, h4⟩ := h.rep
  exact wait_any lp now nm S Y w h1 hn
set_option maxHeartbeats 2000000 in
set_option maxRecDepth 100000 in
theorem played_left (G : List Nat) (w0 : World) (lp kp : Nat) (S T : LS) (ao : Option Addr) (n c : Nat) (L : Tab) (xs : Nm) (xn : Nat) (w : World) (h : Two G w0 w lp kp S T) (hV : VSee w ao L) (hg : ∀ a, ao = some a → a.block ∈ G) (hn : n = L.length) (hR : RI S L) (hsz : (n + 1) * 32 ≤ 140737488355328) (hxl : xs.length ≤ maxLen) (hxn : xn < 18446744073709551616)  :
    Calls Try.prog 12 #[pf lp, .agg (rcl S (.slice ao n c)).toArray, .agg #[.int .i64 2, .string (str xs), .int .u64 (xn : Int)]] w fun e w' => PlayedPost G w0 w lp kp (S) T ao L e w' := by
  have hS := h.oks.1
  have HGL := hide h.lt
  have HW0 := hide h.bel.size
  have HT1 := h.more (.cells #[.int .i64 (S.tries : Int), .int .u64 (S.win : Int), .int .i64 (S.subs : Int), .int .u64 (S.clock : Int), .slice ao n c] 32) rfl
  have HT2 := HT1.more (.cells #[.int .i64 2, .string (str xs), .int .u64 (xn : Int)] 40) rfl
  have HT3 := HT2.more (.cells #[.int .i64 0, .int .u64 0, .int .i64 0, .int .u64 0, .slice none 0 0] 32) rfl
  have HB := hide (((Bl.new w #[.int .i64 (S.tries : Int), .int .u64 (S.win : Int), .int .i64 (S.subs : Int), .int .u64 (S.clock : Int), .slice ao n c] 32).alloc (.cells #[.int .i64 2, .string (str xs), .int .u64 (xn : Int)] 40)).alloc (.cells #[.int .i64 0, .int .u64 0, .int .i64 0, .int .u64 0, .slice none 0 0] 32))
  have HO := hide ((Bl.new (w.alloc (.cells #[.int .i64 (S.tries : Int), .int .u64 (S.win : Int), .int .i64 (S.subs : Int), .int .u64 (S.clock : Int), .slice ao n c] 32)) #[.int .i64 2, .string (str xs), .int .u64 (xn : Int)] 40).alloc (.cells #[.int .i64 0, .int .u64 0, .int .i64 0, .int .u64 0, .slice none 0 0] 32))
  have HZ := hide (Bl.new ((w.alloc (.cells #[.int .i64 (S.tries : Int), .int .u64 (S.win : Int), .int .i64 (S.subs : Int), .int .u64 (S.clock : Int), .slice ao n c] 32)).alloc (.cells #[.int .i64 2, .string (str xs), .int .u64 (xn : Int)] 40)) #[.int .i64 0, .int .u64 0, .int .i64 0, .int .u64 0, .slice none 0 0] 32)
  have hb1 := below_new w (.cells #[.int .i64 (S.tries : Int), .int .u64 (S.win : Int), .int .i64 (S.subs : Int), .int .u64 (S.clock : Int), .slice ao n c] 32)
  have hb2 := hb1.trans ((below_new (w.alloc (.cells #[.int .i64 (S.tries : Int), .int .u64 (S.win : Int), .int .i64 (S.subs : Int), .int .u64 (S.clock : Int), .slice ao n c] 32)) (.cells #[.int .i64 2, .string (str xs), .int .u64 (xn : Int)] 40)).mono hb1.size)
  have HBN := hide (hb2.trans ((below_new ((w.alloc (.cells #[.int .i64 (S.tries : Int), .int .u64 (S.win : Int), .int .i64 (S.subs : Int), .int .u64 (S.clock : Int), .slice ao n c] 32)).alloc (.cells #[.int .i64 2, .string (str xs), .int .u64 (xn : Int)] 40)) (.cells #[.int .i64 0, .int .u64 0, .int .i64 0, .int .u64 0, .slice none 0 0] 32)).mono hb2.size))
  obtain ⟨N, hN⟩ : ∃ N, N = w.heap.size := ⟨_, rfl⟩
  obtain ⟨O, hO⟩ : ∃ O, O = N + 1 := ⟨_, rfl⟩
  obtain ⟨M, hM⟩ : ∃ M, M = O + 1 := ⟨_, rfl⟩
  have e1 : (w.alloc (.cells #[.int .i64 (S.tries : Int), .int .u64 (S.win : Int), .int .i64 (S.subs : Int), .int .u64 (S.clock : Int), .slice ao n c] 32)).heap.size = O := by rw [hO, hN]; simp
  have e2 : ((w.alloc (.cells #[.int .i64 (S.tries : Int), .int .u64 (S.win : Int), .int .i64 (S.subs : Int), .int .u64 (S.clock : Int), .slice ao n c] 32)).alloc (.cells #[.int .i64 2, .string (str xs), .int .u64 (xn : Int)] 40)).heap.size = M := by rw [hM, ← e1]; simp
  rw [e2, e1, ← hN] at HT3
  rw [e1] at HO
  rw [e2] at HZ
  rw [← hN] at HB
  have HTC := hide HT3
  have HV := hide (hV.keep HBN.out)
  have HH0 := hide (held_below HBN.out h.lt)
  have HNE : Hid (N ≠ M ∧ O ≠ M ∧ N ≠ O) := hide (by omega)
  have HMG : Hid (M ∉ G) := hide fun e => by have := HGL.out M e; omega
  have HMW : Hid (w0.heap.size ≤ M) := hide (by have := HW0.out; omega)
  have HGB := hide hg
  have HSZW := hide HBN.out.size
  have HRI := hide hR
  have HNL := hide hn
  have HSZ := hide hsz
  have HXL := hide hxl
  have HXN := hide hxn
  have HOK := hide hS
  clear hR hn hsz hS hxl hxn
  clear h HT1 HT2 HT3 hV hg hb1 hb2 e1 e2
  unfold pf rcl at *
  go_enter Try.func12, Try.ntmps12
  go_upto_region 1 with fail
  rw [← hN]
  rw [← hO]
  rw [← hM]
  clear hN hO hM
  generalize ((w.alloc (.cells #[.int .i64 (S.tries : Int), .int .u64 (S.win : Int), .int .i64 (S.subs : Int), .int .u64 (S.clock : Int), .slice ao n c] 32)).alloc (.cells #[.int .i64 2, .string (str xs), .int .u64 (xn : Int)] 40)).alloc (.cells #[.int .i64 0, .int .u64 0, .int .i64 0, .int .u64 0, .slice none 0 0] 32) = u at *
  have HBC := HB
  have HOC := HO
  have HZC := HZ
  have HVC := HV
  have HHC := HH0
  clear HB HO HZ HV HH0
  have b0 : u.cell? ⟨N, 0, none⟩ = some (.int .i64 (S.tries : Int)) := HBC.out.cell 0; have b1 : u.cell? ⟨N, 1, none⟩ = some (.int .u64 (S.win : Int)) := HBC.out.cell 1; have b2 : u.cell? ⟨N, 2, none⟩ = some (.int .i64 (S.subs : Int)) := HBC.out.cell 2; have b3 : u.cell? ⟨N, 3, none⟩ = some (.int .u64 (S.clock : Int)) := HBC.out.cell 3; have b4 : u.cell? ⟨N, 4, none⟩ = some (.slice ao n c) := HBC.out.cell 4; have o0 : u.cell? ⟨O, 0, none⟩ = some (.int .i64 2) := HOC.out.cell 0; have o1 : u.cell? ⟨O, 1, none⟩ = some (.string (str xs)) := HOC.out.cell 1; have o2 : u.cell? ⟨O, 2, none⟩ = some (.int .u64 (xn : Int)) := HOC.out.cell 2
  have z0 : u.cell? ⟨M, 0, none⟩ = some (.int .i64 0) := HZC.out.cell 0; have z1 : u.cell? ⟨M, 1, none⟩ = some (.int .u64 0) := HZC.out.cell 1; have z2 : u.cell? ⟨M, 2, none⟩ = some (.int .i64 0) := HZC.out.cell 2; have z3 : u.cell? ⟨M, 3, none⟩ = some (.int .u64 0) := HZC.out.cell 3; have z4 : u.cell? ⟨M, 4, none⟩ = some (.slice none 0 0) := HZC.out.cell 4; have zf := fun i => HZC.out.frozen i
  have hNM := HNE.out.1
  have hMN := Ne.symm HNE.out.1
  have hOM := HNE.out.2.1
  have hMO := Ne.symm HNE.out.2.1
  have HNB : Hid (n ≤ 9223372036854775807) := hide (by have := HSZ.out; omega)
  go_wp2_with fail
  go_region_held (fun W => W.cell? ⟨N, 0, none⟩ = some (.int .i64 (S.tries : Int)) ∧ W.cell? ⟨N, 1, none⟩ = some (.int .u64 (S.win : Int)) ∧ W.cell? ⟨N, 2, none⟩ = some (.int .i64 (S.subs : Int)) ∧ W.cell? ⟨N, 3, none⟩ = some (.int .u64 (S.clock : Int)) ∧ W.cell? ⟨N, 4, none⟩ = some (.slice ao n c) ∧ W.cell? ⟨O, 1, none⟩ = some (.string (str xs)) ∧ W.cell? ⟨O, 2, none⟩ = some (.int .u64 (xn : Int))) (go_keep) (first
    | (go_at_call 16; refine (lefts_t HTC.out.drew xs xn HXN.out).mono ?_; rintro e w1 ⟨rfl, hw⟩; have hw' := below_undrew hw; have HK := hide (HTC.out.below hw'); have HT' := hide HK.out.1; have HH' := hide (HHC.out.trans (fun b hb => HK.out.2 b (by simp [hb]))); have HB' := hide (HBC.out.keep hw'); have HO' := hide (HOC.out.keep hw'); have HZ' := hide (HZC.out.keep hw'); have HV' := hide (HVC.out.keep hw'); have HS' := hide (Nat.le_trans HSZW.out hw'.size); clear hw hw' HK HTC HHC HBC HOC HZC HVC HSZW b0 b1 b2 b3 b4 o0 o1 o2 z0 z1 z2 z3 z4 zf; have HTC := HT'; have HHC := HH'; have HBC := HB'; have HOC := HO'; have HZC := HZ'; have HVC := HV'; have HSZW := HS'; clear HT' HH' HB' HO' HZ' HV' HS'; have b0 : w1.cell? ⟨N, 0, none⟩ = some (.int .i64 (S.tries : Int)) := HBC.out.cell 0; have b1 : w1.cell? ⟨N, 1, none⟩ = some (.int .u64 (S.win : Int)) := HBC.out.cell 1; have b2 : w1.cell? ⟨N, 2, none⟩ = some (.int .i64 (S.subs : Int)) := HBC.out.cell 2; have b3 : w1.cell? ⟨N, 3, none⟩ = some (.int .u64 (S.clock : Int)) := HBC.out.cell 3; have b4 : w1.cell? ⟨N, 4, none⟩ = some (.slice ao n c) := HBC.out.cell 4; have o0 : w1.cell? ⟨O, 0, none⟩ = some (.int .i64 2) := HOC.out.cell 0; have o1 : w1.cell? ⟨O, 1, none⟩ = some (.string (str xs)) := HOC.out.cell 1; have o2 : w1.cell? ⟨O, 2, none⟩ = some (.int .u64 (xn : Int)) := HOC.out.cell 2; have z0 : w1.cell? ⟨M, 0, none⟩ = some (.int .i64 0) := HZC.out.cell 0; have z1 : w1.cell? ⟨M, 1, none⟩ = some (.int .u64 0) := HZC.out.cell 1; have z2 : w1.cell? ⟨M, 2, none⟩ = some (.int .i64 0) := HZC.out.cell 2; have z3 : w1.cell? ⟨M, 3, none⟩ = some (.int .u64 0) := HZC.out.cell 3; have z4 : w1.cell? ⟨M, 4, none⟩ = some (.slice none 0 0) := HZC.out.cell 4; have zf := fun i => HZC.out.frozen i)
    | (go_at_call 22; refine (rleft_any S HOK.out ao n c xn xs L _ HNL.out HVC.out HRI.out HXN.out HNB.out).mono ?_; rintro e w2 ⟨rfl, hw⟩; have hw' := hw; have HK := hide (HTC.out.below hw'); have HT' := hide HK.out.1; have HH' := hide (HHC.out.trans (fun b hb => HK.out.2 b (by simp [hb]))); have HB' := hide (HBC.out.keep hw'); have HO' := hide (HOC.out.keep hw'); have HZ' := hide (HZC.out.keep hw'); have HV' := hide (HVC.out.keep hw'); have HS' := hide (Nat.le_trans HSZW.out hw'.size); clear hw hw' HK HTC HHC HBC HOC HZC HVC HSZW b0 b1 b2 b3 b4 o0 o1 o2 z0 z1 z2 z3 z4 zf; have HTC := HT'; have HHC := HH'; have HBC := HB'; have HOC := HO'; have HZC := HZ'; have HVC := HV'; have HSZW := HS'; clear HT' HH' HB' HO' HZ' HV' HS'; have b0 : w2.cell? ⟨N, 0, none⟩ = some (.int .i64 (S.tries : Int)) := HBC.out.cell 0; have b1 : w2.cell? ⟨N, 1, none⟩ = some (.int .u64 (S.win : Int)) := HBC.out.cell 1; have b2 : w2.cell? ⟨N, 2, none⟩ = some (.int .i64 (S.subs : Int)) := HBC.out.cell 2; have b3 : w2.cell? ⟨N, 3, none⟩ = some (.int .u64 (S.clock : Int)) := HBC.out.cell 3; have b4 : w2.cell? ⟨N, 4, none⟩ = some (.slice ao n c) := HBC.out.cell 4; have o0 : w2.cell? ⟨O, 0, none⟩ = some (.int .i64 2) := HOC.out.cell 0; have o1 : w2.cell? ⟨O, 1, none⟩ = some (.string (str xs)) := HOC.out.cell 1; have o2 : w2.cell? ⟨O, 2, none⟩ = some (.int .u64 (xn : Int)) := HOC.out.cell 2; have z0 : w2.cell? ⟨M, 0, none⟩ = some (.int .i64 0) := HZC.out.cell 0; have z1 : w2.cell? ⟨M, 1, none⟩ = some (.int .u64 0) := HZC.out.cell 1; have z2 : w2.cell? ⟨M, 2, none⟩ = some (.int .i64 0) := HZC.out.cell 2; have z3 : w2.cell? ⟨M, 3, none⟩ = some (.int .u64 0) := HZC.out.cell 3; have z4 : w2.cell? ⟨M, 4, none⟩ = some (.slice none 0 0) := HZC.out.cell 4; have zf := fun i => HZC.out.frozen i))
  go_wp2
  refine bodyPost_ret (results_cell_two rfl _ _ M 32 _ (0, 0) _ rfl (set5 HZC.out _ _ _ _ _) Try.underlying32 (by kernel_rfl)) rfl ?_
  exact played_mk (pp_end HTC.out (by simp) (fun b hb => by simp [hb]) (fun a ha => by simp [HGB.out a ha]) HMW.out HMG.out HHC.out HSZW.out HRI.out HNL.out HVC.out (fun a ha e => HMG.out (e ▸ HGB.out a ha)) (Nat.le_succ _) (fun a _ => .inl rfl) _ _ _ _ _)
set_option maxHeartbeats 2000000 in
set_option maxRecDepth 100000 in
theorem played_wait (G : List Nat) (w0 : World) (lp kp : Nat) (S T : LS) (ao : Option Addr) (n c : Nat) (L : Tab) (xs : Nm) (xn : Nat) (w : World) (h : Two G w0 w lp kp S T) (hV : VSee w ao L) (hg : ∀ a, ao = some a → a.block ∈ G) (hn : n = L.length) (hR : RI S L) (hsz : (n + 1) * 32 ≤ 140737488355328) (hxl : xs.length ≤ maxLen) (hxn : xn < 18446744073709551616)  :
    Calls Try.prog 12 #[pf lp, .agg (rcl S (.slice ao n c)).toArray, .agg #[.int .i64 3, .string (str xs), .int .u64 (xn : Int)]] w fun e w' => PlayedPost G w0 w lp kp (S) T ao L e w' := by
  have hS := h.oks.1
  have HGL := hide h.lt
  have HW0 := hide h.bel.size
  have HT1 := h.more (.cells #[.int .i64 (S.tries : Int), .int .u64 (S.win : Int), .int .i64 (S.subs : Int), .int .u64 (S.clock : Int), .slice ao n c] 32) rfl
  have HT2 := HT1.more (.cells #[.int .i64 3, .string (str xs), .int .u64 (xn : Int)] 40) rfl
  have HT3 := HT2.more (.cells #[.int .i64 0, .int .u64 0, .int .i64 0, .int .u64 0, .slice none 0 0] 32) rfl
  have HB := hide (((Bl.new w #[.int .i64 (S.tries : Int), .int .u64 (S.win : Int), .int .i64 (S.subs : Int), .int .u64 (S.clock : Int), .slice ao n c] 32).alloc (.cells #[.int .i64 3, .string (str xs), .int .u64 (xn : Int)] 40)).alloc (.cells #[.int .i64 0, .int .u64 0, .int .i64 0, .int .u64 0, .slice none 0 0] 32))
  have HO := hide ((Bl.new (w.alloc (.cells #[.int .i64 (S.tries : Int), .int .u64 (S.win : Int), .int .i64 (S.subs : Int), .int .u64 (S.clock : Int), .slice ao n c] 32)) #[.int .i64 3, .string (str xs), .int .u64 (xn : Int)] 40).alloc (.cells #[.int .i64 0, .int .u64 0, .int .i64 0, .int .u64 0, .slice none 0 0] 32))
  have HZ := hide (Bl.new ((w.alloc (.cells #[.int .i64 (S.tries : Int), .int .u64 (S.win : Int), .int .i64 (S.subs : Int), .int .u64 (S.clock : Int), .slice ao n c] 32)).alloc (.cells #[.int .i64 3, .string (str xs), .int .u64 (xn : Int)] 40)) #[.int .i64 0, .int .u64 0, .int .i64 0, .int .u64 0, .slice none 0 0] 32)
  have hb1 := below_new w (.cells #[.int .i64 (S.tries : Int), .int .u64 (S.win : Int), .int .i64 (S.subs : Int), .int .u64 (S.clock : Int), .slice ao n c] 32)
  have hb2 := hb1.trans ((below_new (w.alloc (.cells #[.int .i64 (S.tries : Int), .int .u64 (S.win : Int), .int .i64 (S.subs : Int), .int .u64 (S.clock : Int), .slice ao n c] 32)) (.cells #[.int .i64 3, .string (str xs), .int .u64 (xn : Int)] 40)).mono hb1.size)
  have HBN := hide (hb2.trans ((below_new ((w.alloc (.cells #[.int .i64 (S.tries : Int), .int .u64 (S.win : Int), .int .i64 (S.subs : Int), .int .u64 (S.clock : Int), .slice ao n c] 32)).alloc (.cells #[.int .i64 3, .string (str xs), .int .u64 (xn : Int)] 40)) (.cells #[.int .i64 0, .int .u64 0, .int .i64 0, .int .u64 0, .slice none 0 0] 32)).mono hb2.size))
  obtain ⟨N, hN⟩ : ∃ N, N = w.heap.size := ⟨_, rfl⟩
  obtain ⟨O, hO⟩ : ∃ O, O = N + 1 := ⟨_, rfl⟩
  obtain ⟨M, hM⟩ : ∃ M, M = O + 1 := ⟨_, rfl⟩
  have e1 : (w.alloc (.cells #[.int .i64 (S.tries : Int), .int .u64 (S.win : Int), .int .i64 (S.subs : Int), .int .u64 (S.clock : Int), .slice ao n c] 32)).heap.size = O := by rw [hO, hN]; simp
  have e2 : ((w.alloc (.cells #[.int .i64 (S.tries : Int), .int .u64 (S.win : Int), .int .i64 (S.subs : Int), .int .u64 (S.clock : Int), .slice ao n c] 32)).alloc (.cells #[.int .i64 3, .string (str xs), .int .u64 (xn : Int)] 40)).heap.size = M := by rw [hM, ← e1]; simp
  rw [e2, e1, ← hN] at HT3
  rw [e1] at HO
  rw [e2] at HZ
  rw [← hN] at HB
  have HTC := hide HT3
  have HV := hide (hV.keep HBN.out)
  have HH0 := hide (held_below HBN.out h.lt)
  have HNE : Hid (N ≠ M ∧ O ≠ M ∧ N ≠ O) := hide (by omega)
  have HMG : Hid (M ∉ G) := hide fun e => by have := HGL.out M e; omega
  have HMW : Hid (w0.heap.size ≤ M) := hide (by have := HW0.out; omega)
  have HGB := hide hg
  have HSZW := hide HBN.out.size
  have HRI := hide hR
  have HNL := hide hn
  have HSZ := hide hsz
  have HXL := hide hxl
  have HXN := hide hxn
  have HOK := hide hS
  clear hR hn hsz hS hxl hxn
  clear h HT1 HT2 HT3 hV hg hb1 hb2 e1 e2
  unfold pf rcl at *
  go_enter Try.func12, Try.ntmps12
  go_upto_region 1 with fail
  rw [← hN]
  rw [← hO]
  rw [← hM]
  clear hN hO hM
  generalize ((w.alloc (.cells #[.int .i64 (S.tries : Int), .int .u64 (S.win : Int), .int .i64 (S.subs : Int), .int .u64 (S.clock : Int), .slice ao n c] 32)).alloc (.cells #[.int .i64 3, .string (str xs), .int .u64 (xn : Int)] 40)).alloc (.cells #[.int .i64 0, .int .u64 0, .int .i64 0, .int .u64 0, .slice none 0 0] 32) = u at *
  have HBC := HB
  have HOC := HO
  have HZC := HZ
  have HVC := HV
  have HHC := HH0
  clear HB HO HZ HV HH0
  have b0 : u.cell? ⟨N, 0, none⟩ = some (.int .i64 (S.tries : Int)) := HBC.out.cell 0; have b1 : u.cell? ⟨N, 1, none⟩ = some (.int .u64 (S.win : Int)) := HBC.out.cell 1; have b2 : u.cell? ⟨N, 2, none⟩ = some (.int .i64 (S.subs : Int)) := HBC.out.cell 2; have b3 : u.cell? ⟨N, 3, none⟩ = some (.int .u64 (S.clock : Int)) := HBC.out.cell 3; have b4 : u.cell? ⟨N, 4, none⟩ = some (.slice ao n c) := HBC.out.cell 4; have o0 : u.cell? ⟨O, 0, none⟩ = some (.int .i64 3) := HOC.out.cell 0; have o1 : u.cell? ⟨O, 1, none⟩ = some (.string (str xs)) := HOC.out.cell 1; have o2 : u.cell? ⟨O, 2, none⟩ = some (.int .u64 (xn : Int)) := HOC.out.cell 2
  have z0 : u.cell? ⟨M, 0, none⟩ = some (.int .i64 0) := HZC.out.cell 0; have z1 : u.cell? ⟨M, 1, none⟩ = some (.int .u64 0) := HZC.out.cell 1; have z2 : u.cell? ⟨M, 2, none⟩ = some (.int .i64 0) := HZC.out.cell 2; have z3 : u.cell? ⟨M, 3, none⟩ = some (.int .u64 0) := HZC.out.cell 3; have z4 : u.cell? ⟨M, 4, none⟩ = some (.slice none 0 0) := HZC.out.cell 4; have zf := fun i => HZC.out.frozen i
  have hNM := HNE.out.1
  have hMN := Ne.symm HNE.out.1
  have hOM := HNE.out.2.1
  have hMO := Ne.symm HNE.out.2.1
  have HNB : Hid (n ≤ 9223372036854775807) := hide (by have := HSZ.out; omega)
  go_wp2_with fail
  go_region_held (fun W => W.cell? ⟨N, 0, none⟩ = some (.int .i64 (S.tries : Int)) ∧ W.cell? ⟨N, 1, none⟩ = some (.int .u64 (S.win : Int)) ∧ W.cell? ⟨N, 2, none⟩ = some (.int .i64 (S.subs : Int)) ∧ W.cell? ⟨N, 3, none⟩ = some (.int .u64 (S.clock : Int)) ∧ W.cell? ⟨N, 4, none⟩ = some (.slice ao n c) ∧ W.cell? ⟨O, 1, none⟩ = some (.string (str xs)) ∧ W.cell? ⟨O, 2, none⟩ = some (.int .u64 (xn : Int))) (go_keep) (first
    | (go_at_call 15; refine (wait_t HTC.out.drew xs xn HXN.out).mono ?_; rintro e w1 ⟨rfl, hw⟩; have hw' := below_undrew hw; have HK := hide (HTC.out.below hw'); have HT' := hide HK.out.1; have HH' := hide (HHC.out.trans (fun b hb => HK.out.2 b (by simp [hb]))); have HB' := hide (HBC.out.keep hw'); have HO' := hide (HOC.out.keep hw'); have HZ' := hide (HZC.out.keep hw'); have HV' := hide (HVC.out.keep hw'); have HS' := hide (Nat.le_trans HSZW.out hw'.size); clear hw hw' HK HTC HHC HBC HOC HZC HVC HSZW b0 b1 b2 b3 b4 o0 o1 o2 z0 z1 z2 z3 z4 zf; have HTC := HT'; have HHC := HH'; have HBC := HB'; have HOC := HO'; have HZC := HZ'; have HVC := HV'; have HSZW := HS'; clear HT' HH' HB' HO' HZ' HV' HS'; have b0 : w1.cell? ⟨N, 0, none⟩ = some (.int .i64 (S.tries : Int)) := HBC.out.cell 0; have b1 : w1.cell? ⟨N, 1, none⟩ = some (.int .u64 (S.win : Int)) := HBC.out.cell 1; have b2 : w1.cell? ⟨N, 2, none⟩ = some (.int .i64 (S.subs : Int)) := HBC.out.cell 2; have b3 : w1.cell? ⟨N, 3, none⟩ = some (.int .u64 (S.clock : Int)) := HBC.out.cell 3; have b4 : w1.cell? ⟨N, 4, none⟩ = some (.slice ao n c) := HBC.out.cell 4; have o0 : w1.cell? ⟨O, 0, none⟩ = some (.int .i64 3) := HOC.out.cell 0; have o1 : w1.cell? ⟨O, 1, none⟩ = some (.string (str xs)) := HOC.out.cell 1; have o2 : w1.cell? ⟨O, 2, none⟩ = some (.int .u64 (xn : Int)) := HOC.out.cell 2; have z0 : w1.cell? ⟨M, 0, none⟩ = some (.int .i64 0) := HZC.out.cell 0; have z1 : w1.cell? ⟨M, 1, none⟩ = some (.int .u64 0) := HZC.out.cell 1; have z2 : w1.cell? ⟨M, 2, none⟩ = some (.int .i64 0) := HZC.out.cell 2; have z3 : w1.cell? ⟨M, 3, none⟩ = some (.int .u64 0) := HZC.out.cell 3; have z4 : w1.cell? ⟨M, 4, none⟩ = some (.slice none 0 0) := HZC.out.cell 4; have zf := fun i => HZC.out.frozen i)
    | (go_at_call 23; refine (rwait_any S HOK.out ao n c xn xs L _ HNL.out HVC.out HRI.out HXN.out HNB.out).mono ?_; rintro e w2 ⟨rfl, hw⟩; have hw' := hw; have HK := hide (HTC.out.below hw'); have HT' := hide HK.out.1; have HH' := hide (HHC.out.trans (fun b hb => HK.out.2 b (by simp [hb]))); have HB' := hide (HBC.out.keep hw'); have HO' := hide (HOC.out.keep hw'); have HZ' := hide (HZC.out.keep hw'); have HV' := hide (HVC.out.keep hw'); have HS' := hide (Nat.le_trans HSZW.out hw'.size); clear hw hw' HK HTC HHC HBC HOC HZC HVC HSZW b0 b1 b2 b3 b4 o0 o1 o2 z0 z1 z2 z3 z4 zf; have HTC := HT'; have HHC := HH'; have HBC := HB'; have HOC := HO'; have HZC := HZ'; have HVC := HV'; have HSZW := HS'; clear HT' HH' HB' HO' HZ' HV' HS'; have b0 : w2.cell? ⟨N, 0, none⟩ = some (.int .i64 (S.tries : Int)) := HBC.out.cell 0; have b1 : w2.cell? ⟨N, 1, none⟩ = some (.int .u64 (S.win : Int)) := HBC.out.cell 1; have b2 : w2.cell? ⟨N, 2, none⟩ = some (.int .i64 (S.subs : Int)) := HBC.out.cell 2; have b3 : w2.cell? ⟨N, 3, none⟩ = some (.int .u64 (S.clock : Int)) := HBC.out.cell 3; have b4 : w2.cell? ⟨N, 4, none⟩ = some (.slice ao n c) := HBC.out.cell 4; have o0 : w2.cell? ⟨O, 0, none⟩ = some (.int .i64 3) := HOC.out.cell 0; have o1 : w2.cell? ⟨O, 1, none⟩ = some (.string (str xs)) := HOC.out.cell 1; have o2 : w2.cell? ⟨O, 2, none⟩ = some (.int .u64 (xn : Int)) := HOC.out.cell 2; have z0 : w2.cell? ⟨M, 0, none⟩ = some (.int .i64 0) := HZC.out.cell 0; have z1 : w2.cell? ⟨M, 1, none⟩ = some (.int .u64 0) := HZC.out.cell 1; have z2 : w2.cell? ⟨M, 2, none⟩ = some (.int .i64 0) := HZC.out.cell 2; have z3 : w2.cell? ⟨M, 3, none⟩ = some (.int .u64 0) := HZC.out.cell 3; have z4 : w2.cell? ⟨M, 4, none⟩ = some (.slice none 0 0) := HZC.out.cell 4; have zf := fun i => HZC.out.frozen i))
  go_wp2
  refine bodyPost_ret (results_cell_two rfl _ _ M 32 _ (0, 0) _ rfl (set5 HZC.out _ _ _ _ _) Try.underlying32 (by kernel_rfl)) rfl ?_
  exact played_mk (pp_end HTC.out (by simp) (fun b hb => by simp [hb]) (fun a ha => by simp [HGB.out a ha]) HMW.out HMG.out HHC.out HSZW.out HRI.out HNL.out HVC.out (fun a ha e => HMG.out (e ▸ HGB.out a ha)) (Nat.le_succ _) (fun a _ => .inl rfl) _ _ _ _ _)
end Go.Proofs.Ytbhlciaigadlkaa
