/- The law's played: Try. -/
import Derived.Test.YtbhlciaigadlkaaQPlayE
namespace Go.Proofs.Ytbhlciaigadlkaa
open Go.RowKit Go.Maps Go.Shelf

theorem PP.drew {G : List Nat} {w0 w w' : World} {lp kp : Nat} {S' T : LS} {ao ao' : Option Addr} {L L' : Tab} {n' : Nat} (h : PP G w0 w w' lp kp S' T ao L ao' n' L') : PP G w0 w w'.drew lp kp S' T ao L ao' n' L' := ⟨let ⟨b, h1, h2⟩ := h.two; ⟨b, h1.drew, h2⟩, h.held, h.size, h.ri, h.len, h.see, h.more, h.blk⟩
theorem try_s {G : List Nat} {w0 w : World} {lp kp : Nat} {S T : LS} (h : Two G w0 w lp kp S T) (nm : Nm) (now : Nat) (hn : now < 18446744073709551616) :
    Calls Try.prog 14 #[pf lp, .string (str nm), .int .u64 (now : Int)] w fun e w' => e = .returned (two (S.try nm now).2) ∧ Hid (Two G w0 w' lp kp (S.try nm now).1 T ∧ Held G w w' ∧ w.heap.size ≤ w'.heap.size) := by
  obtain ⟨Y, Z, h1, h2, h3, h4⟩ := h.rep
  refine (try_any lp now nm S Y w h1 hn).mono ?_
  rintro e w' ⟨rfl, Y', k1, k2⟩
  exact ⟨rfl, hide ⟨(h.step h2 h3 h4 k1 k2).1, (h.step h2 h3 h4 k1 k2).2, k2.fr.size⟩⟩
set_option maxHeartbeats 2000000 in
set_option maxRecDepth 100000 in
theorem played_try (G : List Nat) (w0 : World) (lp kp : Nat) (S T : LS) (ao : Option Addr) (n c : Nat) (L : Tab) (xs : Nm) (xn : Nat) (w : World) (h : Two G w0 w lp kp S T) (hV : VSee w ao L) (hg : ∀ a, ao = some a → a.block ∈ G) (hn : n = L.length) (hR : RI S L) (hsz : (n + 1) * 32 ≤ 140737488355328) (hxl : xs.length ≤ maxLen) (hxn : xn < 18446744073709551616)  :
    Calls Try.prog 12 #[pf lp, .agg (rcl S (.slice ao n c)).toArray, .agg #[.int .i64 1, .string (str xs), .int .u64 (xn : Int)]] w fun e w' => PlayedPost G w0 w lp kp ((S.try xs xn).1) T ao L e w' := by
  have hS := h.oks.1
  have HGL := hide h.lt
  have HW0 := hide h.bel.size
  have HT1 := h.more (.cells #[.int .i64 (S.tries : Int), .int .u64 (S.win : Int), .int .i64 (S.subs : Int), .int .u64 (S.clock : Int), .slice ao n c] 32) rfl
  have HT2 := HT1.more (.cells #[.int .i64 1, .string (str xs), .int .u64 (xn : Int)] 40) rfl
  have HT3 := HT2.more (.cells #[.int .i64 0, .int .u64 0, .int .i64 0, .int .u64 0, .slice none 0 0] 32) rfl
  have HB := hide (((Bl.new w #[.int .i64 (S.tries : Int), .int .u64 (S.win : Int), .int .i64 (S.subs : Int), .int .u64 (S.clock : Int), .slice ao n c] 32).alloc (.cells #[.int .i64 1, .string (str xs), .int .u64 (xn : Int)] 40)).alloc (.cells #[.int .i64 0, .int .u64 0, .int .i64 0, .int .u64 0, .slice none 0 0] 32))
  have HO := hide ((Bl.new (w.alloc (.cells #[.int .i64 (S.tries : Int), .int .u64 (S.win : Int), .int .i64 (S.subs : Int), .int .u64 (S.clock : Int), .slice ao n c] 32)) #[.int .i64 1, .string (str xs), .int .u64 (xn : Int)] 40).alloc (.cells #[.int .i64 0, .int .u64 0, .int .i64 0, .int .u64 0, .slice none 0 0] 32))
  have HZ := hide (Bl.new ((w.alloc (.cells #[.int .i64 (S.tries : Int), .int .u64 (S.win : Int), .int .i64 (S.subs : Int), .int .u64 (S.clock : Int), .slice ao n c] 32)).alloc (.cells #[.int .i64 1, .string (str xs), .int .u64 (xn : Int)] 40)) #[.int .i64 0, .int .u64 0, .int .i64 0, .int .u64 0, .slice none 0 0] 32)
  have hb1 := below_new w (.cells #[.int .i64 (S.tries : Int), .int .u64 (S.win : Int), .int .i64 (S.subs : Int), .int .u64 (S.clock : Int), .slice ao n c] 32)
  have hb2 := hb1.trans ((below_new (w.alloc (.cells #[.int .i64 (S.tries : Int), .int .u64 (S.win : Int), .int .i64 (S.subs : Int), .int .u64 (S.clock : Int), .slice ao n c] 32)) (.cells #[.int .i64 1, .string (str xs), .int .u64 (xn : Int)] 40)).mono hb1.size)
  have HBN := hide (hb2.trans ((below_new ((w.alloc (.cells #[.int .i64 (S.tries : Int), .int .u64 (S.win : Int), .int .i64 (S.subs : Int), .int .u64 (S.clock : Int), .slice ao n c] 32)).alloc (.cells #[.int .i64 1, .string (str xs), .int .u64 (xn : Int)] 40)) (.cells #[.int .i64 0, .int .u64 0, .int .i64 0, .int .u64 0, .slice none 0 0] 32)).mono hb2.size))
  obtain ⟨N, hN⟩ : ∃ N, N = w.heap.size := ⟨_, rfl⟩
  obtain ⟨O, hO⟩ : ∃ O, O = N + 1 := ⟨_, rfl⟩
  obtain ⟨M, hM⟩ : ∃ M, M = O + 1 := ⟨_, rfl⟩
  have e1 : (w.alloc (.cells #[.int .i64 (S.tries : Int), .int .u64 (S.win : Int), .int .i64 (S.subs : Int), .int .u64 (S.clock : Int), .slice ao n c] 32)).heap.size = O := by rw [hO, hN]; simp
  have e2 : ((w.alloc (.cells #[.int .i64 (S.tries : Int), .int .u64 (S.win : Int), .int .i64 (S.subs : Int), .int .u64 (S.clock : Int), .slice ao n c] 32)).alloc (.cells #[.int .i64 1, .string (str xs), .int .u64 (xn : Int)] 40)).heap.size = M := by rw [hM, ← e1]; simp
  rw [e2, e1, ← hN] at HT3
  rw [e1] at HO
  rw [e2] at HZ
  rw [← hN] at HB
  have HTC := hide HT3
  have HV := hide (hV.keep HBN.out)
  have HH0 := hide (held_below HBN.out h.lt)
  have HNE : Hid (N ≠ M ∧ O ≠ M ∧ N ≠ O) := hide (by omega)
  have HMG : Hid (M ∉ G) := hide fun e => by have := HGL.out M e; omega
  have HMW : Hid (w0.heap.size ≤ M) := hide (by have := HW0.out; omega)
  have HGB := hide hg
  have HSZW := hide HBN.out.size
  have HRI := hide hR
  have HNL := hide hn
  have HSZ := hide hsz
  have HXL := hide hxl
  have HXN := hide hxn
  have HOK := hide hS
  clear hR hn hsz hS hxl hxn
  clear h HT1 HT2 HT3 hV hg hb1 hb2 e1 e2
  unfold pf rcl at *
  go_enter Try.func12, Try.ntmps12
  go_upto_region 1 with fail
  rw [← hN]
  rw [← hO]
  rw [← hM]
  clear hN hO hM
  generalize ((w.alloc (.cells #[.int .i64 (S.tries : Int), .int .u64 (S.win : Int), .int .i64 (S.subs : Int), .int .u64 (S.clock : Int), .slice ao n c] 32)).alloc (.cells #[.int .i64 1, .string (str xs), .int .u64 (xn : Int)] 40)).alloc (.cells #[.int .i64 0, .int .u64 0, .int .i64 0, .int .u64 0, .slice none 0 0] 32) = u at *
  have HBC := HB
  have HOC := HO
  have HZC := HZ
  have HVC := HV
  have HHC := HH0
  clear HB HO HZ HV HH0
  have b0 : u.cell? ⟨N, 0, none⟩ = some (.int .i64 (S.tries : Int)) := HBC.out.cell 0; have b1 : u.cell? ⟨N, 1, none⟩ = some (.int .u64 (S.win : Int)) := HBC.out.cell 1; have b2 : u.cell? ⟨N, 2, none⟩ = some (.int .i64 (S.subs : Int)) := HBC.out.cell 2; have b3 : u.cell? ⟨N, 3, none⟩ = some (.int .u64 (S.clock : Int)) := HBC.out.cell 3; have b4 : u.cell? ⟨N, 4, none⟩ = some (.slice ao n c) := HBC.out.cell 4; have o0 : u.cell? ⟨O, 0, none⟩ = some (.int .i64 1) := HOC.out.cell 0; have o1 : u.cell? ⟨O, 1, none⟩ = some (.string (str xs)) := HOC.out.cell 1; have o2 : u.cell? ⟨O, 2, none⟩ = some (.int .u64 (xn : Int)) := HOC.out.cell 2
  have z0 : u.cell? ⟨M, 0, none⟩ = some (.int .i64 0) := HZC.out.cell 0; have z1 : u.cell? ⟨M, 1, none⟩ = some (.int .u64 0) := HZC.out.cell 1; have z2 : u.cell? ⟨M, 2, none⟩ = some (.int .i64 0) := HZC.out.cell 2; have z3 : u.cell? ⟨M, 3, none⟩ = some (.int .u64 0) := HZC.out.cell 3; have z4 : u.cell? ⟨M, 4, none⟩ = some (.slice none 0 0) := HZC.out.cell 4; have zf := fun i => HZC.out.frozen i
  go_wp2_with fail
  refine (try_s HTC.out xs xn HXN.out).mono ?_
  rintro e w1 ⟨rfl, HK⟩
  have HT' := hide HK.out.1
  have HH' := hide (HHC.out.trans (fun b hb => HK.out.2.1 b (by simp [hb])))
  have HB' := hide (HK.out.2.1.bl (by simp) HBC.out)
  have HO' := hide (HK.out.2.1.bl (by simp) HOC.out)
  have HZ' := hide (HK.out.2.1.bl (by simp) HZC.out)
  have HV' := hide (HVC.out.held (G := M :: O :: N :: G) (fun a ha => by simp [HGB.out a ha]) HK.out.2.1)
  have HS' := hide (Nat.le_trans HSZW.out HK.out.2.2)
  clear HK
  clear HTC HHC HBC HOC HZC HVC HSZW b0 b1 b2 b3 b4 o0 o1 o2 z0 z1 z2 z3 z4 zf
  have HTC := HT'
  have HHC := HH'
  have HBC := HB'
  have HOC := HO'
  have HZC := HZ'
  have HVC := HV'
  have HSZW := HS'
  clear HT' HH' HB' HO' HZ' HV' HS'
  have b0 : w1.cell? ⟨N, 0, none⟩ = some (.int .i64 (S.tries : Int)) := HBC.out.cell 0; have b1 : w1.cell? ⟨N, 1, none⟩ = some (.int .u64 (S.win : Int)) := HBC.out.cell 1; have b2 : w1.cell? ⟨N, 2, none⟩ = some (.int .i64 (S.subs : Int)) := HBC.out.cell 2; have b3 : w1.cell? ⟨N, 3, none⟩ = some (.int .u64 (S.clock : Int)) := HBC.out.cell 3; have b4 : w1.cell? ⟨N, 4, none⟩ = some (.slice ao n c) := HBC.out.cell 4; have o0 : w1.cell? ⟨O, 0, none⟩ = some (.int .i64 1) := HOC.out.cell 0; have o1 : w1.cell? ⟨O, 1, none⟩ = some (.string (str xs)) := HOC.out.cell 1; have o2 : w1.cell? ⟨O, 2, none⟩ = some (.int .u64 (xn : Int)) := HOC.out.cell 2
  have z0 : w1.cell? ⟨M, 0, none⟩ = some (.int .i64 0) := HZC.out.cell 0; have z1 : w1.cell? ⟨M, 1, none⟩ = some (.int .u64 0) := HZC.out.cell 1; have z2 : w1.cell? ⟨M, 2, none⟩ = some (.int .i64 0) := HZC.out.cell 2; have z3 : w1.cell? ⟨M, 3, none⟩ = some (.int .u64 0) := HZC.out.cell 3; have z4 : w1.cell? ⟨M, 4, none⟩ = some (.slice none 0 0) := HZC.out.cell 4; have zf := fun i => HZC.out.frozen i
  unfold two
  go_wp2_with fail
  refine (rtry_any S HOK.out ao n c xn xs L w1 HNL.out HVC.out HRI.out HXN.out HSZ.out).mono ?_
  rintro e w2 ⟨ao', n', c', rfl, L', hr⟩
  have HT0 := HTC
  have HSU := HSZW
  have HU := hide (HTC.out.lt)
  have HK := hide (HTC.out.below hr.bel)
  have HT' := hide HK.out.1
  have HH' := hide (HHC.out.trans (fun b hb => HK.out.2 b (by simp [hb])))
  have HB' := hide (HK.out.2.bl (by simp) HBC.out)
  have HO' := hide (HK.out.2.bl (by simp) HOC.out)
  have HZ' := hide (HK.out.2.bl (by simp) HZC.out)
  have HV' := hide (HVC.out.held (G := M :: O :: N :: G) (fun a ha => by simp [HGB.out a ha]) HK.out.2)
  have HS' := hide (Nat.le_trans HSZW.out (hr.bel).size)
  have HR := hide hr
  obtain ⟨gb, hgb⟩ := HT0.out.guard HR.out.bel (ao := ao) (fun a ha => by simp [HGB.out a ha]) HR.out.blk
  have HGT := hide hgb
  clear hgb
  clear HK
  clear HTC HHC HBC HOC HZC HVC HSZW b0 b1 b2 b3 b4 o0 o1 o2 z0 z1 z2 z3 z4 zf
  have HTC := HT'
  have HHC := HH'
  have HBC := HB'
  have HOC := HO'
  have HZC := HZ'
  have HVC := HV'
  have HSZW := HS'
  clear HT' HH' HB' HO' HZ' HV' HS'
  have b0 : w2.cell? ⟨N, 0, none⟩ = some (.int .i64 (S.tries : Int)) := HBC.out.cell 0; have b1 : w2.cell? ⟨N, 1, none⟩ = some (.int .u64 (S.win : Int)) := HBC.out.cell 1; have b2 : w2.cell? ⟨N, 2, none⟩ = some (.int .i64 (S.subs : Int)) := HBC.out.cell 2; have b3 : w2.cell? ⟨N, 3, none⟩ = some (.int .u64 (S.clock : Int)) := HBC.out.cell 3; have b4 : w2.cell? ⟨N, 4, none⟩ = some (.slice ao n c) := HBC.out.cell 4; have o0 : w2.cell? ⟨O, 0, none⟩ = some (.int .i64 1) := HOC.out.cell 0; have o1 : w2.cell? ⟨O, 1, none⟩ = some (.string (str xs)) := HOC.out.cell 1; have o2 : w2.cell? ⟨O, 2, none⟩ = some (.int .u64 (xn : Int)) := HOC.out.cell 2
  have z0 : w2.cell? ⟨M, 0, none⟩ = some (.int .i64 0) := HZC.out.cell 0; have z1 : w2.cell? ⟨M, 1, none⟩ = some (.int .u64 0) := HZC.out.cell 1; have z2 : w2.cell? ⟨M, 2, none⟩ = some (.int .i64 0) := HZC.out.cell 2; have z3 : w2.cell? ⟨M, 3, none⟩ = some (.int .u64 0) := HZC.out.cell 3; have z4 : w2.cell? ⟨M, 4, none⟩ = some (.slice none 0 0) := HZC.out.cell 4; have zf := fun i => HZC.out.frozen i
  clear hr HT0
  unfold rcl
  go_wp2_with fail
  obtain ⟨P, hP⟩ : ∃ P, P = w2.heap.size := ⟨_, rfl⟩
  have HPB' := Bl.new w2 #[.int .i64 (((S.try xs xn).1).tries : Int), .int .u64 (((S.try xs xn).1).win : Int), .int .i64 (((S.try xs xn).1).subs : Int), .int .u64 (((S.try xs xn).1).clock : Int), .slice ao' n' c'] 32
  rw [← hP] at HPB' ⊢
  have HPB := hide HPB'
  have HTP := hide (HGT.out.1.more (.cells #[.int .i64 (((S.try xs xn).1).tries : Int), .int .u64 (((S.try xs xn).1).win : Int), .int .i64 (((S.try xs xn).1).subs : Int), .int .u64 (((S.try xs xn).1).clock : Int), .slice ao' n' c'] 32) hP)
  have HB' := hide (HBC.out.alloc (.cells #[.int .i64 (((S.try xs xn).1).tries : Int), .int .u64 (((S.try xs xn).1).win : Int), .int .i64 (((S.try xs xn).1).subs : Int), .int .u64 (((S.try xs xn).1).clock : Int), .slice ao' n' c'] 32))
  have HO' := hide (HOC.out.alloc (.cells #[.int .i64 (((S.try xs xn).1).tries : Int), .int .u64 (((S.try xs xn).1).win : Int), .int .i64 (((S.try xs xn).1).subs : Int), .int .u64 (((S.try xs xn).1).clock : Int), .slice ao' n' c'] 32))
  have HZ' := hide (HZC.out.alloc (.cells #[.int .i64 (((S.try xs xn).1).tries : Int), .int .u64 (((S.try xs xn).1).win : Int), .int .i64 (((S.try xs xn).1).subs : Int), .int .u64 (((S.try xs xn).1).clock : Int), .slice ao' n' c'] 32))
  have HBL := below_new w2 (.cells #[.int .i64 (((S.try xs xn).1).tries : Int), .int .u64 (((S.try xs xn).1).win : Int), .int .i64 (((S.try xs xn).1).subs : Int), .int .u64 (((S.try xs xn).1).clock : Int), .slice ao' n' c'] 32)
  have HH' := hide (HHC.out.trans (held_below HBL (fun b hb => HTC.out.lt b (by simp [hb]))))
  have HV' := hide (HR.out.see.keep HBL)
  have HS' := hide (Nat.le_trans HSZW.out HBL.size)
  have HPM : P ≠ M ∧ M ≠ P := by have := HTC.out.lt M (by simp); omega
  have HOM : O ≠ M ∧ M ≠ O := ⟨HNE.out.2.1, Ne.symm HNE.out.2.1⟩
  have hPM := HPM.1
  have hMP := HPM.2
  have hOM := HOM.1
  have hMO := HOM.2
  have HBLK : Hid (∀ a, ao' = some a → ao' = ao ∨ (w.heap.size ≤ a.block ∧ a.block < (w2.alloc (.cells #[.int .i64 (((S.try xs xn).1).tries : Int), .int .u64 (((S.try xs xn).1).win : Int), .int .i64 (((S.try xs xn).1).subs : Int), .int .u64 (((S.try xs xn).1).clock : Int), .slice ao' n' c'] 32)).heap.size)) := hide fun a ha => (HR.out.blk a ha).imp id fun hh => ⟨Nat.le_trans HSU.out hh.1, Nat.lt_of_lt_of_le hh.2 HBL.size⟩
  have HANE : Hid (∀ a, ao' = some a → a.block ≠ M) := hide fun a ha e => by
    rcases HR.out.blk a ha with h | h
    · exact HMG.out (e ▸ HGB.out a (h ▸ ha))
    · have := HU.out M (by simp); omega
  clear HBC HOC HZC HVC HHC HSZW HTC HBL HPB' HPM HOM hP b0 b1 b2 b3 b4 o0 o1 o2 z0 z1 z2 z3 z4 zf
  have HTC := HTP
  have HHC := HH'
  have HBC := HB'
  have HOC := HO'
  have HZC := HZ'
  have HVC := HV'
  have HSZW := HS'
  clear HTP HH' HB' HO' HZ' HV' HS'
  generalize w2.alloc (.cells #[.int .i64 (((S.try xs xn).1).tries : Int), .int .u64 (((S.try xs xn).1).win : Int), .int .i64 (((S.try xs xn).1).subs : Int), .int .u64 (((S.try xs xn).1).clock : Int), .slice ao' n' c'] 32) = v at *
  have p0 : v.cell? ⟨P, 0, none⟩ = some (.int .i64 (((S.try xs xn).1).tries : Int)) := HPB.out.cell 0; have p1 : v.cell? ⟨P, 1, none⟩ = some (.int .u64 (((S.try xs xn).1).win : Int)) := HPB.out.cell 1; have p2 : v.cell? ⟨P, 2, none⟩ = some (.int .i64 (((S.try xs xn).1).subs : Int)) := HPB.out.cell 2; have p3 : v.cell? ⟨P, 3, none⟩ = some (.int .u64 (((S.try xs xn).1).clock : Int)) := HPB.out.cell 3; have p4 : v.cell? ⟨P, 4, none⟩ = some (.slice ao' n' c') := HPB.out.cell 4; have b0 : v.cell? ⟨N, 0, none⟩ = some (.int .i64 (S.tries : Int)) := HBC.out.cell 0; have b1 : v.cell? ⟨N, 1, none⟩ = some (.int .u64 (S.win : Int)) := HBC.out.cell 1; have b2 : v.cell? ⟨N, 2, none⟩ = some (.int .i64 (S.subs : Int)) := HBC.out.cell 2; have b3 : v.cell? ⟨N, 3, none⟩ = some (.int .u64 (S.clock : Int)) := HBC.out.cell 3; have b4 : v.cell? ⟨N, 4, none⟩ = some (.slice ao n c) := HBC.out.cell 4; have o0 : v.cell? ⟨O, 0, none⟩ = some (.int .i64 1) := HOC.out.cell 0; have o1 : v.cell? ⟨O, 1, none⟩ = some (.string (str xs)) := HOC.out.cell 1; have o2 : v.cell? ⟨O, 2, none⟩ = some (.int .u64 (xn : Int)) := HOC.out.cell 2; have z0 : v.cell? ⟨M, 0, none⟩ = some (.int .i64 0) := HZC.out.cell 0; have z1 : v.cell? ⟨M, 1, none⟩ = some (.int .u64 0) := HZC.out.cell 1; have z2 : v.cell? ⟨M, 2, none⟩ = some (.int .i64 0) := HZC.out.cell 2; have z3 : v.cell? ⟨M, 3, none⟩ = some (.int .u64 0) := HZC.out.cell 3; have z4 : v.cell? ⟨M, 4, none⟩ = some (.slice none 0 0) := HZC.out.cell 4; have zf := fun i => HZC.out.frozen i
  go_region_held (fun W => W.cell? ⟨P, 0, none⟩ = some (.int .i64 (((S.try xs xn).1).tries : Int)) ∧ W.cell? ⟨P, 1, none⟩ = some (.int .u64 (((S.try xs xn).1).win : Int)) ∧ W.cell? ⟨P, 2, none⟩ = some (.int .i64 (((S.try xs xn).1).subs : Int)) ∧ W.cell? ⟨P, 3, none⟩ = some (.int .u64 (((S.try xs xn).1).clock : Int)) ∧ W.cell? ⟨P, 4, none⟩ = some (.slice ao' n' c')) (go_keep) (first
    | (go_at_call 11; refine (num_any _ _).mono ?_; rintro e w3 ⟨rfl, rfl⟩))
  go_wp2
  refine bodyPost_ret (results_cell_two rfl _ _ M 32 _ (0, 0) _ rfl (set5 HZC.out _ _ _ _ _) Try.underlying32 (by kernel_rfl)) rfl ?_
  exact played_mk (PP.drew <| pp_end HTC.out (by simp) (fun b hb => by simp [hb]) (fun a ha => List.mem_cons_of_mem _ (HGT.out.2.1 a ha)) HMW.out HMG.out HHC.out HSZW.out HR.out.ri HR.out.len HVC.out HANE.out HR.out.more HBLK.out _ _ _ _ _)
end Go.Proofs.Ytbhlciaigadlkaa
