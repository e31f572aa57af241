/- The law's played, where the call is none. -/
import Derived.Test.YtbhlciaigadlkaaQPlayA
namespace Go.Proofs.Ytbhlciaigadlkaa
open Go.RowKit Go.Maps Go.Shelf

/-- The answer's five cells stored, at the end of played. -/
theorem pp_end {G : List Nat} {w0 w u : World} {lp kp M : Nat} {H : List Nat} {S' T : LS} {ao ao' : Option Addr} {L L' : Tab} {n' : Nat} (ht : Two H w0 u lp kp S' T) (hM : M ∈ H) (hH : ∀ b ∈ G, b ∈ H) (hA : ∀ a, ao' = some a → a.block ∈ H) (hw : w0.heap.size ≤ M) (hMG : M ∉ G) (hh : Held G w u) (hsz : w.heap.size ≤ u.heap.size) (hri : RI S' L') (hlen : n' = L'.length) (hsee : VSee u ao' L') (hne : ∀ a, ao' = some a → a.block ≠ M) (hmore : L'.length ≤ L.length + 1) (hblk : ∀ a, ao' = some a → ao' = ao ∨ (w.heap.size ≤ a.block ∧ a.block < u.heap.size)) (a b c d e : Value) :
    PP G w0 w (((((u.setCell ⟨M, 0, none⟩ a).setCell ⟨M, 1, none⟩ b).setCell ⟨M, 2, none⟩ c).setCell ⟨M, 3, none⟩ d).setCell ⟨M, 4, none⟩ e) lp kp S' T ao L ao' n' L' := by
  have hf := set5_fr u M a b c d e
  have hl : ∀ b ∈ G, b < u.heap.size := fun b hb => ht.lt b (hH b hb)
  exact ⟨⟨H, (ht.set5 hM hw _ _ _ _ _).less (fun b hb => (List.mem_append.1 hb).elim id (hH b)), fun x hx => List.mem_append_left _ (hA x hx)⟩, fun b hb => (held_fr hf hl hMG b hb).trans (hh b hb), Nat.le_trans hsz hf.size, hri, hlen, vsee_set (vsee_set (vsee_set (vsee_set (vsee_set hsee hne _ _) hne _ _) hne _ _) hne _ _) hne _ _, hmore, fun x hx => (hblk x hx).imp id fun h => ⟨h.1, Nat.lt_of_lt_of_le h.2 hf.size⟩⟩
set_option maxHeartbeats 2000000 in
set_option maxRecDepth 100000 in
theorem played_else (G : List Nat) (w0 : World) (lp kp : Nat) (S T : LS) (ao : Option Addr) (n c : Nat) (L : Tab) (xk : Int) (xs : Nm) (xn : Nat) (w : World) (h : Two G w0 w lp kp S T) (hV : VSee w ao L) (hg : ∀ a, ao = some a → a.block ∈ G) (hn : n = L.length) (hR : RI S L) (hsz : (n + 1) * 32 ≤ 140737488355328) (hxl : xs.length ≤ maxLen) (hxn : xn < 18446744073709551616) (h1 : xk ≠ 1) (h2 : xk ≠ 2) (h3 : xk ≠ 3) (h4 : xk ≠ 4) (h5 : xk ≠ 5) (h6 : xk ≠ 6) (h7 : xk ≠ 7) :
    Calls Try.prog 12 #[pf lp, .agg (rcl S (.slice ao n c)).toArray, .agg #[.int .i64 xk, .string (str xs), .int .u64 (xn : Int)]] w fun e w' => PlayedPost G w0 w lp kp (S) T ao L e w' := by
  have hS := h.oks.1
  have HGL := hide h.lt
  have HW0 := hide h.bel.size
  have HT1 := h.more (.cells #[.int .i64 (S.tries : Int), .int .u64 (S.win : Int), .int .i64 (S.subs : Int), .int .u64 (S.clock : Int), .slice ao n c] 32) rfl
  have HT2 := HT1.more (.cells #[.int .i64 xk, .string (str xs), .int .u64 (xn : Int)] 40) rfl
  have HT3 := HT2.more (.cells #[.int .i64 0, .int .u64 0, .int .i64 0, .int .u64 0, .slice none 0 0] 32) rfl
  have HB := hide (((Bl.new w #[.int .i64 (S.tries : Int), .int .u64 (S.win : Int), .int .i64 (S.subs : Int), .int .u64 (S.clock : Int), .slice ao n c] 32).alloc (.cells #[.int .i64 xk, .string (str xs), .int .u64 (xn : Int)] 40)).alloc (.cells #[.int .i64 0, .int .u64 0, .int .i64 0, .int .u64 0, .slice none 0 0] 32))
  have HO := hide ((Bl.new (w.alloc (.cells #[.int .i64 (S.tries : Int), .int .u64 (S.win : Int), .int .i64 (S.subs : Int), .int .u64 (S.clock : Int), .slice ao n c] 32)) #[.int .i64 xk, .string (str xs), .int .u64 (xn : Int)] 40).alloc (.cells #[.int .i64 0, .int .u64 0, .int .i64 0, .int .u64 0, .slice none 0 0] 32))
  have HZ := hide (Bl.new ((w.alloc (.cells #[.int .i64 (S.tries : Int), .int .u64 (S.win : Int), .int .i64 (S.subs : Int), .int .u64 (S.clock : Int), .slice ao n c] 32)).alloc (.cells #[.int .i64 xk, .string (str xs), .int .u64 (xn : Int)] 40)) #[.int .i64 0, .int .u64 0, .int .i64 0, .int .u64 0, .slice none 0 0] 32)
  have hb1 := below_new w (.cells #[.int .i64 (S.tries : Int), .int .u64 (S.win : Int), .int .i64 (S.subs : Int), .int .u64 (S.clock : Int), .slice ao n c] 32)
  have hb2 := hb1.trans ((below_new (w.alloc (.cells #[.int .i64 (S.tries : Int), .int .u64 (S.win : Int), .int .i64 (S.subs : Int), .int .u64 (S.clock : Int), .slice ao n c] 32)) (.cells #[.int .i64 xk, .string (str xs), .int .u64 (xn : Int)] 40)).mono hb1.size)
  have HBN := hide (hb2.trans ((below_new ((w.alloc (.cells #[.int .i64 (S.tries : Int), .int .u64 (S.win : Int), .int .i64 (S.subs : Int), .int .u64 (S.clock : Int), .slice ao n c] 32)).alloc (.cells #[.int .i64 xk, .string (str xs), .int .u64 (xn : Int)] 40)) (.cells #[.int .i64 0, .int .u64 0, .int .i64 0, .int .u64 0, .slice none 0 0] 32)).mono hb2.size))
  obtain ⟨N, hN⟩ : ∃ N, N = w.heap.size := ⟨_, rfl⟩
  obtain ⟨O, hO⟩ : ∃ O, O = N + 1 := ⟨_, rfl⟩
  obtain ⟨M, hM⟩ : ∃ M, M = O + 1 := ⟨_, rfl⟩
  have e1 : (w.alloc (.cells #[.int .i64 (S.tries : Int), .int .u64 (S.win : Int), .int .i64 (S.subs : Int), .int .u64 (S.clock : Int), .slice ao n c] 32)).heap.size = O := by rw [hO, hN]; simp
  have e2 : ((w.alloc (.cells #[.int .i64 (S.tries : Int), .int .u64 (S.win : Int), .int .i64 (S.subs : Int), .int .u64 (S.clock : Int), .slice ao n c] 32)).alloc (.cells #[.int .i64 xk, .string (str xs), .int .u64 (xn : Int)] 40)).heap.size = M := by rw [hM, ← e1]; simp
  rw [e2, e1, ← hN] at HT3
  rw [e1] at HO
  rw [e2] at HZ
  rw [← hN] at HB
  have HTC := hide HT3
  have HV := hide (hV.keep HBN.out)
  have HH0 := hide (held_below HBN.out h.lt)
  have HNE : Hid (N ≠ M ∧ O ≠ M ∧ N ≠ O) := hide (by omega)
  have HMG : Hid (M ∉ G) := hide fun e => by have := HGL.out M e; omega
  have HMW : Hid (w0.heap.size ≤ M) := hide (by have := HW0.out; omega)
  have HGB := hide hg
  have HSZW := hide HBN.out.size
  have k1 : (xk == 1) = false := by simpa using h1
  have k2 : (xk == 2) = false := by simpa using h2
  have k3 : (xk == 3) = false := by simpa using h3
  have k4 : (xk == 4) = false := by simpa using h4
  have k5 : (xk == 5) = false := by simpa using h5
  have k6 : (xk == 6) = false := by simpa using h6
  have k7 : (xk == 7) = false := by simpa using h7
  have HRI := hide hR
  have HNL := hide hn
  have _u := And.intro hsz (And.intro hxl hxn)
  clear _u h1 h2 h3 h4 h5 h6 h7 hR hn hsz hS
  clear h HT1 HT2 HT3 hV hg hb1 hb2 e1 e2
  unfold pf rcl at *
  go_enter Try.func12, Try.ntmps12
  go_upto_region 1 with fail
  rw [← hN]
  rw [← hO]
  rw [← hM]
  clear hN hO hM
  generalize ((w.alloc (.cells #[.int .i64 (S.tries : Int), .int .u64 (S.win : Int), .int .i64 (S.subs : Int), .int .u64 (S.clock : Int), .slice ao n c] 32)).alloc (.cells #[.int .i64 xk, .string (str xs), .int .u64 (xn : Int)] 40)).alloc (.cells #[.int .i64 0, .int .u64 0, .int .i64 0, .int .u64 0, .slice none 0 0] 32) = u at *
  have HBC := HB
  have HOC := HO
  have HZC := HZ
  have HVC := HV
  have HHC := HH0
  clear HB HO HZ HV HH0
  have b0 : u.cell? ⟨N, 0, none⟩ = some (.int .i64 (S.tries : Int)) := HBC.out.cell 0; have b1 : u.cell? ⟨N, 1, none⟩ = some (.int .u64 (S.win : Int)) := HBC.out.cell 1; have b2 : u.cell? ⟨N, 2, none⟩ = some (.int .i64 (S.subs : Int)) := HBC.out.cell 2; have b3 : u.cell? ⟨N, 3, none⟩ = some (.int .u64 (S.clock : Int)) := HBC.out.cell 3; have b4 : u.cell? ⟨N, 4, none⟩ = some (.slice ao n c) := HBC.out.cell 4; have o0 : u.cell? ⟨O, 0, none⟩ = some (.int .i64 xk) := HOC.out.cell 0; have o1 : u.cell? ⟨O, 1, none⟩ = some (.string (str xs)) := HOC.out.cell 1; have o2 : u.cell? ⟨O, 2, none⟩ = some (.int .u64 (xn : Int)) := HOC.out.cell 2
  have z0 : u.cell? ⟨M, 0, none⟩ = some (.int .i64 0) := HZC.out.cell 0; have z1 : u.cell? ⟨M, 1, none⟩ = some (.int .u64 0) := HZC.out.cell 1; have z2 : u.cell? ⟨M, 2, none⟩ = some (.int .i64 0) := HZC.out.cell 2; have z3 : u.cell? ⟨M, 3, none⟩ = some (.int .u64 0) := HZC.out.cell 3; have z4 : u.cell? ⟨M, 4, none⟩ = some (.slice none 0 0) := HZC.out.cell 4; have zf := fun i => HZC.out.frozen i
  go_wp2
  exact bodyPost_ret (results_cell_two rfl _ _ M 32 _ (0, 0) _ rfl (set5 HZC.out _ _ _ _ _) Try.underlying32 (by kernel_rfl)) rfl (played_mk (pp_end HTC.out (by simp) (fun b hb => by simp [hb]) (fun a ha => by simp [HGB.out a ha]) HMW.out HMG.out HHC.out HSZW.out HRI.out HNL.out HVC.out (fun a ha e => HMG.out (e ▸ HGB.out a ha)) (Nat.le_succ _) (fun a _ => .inl rfl) _ _ _ _ _))
end Go.Proofs.Ytbhlciaigadlkaa
