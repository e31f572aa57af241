/- The document's Try, walked. -/
import Derived.Test.YtbhlciaigadlkaaQRefC
namespace Go.Proofs.Ytbhlciaigadlkaa
open Go.RowKit Go.Maps

theorem results_cell_three {fn : Func} {p q r : Tmp} {ty : TypeId} (h : fn.results = #[.cell p ty, .tmp q, .tmp r]) (tmps : Array Value) (w : World) (g : Nat) (t : TypeId) (cs : Array Value) (fr : Nat × Nat) (fs : Array Field)
    (hp : tmps.getD p undef = .pointer (some ⟨g, 0, none⟩)) (hg : w.heap[g]? = some (.cells cs t fr))
    (hu : Try.prog.underlying ty = some (.struct fs)) (hi : (Try.prog.info? ty).map (·.size) = some cs.size) :
    (results fn tmps).run Try.prog w = .ok (.tuple #[.agg cs, tmps.getD q undef, tmps.getD r undef]) w := by
  have hp' : tmps[p]?.getD undef = .pointer (some ⟨g, 0, none⟩) := by simpa using hp
  simp [results, h, hp', asAddr, run_loadVar_row w g t ty cs fr _ hg hu rfl hi]
theorem set5 {w : World} {M : Nat} {t : TypeId} {x0 x1 x2 x3 x4 : Value} (h : Bl w M [x0, x1, x2, x3, x4] t) (a b c d e : Value) :
    Bl (((((w.setCell ⟨M, 0, none⟩ a).setCell ⟨M, 1, none⟩ b).setCell ⟨M, 2, none⟩ c).setCell ⟨M, 3, none⟩ d).setCell ⟨M, 4, none⟩ e) M [a, b, c, d, e] t := ((((h.set 0 a).set 1 b).set 2 c).set 3 d).set 4 e
theorem set5_fr (w : World) (M : Nat) (a b c d e : Value) : Fr [M] w (((((w.setCell ⟨M, 0, none⟩ a).setCell ⟨M, 1, none⟩ b).setCell ⟨M, 2, none⟩ c).setCell ⟨M, 3, none⟩ d).setCell ⟨M, 4, none⟩ e) :=
  ((((Fr.setCell [M] w M 0 a (by simp)).trans (Fr.setCell [M] _ M 1 b (by simp)) (fun x hx => .inl hx)).trans (Fr.setCell [M] _ M 2 c (by simp)) (fun x hx => .inl hx)).trans (Fr.setCell [M] _ M 3 d (by simp)) (fun x hx => .inl hx)).trans (Fr.setCell [M] _ M 4 e (by simp)) (fun x hx => .inl hx)
theorem set5_below {w0 w : World} (h : Below w0.heap.size w0 w) {M : Nat} (hM : w0.heap.size ≤ M) (a b c d e : Value) : Below w0.heap.size w0 (((((w.setCell ⟨M, 0, none⟩ a).setCell ⟨M, 1, none⟩ b).setCell ⟨M, 2, none⟩ c).setCell ⟨M, 3, none⟩ d).setCell ⟨M, 4, none⟩ e) :=
  Below.trans h ((set5_fr w M a b c d e).below _ h.size (fun x hx => by rw [List.mem_singleton.1 hx]; exact hM))
theorem below_set {w0 w : World} (h : Below w0.heap.size w0 w) {g : Nat} (hg : w0.heap.size ≤ g) (i : Nat) (v : Value) : Below w0.heap.size w0 (w.setCell ⟨g, i, none⟩ v) :=
  Below.trans h ((Fr.setCell [g] w g i v (by simp)).below _ h.size (fun x hx => by rw [List.mem_singleton.1 hx]; exact hg))
theorem vsee_set {w : World} {ao : Option Addr} {L : Tab} (h : VSee w ao L) {g : Nat} (hg : ∀ a, ao = some a → a.block ≠ g) (i : Nat) (v : Value) : VSee (w.setCell ⟨g, i, none⟩ v) ao L := by
  rcases h with h | ⟨b, off, rfl, hc⟩
  · exact .inl h
  · have hb := hg _ rfl
    have e : ∀ k, (w.setCell ⟨g, i, none⟩ v).cell? ⟨b, k, none⟩ = w.cell? ⟨b, k, none⟩ := fun k => World.cell?_of_block (heap_setCell_other w ⟨g, i, none⟩ b v hb)
    exact .inr ⟨b, off, rfl, fun j x hx => by rw [e, e, e]; exact hc j x hx⟩
theorem VSee.lt {w : World} {ao : Option Addr} {L : Tab} (h : VSee w ao L) (hne : L ≠ []) : ∀ a, ao = some a → a.block < w.heap.size := by
  intro a ha
  rcases h with h | ⟨b, off, rfl, hc⟩
  · exact absurd h hne
  · cases ha
    cases L with
    | nil => exact absurd rfl hne
    | cons x r => exact World.block_lt_of_cell? w _ (hc 0 x rfl).1
theorem vsee_one (w : World) (x : Win) : VSee (w.alloc (.cells #[.string (str x.1), .int .u64 (x.2.1 : Int), .int .i64 (x.2.2 : Int)] 79)) (some ⟨w.heap.size, 0, none⟩) [x] := by
  refine .inr ⟨_, _, rfl, fun i y hy => ?_⟩
  have hi : i = 0 := by
    have := (List.getElem?_eq_some_iff.1 hy).1
    simpa using this
  subst hi
  simp only [List.getElem?_cons_zero, Option.some.injEq] at hy
  subst hy
  have h := Bl.new w #[.string (str x.1), .int .u64 (x.2.1 : Int), .int .i64 (x.2.2 : Int)] 79
  exact ⟨h.cell 0, h.cell 1, h.cell 2⟩
set_option maxHeartbeats 2000000 in
set_option maxRecDepth 100000 in
theorem rtry_any (S : LS) (hS : Ok S) (ao : Option Addr) (n c now : Nat) (nm : Nm) (L : Tab) (w : World) (hn : n = L.length) (hV : VSee w ao L) (hR : RI S L) (hnow : now < 18446744073709551616) (hsz : (n + 1) * 32 ≤ 140737488355328) :
    Calls Try.prog 21 #[.agg (rcl S (.slice ao n c)).toArray, .string (str nm), .int .u64 (now : Int)] w fun e w' => TPost w ao L (S.try nm now) e w' := by
  have HB := hide ((Bl.new w #[.int .i64 (S.tries : Int), .int .u64 (S.win : Int), .int .i64 (S.subs : Int), .int .u64 (S.clock : Int), .slice ao n c] 32).alloc (.cells #[.int .i64 0, .int .u64 0, .int .i64 0, .int .u64 0, .slice none 0 0] 32))
  have HZ := hide (Bl.new (w.alloc (.cells #[.int .i64 (S.tries : Int), .int .u64 (S.win : Int), .int .i64 (S.subs : Int), .int .u64 (S.clock : Int), .slice ao n c] 32)) #[.int .i64 0, .int .u64 0, .int .i64 0, .int .u64 0, .slice none 0 0] 32)
  have HBN := hide ((below_new w (.cells #[.int .i64 (S.tries : Int), .int .u64 (S.win : Int), .int .i64 (S.subs : Int), .int .u64 (S.clock : Int), .slice ao n c] 32)).trans ((below_new (w.alloc (.cells #[.int .i64 (S.tries : Int), .int .u64 (S.win : Int), .int .i64 (S.subs : Int), .int .u64 (S.clock : Int), .slice ao n c] 32)) (.cells #[.int .i64 0, .int .u64 0, .int .i64 0, .int .u64 0, .slice none 0 0] 32)).mono (below_new w (.cells #[.int .i64 (S.tries : Int), .int .u64 (S.win : Int), .int .i64 (S.subs : Int), .int .u64 (S.clock : Int), .slice ao n c] 32)).size))
  have hcl := hS.clock
  have hle : S.clock ≤ max now S.clock := by omega
  rw [try_max S nm now]
  have HWY : Hid (∀ W, VSee W ao L → Calls Try.prog 37 #[.agg (rcl S (.slice ao n c)).toArray, .string (str nm), .int .u64 (now : Int)] W fun e w' => e = .returned (.int .i64 ((S.left nm (max now S.clock)).2 : Int)) ∧ Below W.heap.size W w') := hide fun W hW => rwhy_any S hS ao n c now nm L W hn hW hR hnow (by omega)
  have HAT : Hid (∀ W, Calls Try.prog 38 #[.agg (rcl S (.slice ao n c)).toArray, .int .u64 (now : Int)] W fun e w' => e = .returned (.int .u64 ((max now S.clock : Nat) : Int)) ∧ Below W.heap.size W w') := hide fun W => rat_any S ao n c now W
  have hTb : max now S.clock < 18446744073709551616 := by omega
  generalize max now S.clock = T at *
  have HV := hide hV
  have HSAME : Hid (∀ W, Below w.heap.size w W → ∀ S', RI S' L → RPost w W ao L S' ao n L) := hide fun W hW S' hr => ⟨hn, hV.keep hW, hr, Nat.le_succ _, hW, fun a _ => .inl rfl⟩
  have hsub : ∀ x y : Nat, x ≤ y → y ≤ 1000000 → IntKind.i64.wrap ((y : Int) - (x : Int)) = ((y - x : Nat) : Int) := fun x y h1 h2 => by rw [IntKind.wrap_i64]; omega
  have HSUB := hide hsub
  clear hsub
  by_cases hl : 256 < nm.length
  · have e1 : S.try nm T = (S, (0, 1)) := by unfold LS.try; rw [if_pos hl]
    have e2 : (S.left nm T).2 = 1 := by unfold LS.left; rw [if_pos hl]
    rw [e2] at HWY
    rw [e1]
    have HP := hide (fun W hW => HSAME.out W hW S hR)
    clear hV hR hn hsz hl e1 e2
    unfold rcl at *
    go_enter Try.func21, Try.ntmps21
    go_upto_region 1 with fail
    obtain ⟨N, hN⟩ : ∃ N, N = w.heap.size := ⟨_, rfl⟩
    obtain ⟨M, hM⟩ : ∃ M, M = N + 1 := ⟨_, rfl⟩
    have hsz1 : (w.alloc (.cells #[.int .i64 (S.tries : Int), .int .u64 (S.win : Int), .int .i64 (S.subs : Int), .int .u64 (S.clock : Int), .slice ao n c] 32)).heap.size = M := by rw [hM, hN]; simp
    have HNM : Hid (N ≠ M) := hide (by omega)
    have HNG : Hid (w.heap.size ≤ N ∧ w.heap.size ≤ M) := hide (by omega)
    rw [hsz1] at HZ
    rw [← hN] at HB ⊢
    rw [← hM]
    clear hsz1 hN hM
    have HVC := hide (HV.out.keep HBN.out)
    generalize (w.alloc (.cells #[.int .i64 (S.tries : Int), .int .u64 (S.win : Int), .int .i64 (S.subs : Int), .int .u64 (S.clock : Int), .slice ao n c] 32)).alloc (.cells #[.int .i64 0, .int .u64 0, .int .i64 0, .int .u64 0, .slice none 0 0] 32) = u at *
    have HCUR := HBN
    have HBC := HB
    have HZC := HZ
    clear HB HZ HBN
    have b0 : u.cell? ⟨N, 0, none⟩ = some (.int .i64 (S.tries : Int)) := HBC.out.cell 0; have b1 : u.cell? ⟨N, 1, none⟩ = some (.int .u64 (S.win : Int)) := HBC.out.cell 1; have b2 : u.cell? ⟨N, 2, none⟩ = some (.int .i64 (S.subs : Int)) := HBC.out.cell 2; have b3 : u.cell? ⟨N, 3, none⟩ = some (.int .u64 (S.clock : Int)) := HBC.out.cell 3; have b4 : u.cell? ⟨N, 4, none⟩ = some (.slice ao n c) := HBC.out.cell 4
    go_wp2_with (first
      | (go_at_call 37; refine (HWY.out _ HVC.out).mono ?_; rintro e w1 ⟨rfl, hw1⟩; have HCw1 := hide (HCUR.out.trans (hw1.mono HCUR.out.size)); have HBw1 := hide (HBC.out.keep hw1); have HZw1 := hide (HZC.out.keep hw1); have HVw1 := hide (HVC.out.keep hw1); clear HCUR HBC HVC HZC b0 b1 b2 b3 b4; have HCUR := HCw1; have HBC := HBw1; have HVC := HVw1; have HZC := HZw1; have b0 : w1.cell? ⟨N, 0, none⟩ = some (.int .i64 (S.tries : Int)) := HBC.out.cell 0; have b1 : w1.cell? ⟨N, 1, none⟩ = some (.int .u64 (S.win : Int)) := HBC.out.cell 1; have b2 : w1.cell? ⟨N, 2, none⟩ = some (.int .i64 (S.subs : Int)) := HBC.out.cell 2; have b3 : w1.cell? ⟨N, 3, none⟩ = some (.int .u64 (S.clock : Int)) := HBC.out.cell 3; have b4 : w1.cell? ⟨N, 4, none⟩ = some (.slice ao n c) := HBC.out.cell 4; have z0 : w1.cell? ⟨M, 0, none⟩ = some (.int .i64 0) := HZC.out.cell 0; have z1 : w1.cell? ⟨M, 1, none⟩ = some (.int .u64 0) := HZC.out.cell 1; have z2 : w1.cell? ⟨M, 2, none⟩ = some (.int .i64 0) := HZC.out.cell 2; have z3 : w1.cell? ⟨M, 3, none⟩ = some (.int .u64 0) := HZC.out.cell 3; have z4 : w1.cell? ⟨M, 4, none⟩ = some (.slice none 0 0) := HZC.out.cell 4; have zf := fun i => HZC.out.frozen i; clear hw1 HCw1 HBw1 HVw1 HZw1))
    exact bodyPost_ret (results_cell_three rfl _ _ M 32 _ (0, 0) _ rfl (set5 HZC.out _ _ _ _ _) Try.underlying32 (by kernel_rfl)) rfl (tpost_mk (HP.out _ (set5_below HCUR.out HNG.out.2 _ _ _ _ _)))
  · have hl2 : nm.length ≤ 256 := by omega
    have hne1 : (S.left nm T).2 ≠ 1 := by
      rw [why_idx hS hR hl2 hle]
      split
      · split
        · intro h; cases h
        · intro h; cases h
      · split
        · intro h; cases h
        · intro h; cases h
    have hgt := goTo_tab hS hle
    have hri := ri_goTo hS hR T
    have hok := hS.goTo hTb
    by_cases h0 : (S.left nm T).2 = 0
    · obtain ⟨k, hk⟩ : ∃ k, S.left nm T = (k + 1, 0) := by
        have h1 := (left_pos hS (nm := nm) (t := T) h0).2.1
        exact ⟨(S.left nm T).1 - 1, Prod.ext (by show _ = _ - 1 + 1; omega) h0⟩
      have e1 := try_counts hS hl2 hle hk
      rw [e1]
      have hwy := why_idx hS hR hl2 hle
      rw [hgt] at hri hok
      have hT1 : tget nm (S.goTo T).tab = match tget nm S.tab with | some v => if max S.clock T - v.1 < S.win then some v else none | none => none := goTo_get hS nm T
      rw [show max S.clock T = T by omega, hgt] at hT1
      have HOP : Hid (∀ W, VSee W ao L → Calls Try.prog 39 #[.agg (rcl { S with clock := T } (.slice ao n c)).toArray, .string (str nm), .int .u64 (T : Int)] W fun e w' => e = .returned (.int .i64 (idxV (idx S.win T nm L))) ∧ Below W.heap.size W w') := hide fun W hW => ropen_any { S with clock := T } ao n c T nm L W hn hW (fun p hp => Nat.le_trans (hR.each p hp).1 hle) (by omega) (by omega)
      have htr := hS.tries2
      rw [h0] at HWY
      rw [hgt]
      cases hi : idx S.win T nm L with
      | some i =>
        rw [hi] at HOP
        obtain ⟨v, hv, hg, hv0, hvo⟩ := idx_some hS hR hle hi
        have hin : i < n := by rw [hn]; exact idx_lt hi
        rw [hi, hk] at hwy
        simp only [hv, Option.getD_some] at hwy
        have hve := (hS.each _ (tget_some hg)).2.2.2.1
        simp only at hve
        have hvt : k + 1 = S.tries - v.2 ∧ v.2 < S.tries := by
          split at hwy
          · rw [Prod.mk.injEq] at hwy; have := hwy.2; omega
          · rename_i hne
            rw [Prod.mk.injEq] at hwy
            exact ⟨hwy.1, by omega⟩
        rw [hg] at hT1
        simp only [if_pos hvo] at hT1
        have hri2 := ri_old hok hri hv hT1 hvt.2
        have hat : ({ S with clock := T, tab := S.tab.filter (opens S.win T) } : LS).attempt nm = { S with clock := T, tab := tset nm (v.1, v.2 + 1) (S.tab.filter (opens S.win T)) } := by unfold LS.attempt; rw [hT1]
        rw [hat] at hri2 ⊢
        have HRI := hide hri2
        have HLX := hide hv
        have HIN := hide hin
        obtain ⟨vb, vc⟩ := v
        simp only at hvt HRI
        have hin' : (i : Int) < (n : Int) := by omega
        have hi0 : (0 : Int) ≤ (i : Int) := by omega
        have hw1 : IntKind.i64.wrap ((vc : Int) + 1) = ((vc + 1 : Nat) : Int) := by rw [IntKind.wrap_i64]; omega
        have hw2 : IntKind.i64.wrap ((S.tries : Int) - ((vc + 1 : Nat) : Int)) = (k : Int) := by rw [IntKind.wrap_i64]; omega
        have HNL := hide hn
        have HSZ := hide hsz
        have HRM : Hid (n = (L.set i (nm, (vb, vc + 1))).length) := hide (by rw [List.length_set]; exact hn)
        clear hV hR hn hsz hl e1 h0 hne1 hri hgt hwy hT1 hi hv hg hv0 hvo hve hri2 hat hok hin hk hvt
        unfold rcl idxV at *
        simp only at *
        generalize hvc1 : vc + 1 = vc1 at *
        clear hvc1
        go_enter Try.func21, Try.ntmps21
        go_upto_region 1 with fail
        obtain ⟨N, hN⟩ : ∃ N, N = w.heap.size := ⟨_, rfl⟩
        obtain ⟨M, hM⟩ : ∃ M, M = N + 1 := ⟨_, rfl⟩
        have hsz1 : (w.alloc (.cells #[.int .i64 (S.tries : Int), .int .u64 (S.win : Int), .int .i64 (S.subs : Int), .int .u64 (S.clock : Int), .slice ao n c] 32)).heap.size = M := by rw [hM, hN]; simp
        have HNM : Hid (N ≠ M) := hide (by omega)
        have HNG : Hid (w.heap.size ≤ N ∧ w.heap.size ≤ M) := hide (by omega)
        rw [hsz1] at HZ
        rw [← hN] at HB ⊢
        rw [← hM]
        clear hsz1 hN hM
        have HVC := hide (HV.out.keep HBN.out)
        generalize (w.alloc (.cells #[.int .i64 (S.tries : Int), .int .u64 (S.win : Int), .int .i64 (S.subs : Int), .int .u64 (S.clock : Int), .slice ao n c] 32)).alloc (.cells #[.int .i64 0, .int .u64 0, .int .i64 0, .int .u64 0, .slice none 0 0] 32) = u at *
        have HCUR := HBN
        have HBC := HB
        have HZC := HZ
        clear HB HZ HBN
        have b0 : u.cell? ⟨N, 0, none⟩ = some (.int .i64 (S.tries : Int)) := HBC.out.cell 0; have b1 : u.cell? ⟨N, 1, none⟩ = some (.int .u64 (S.win : Int)) := HBC.out.cell 1; have b2 : u.cell? ⟨N, 2, none⟩ = some (.int .i64 (S.subs : Int)) := HBC.out.cell 2; have b3 : u.cell? ⟨N, 3, none⟩ = some (.int .u64 (S.clock : Int)) := HBC.out.cell 3; have b4 : u.cell? ⟨N, 4, none⟩ = some (.slice ao n c) := HBC.out.cell 4
        go_upto_region 6 with (first
          | (go_at_call 37; refine (HWY.out _ HVC.out).mono ?_; rintro e w1 ⟨rfl, hw1⟩; have HCw1 := hide (HCUR.out.trans (hw1.mono HCUR.out.size)); have HBw1 := hide (HBC.out.keep hw1); have HZw1 := hide (HZC.out.keep hw1); have HVw1 := hide (HVC.out.keep hw1); clear HCUR HBC HVC HZC b0 b1 b2 b3 b4; have HCUR := HCw1; have HBC := HBw1; have HVC := HVw1; have HZC := HZw1; have b0 : w1.cell? ⟨N, 0, none⟩ = some (.int .i64 (S.tries : Int)) := HBC.out.cell 0; have b1 : w1.cell? ⟨N, 1, none⟩ = some (.int .u64 (S.win : Int)) := HBC.out.cell 1; have b2 : w1.cell? ⟨N, 2, none⟩ = some (.int .i64 (S.subs : Int)) := HBC.out.cell 2; have b3 : w1.cell? ⟨N, 3, none⟩ = some (.int .u64 (S.clock : Int)) := HBC.out.cell 3; have b4 : w1.cell? ⟨N, 4, none⟩ = some (.slice ao n c) := HBC.out.cell 4; clear hw1 HCw1 HBw1 HVw1 HZw1)
          | (go_at_call 38; refine (HAT.out _).mono ?_; rintro e w2 ⟨rfl, hw2⟩; have HCw2 := hide (HCUR.out.trans (hw2.mono HCUR.out.size)); have HBw2 := hide (HBC.out.keep hw2); have HZw2 := hide (HZC.out.keep hw2); have HVw2 := hide (HVC.out.keep hw2); clear HCUR HBC HVC HZC b0 b1 b2 b3 b4; have HCUR := HCw2; have HBC := HBw2; have HVC := HVw2; have HZC := HZw2; have b0 : w2.cell? ⟨N, 0, none⟩ = some (.int .i64 (S.tries : Int)) := HBC.out.cell 0; have b1 : w2.cell? ⟨N, 1, none⟩ = some (.int .u64 (S.win : Int)) := HBC.out.cell 1; have b2 : w2.cell? ⟨N, 2, none⟩ = some (.int .i64 (S.subs : Int)) := HBC.out.cell 2; have b3 : w2.cell? ⟨N, 3, none⟩ = some (.int .u64 (S.clock : Int)) := HBC.out.cell 3; have b4 : w2.cell? ⟨N, 4, none⟩ = some (.slice ao n c) := HBC.out.cell 4; have bf := fun i => HBC.out.frozen i; clear hw2 HCw2 HBw2 HVw2 HZw2))
        have HB3 := hide (HBC.out.set 3 (.int .u64 (T : Int)))
        have HZ3 := hide (HZC.out.other (Ne.symm HNM.out) 3 (.int .u64 (T : Int)))
        have HC3 := hide (below_set HCUR.out HNG.out.1 3 (.int .u64 (T : Int)))
        have HV3 := hide (HV.out.keep HC3.out)
        clear HBC HZC HCUR HVC b0 b1 b2 b3 b4 bf
        generalize w2.setCell ⟨N, 3, none⟩ (.int .u64 (T : Int)) = w3 at *
        have HBC := HB3
        have HZC := HZ3
        have HCUR := HC3
        have HVC := HV3
        clear HB3 HZ3 HC3 HV3
        have b0 : w3.cell? ⟨N, 0, none⟩ = some (.int .i64 (S.tries : Int)) := HBC.out.cell 0; have b1 : w3.cell? ⟨N, 1, none⟩ = some (.int .u64 (S.win : Int)) := HBC.out.cell 1; have b2 : w3.cell? ⟨N, 2, none⟩ = some (.int .i64 (S.subs : Int)) := HBC.out.cell 2; have b3 : w3.cell? ⟨N, 3, none⟩ = some (.int .u64 (T : Int)) := HBC.out.cell 3; have b4 : w3.cell? ⟨N, 4, none⟩ = some (.slice ao n c) := HBC.out.cell 4
        have HLT3 := hide (And.intro HBC.out.lt HZC.out.lt)
        have HW3 := hide HCUR.out.size
        have HO := hide (wown_new w3 w3.heap.size (Nat.le_refl _))
        have HVE := hide (HVC.out.keep (below_new w3 (.cells #[] 79)))
        have be4 : (w3.alloc (.cells #[] 79)).cell? ⟨N, 4, none⟩ = some (.slice ao n c) := (HBC.out.alloc _).cell 4
        go_upto_region 9 with (first
          | (at_builtin; refine wpList_append_wins rfl _ _ rfl w3.heap.size _ [] L rfl HO.out ao n c HNL.out rfl HVE.out (by have := HSZ.out; have := HNL.out; simp only [List.length_nil]; omega) (by simp) ?_; intro v5 w5 h5 g5; have hw5 : Below w3.heap.size w3 w5 := (below_new w3 _).grown g5 (by simp) (fun j hj => (World.ownsRow.lt HO.out j hj).1); have HOWN := hide (show WOwn w5 w3.heap.size v5 L from h5); clear h5 g5; have HC5 := hide (HCUR.out.trans (hw5.mono HCUR.out.size)); have HB5 := hide (HBC.out.keep hw5); have HZ5 := hide (HZC.out.keep hw5); have HV5 := hide (HVC.out.keep hw5); clear HCUR HBC HVC HZC b0 b1 b2 b3 b4; have HCUR := HC5; have HBC := HB5; have HVC := HV5; have HZC := HZ5; have b0 : w5.cell? ⟨N, 0, none⟩ = some (.int .i64 (S.tries : Int)) := HBC.out.cell 0; have b1 : w5.cell? ⟨N, 1, none⟩ = some (.int .u64 (S.win : Int)) := HBC.out.cell 1; have b2 : w5.cell? ⟨N, 2, none⟩ = some (.int .i64 (S.subs : Int)) := HBC.out.cell 2; have b3 : w5.cell? ⟨N, 3, none⟩ = some (.int .u64 (T : Int)) := HBC.out.cell 3; have b4 : w5.cell? ⟨N, 4, none⟩ = some (.slice ao n c) := HBC.out.cell 4; clear hw5 HC5 HB5 HZ5 HV5 be4))
        obtain ⟨ao5, c5, rfl, see5, lt5, fm5⟩ := HOWN.out.form
        have hL0 : L ≠ [] := fun e => by have := HLX.out; rw [e] at this; simp at this
        obtain ⟨g5, rfl⟩ : ∃ g5, ao5 = some ⟨g5, 0, none⟩ := by
          cases ao5 with
          | none => rcases see5 with h | ⟨b, off, h, _⟩; exact absurd h hL0; cases h
          | some a => obtain ⟨g, rfl⟩ := fm5 a rfl; exact ⟨g, rfl⟩
        rw [← HNL.out] at HOWN ⊢
        have HG5 := hide (lt5 _ rfl)
        have HNE : Hid (N ≠ g5 ∧ M ≠ g5) := hide (by have h1 := HG5.out.1; have h2 := HLT3.out; simp only at h1; omega)
        have HGW : Hid (w.heap.size ≤ g5) := hide (Nat.le_trans HW3.out HG5.out.1)
        have HLY : Hid ((L.set i (nm, (vb, vc1)))[i]? = some (nm, (vb, vc1))) := hide (by rw [List.getElem?_set_self (by rw [← HNL.out]; exact HIN.out)])
        clear see5 lt5 fm5 hL0
        go_upto_region 13 with (first
          | (go_at_call 39; refine (HOP.out _ HVC.out).mono ?_; rintro e w6 ⟨rfl, hw6⟩; have HCw6 := hide (HCUR.out.trans (hw6.mono HCUR.out.size)); have HBw6 := hide (HBC.out.keep hw6); have HZw6 := hide (HZC.out.keep hw6); have HVw6 := hide (HVC.out.keep hw6); have HOw6 := hide (HOWN.out.keep hw6); clear HCUR HBC HVC HZC HOWN b0 b1 b2 b3 b4; have HCUR := HCw6; have HBC := HBw6; have HVC := HVw6; have HZC := HZw6; have HOWN := HOw6; have b0 : w6.cell? ⟨N, 0, none⟩ = some (.int .i64 (S.tries : Int)) := HBC.out.cell 0; have b1 : w6.cell? ⟨N, 1, none⟩ = some (.int .u64 (S.win : Int)) := HBC.out.cell 1; have b2 : w6.cell? ⟨N, 2, none⟩ = some (.int .i64 (S.subs : Int)) := HBC.out.cell 2; have b3 : w6.cell? ⟨N, 3, none⟩ = some (.int .u64 (T : Int)) := HBC.out.cell 3; have b4 : w6.cell? ⟨N, 4, none⟩ = some (.slice ao n c) := HBC.out.cell 4; clear hw6 HCw6 HBw6 HVw6 HZw6 HOw6))
        obtain ⟨_, _, hgb, p0, p1, p2⟩ := HOWN.out.see.at HLX.out
        cases hgb
        simp only [Nat.zero_add] at p0 p1 p2
        have pf2 := HOWN.out.frozen (i * 3 + 2)
        have bf := fun i => HBC.out.frozen i
        go_upto_region 14 with fail
        have HO7 := hide (HOWN.out.set HLX.out vc1)
        have HB7 := hide (HBC.out.other HNE.out.1 (i * 3 + 2) (.int .i64 (vc1 : Int)))
        have HZ7 := hide (HZC.out.other HNE.out.2 (i * 3 + 2) (.int .i64 (vc1 : Int)))
        have HC7 := hide (below_set HCUR.out HGW.out (i * 3 + 2) (.int .i64 (vc1 : Int)))
        clear HOWN HBC HZC HCUR HVC b0 b1 b2 b3 b4 bf p0 p1 p2 pf2
        generalize w6.setCell ⟨g5, i * 3 + 2, none⟩ (.int .i64 (vc1 : Int)) = w7 at *
        have bf := fun i => HB7.out.frozen i
        have b4 : w7.cell? ⟨N, 4, none⟩ = some (.slice ao n c) := HB7.out.cell 4
        go_upto_region 15 with fail
        have HO8 := hide (HO7.out.apart (Fr.setCell [N] w7 N 4 (.slice (some ⟨g5, 0, none⟩) n c5) (by simp)) (Ne.symm HNE.out.1))
        have HB8 := hide (HB7.out.set 4 (.slice (some ⟨g5, 0, none⟩) n c5))
        have HZC := hide (HZ7.out.other (Ne.symm HNM.out) 4 (.slice (some ⟨g5, 0, none⟩) n c5))
        have HCUR := hide (below_set HC7.out HNG.out.1 4 (.slice (some ⟨g5, 0, none⟩) n c5))
        clear HO7 HB7 HZ7 HC7 bf b4
        generalize w7.setCell ⟨N, 4, none⟩ (.slice (some ⟨g5, 0, none⟩) n c5) = w8 at *
        have b0 : w8.cell? ⟨N, 0, none⟩ = some (.int .i64 (S.tries : Int)) := HB8.out.cell 0; have b1 : w8.cell? ⟨N, 1, none⟩ = some (.int .u64 (S.win : Int)) := HB8.out.cell 1; have b2 : w8.cell? ⟨N, 2, none⟩ = some (.int .i64 (S.subs : Int)) := HB8.out.cell 2; have b3 : w8.cell? ⟨N, 3, none⟩ = some (.int .u64 (T : Int)) := HB8.out.cell 3; have b4 : w8.cell? ⟨N, 4, none⟩ = some (.slice (some ⟨g5, 0, none⟩) n c5) := HB8.out.cell 4
        have z0 : w8.cell? ⟨M, 0, none⟩ = some (.int .i64 0) := HZC.out.cell 0; have z1 : w8.cell? ⟨M, 1, none⟩ = some (.int .u64 0) := HZC.out.cell 1; have z2 : w8.cell? ⟨M, 2, none⟩ = some (.int .i64 0) := HZC.out.cell 2; have z3 : w8.cell? ⟨M, 3, none⟩ = some (.int .u64 0) := HZC.out.cell 3; have z4 : w8.cell? ⟨M, 4, none⟩ = some (.slice none 0 0) := HZC.out.cell 4; have zf := fun i => HZC.out.frozen i
        have HSE := hide (WOwn.see HO8.out)
        obtain ⟨_, _, hgb, _, _, p2⟩ := HSE.out.at HLY.out
        cases hgb
        simp only [Nat.zero_add] at p2
        have hMN := Ne.symm HNM.out
        have hgM := HNE.out.2
        have hgM2 := Ne.symm HNE.out.2
        go_region_held (fun W => W.cell? ⟨N, 0, none⟩ = some (.int .i64 (S.tries : Int)) ∧ W.cell? ⟨N, 1, none⟩ = some (.int .u64 (S.win : Int)) ∧ W.cell? ⟨N, 2, none⟩ = some (.int .i64 (S.subs : Int)) ∧ W.cell? ⟨N, 3, none⟩ = some (.int .u64 (T : Int)) ∧ W.cell? ⟨N, 4, none⟩ = some (.slice (some ⟨g5, 0, none⟩) n c5) ∧ W.cell? ⟨g5, i * 3 + 2, none⟩ = some (.int .i64 (vc1 : Int))) (go_keep) (fail)
        go_wp2_with fail
        have HO9 := hide (HO8.out.apart (set5_fr w8 M (.int .i64 (S.tries : Int)) (.int .u64 (S.win : Int)) (.int .i64 (S.subs : Int)) (.int .u64 (T : Int)) (.slice (some ⟨g5, 0, none⟩) n c5)) hgM2)
        exact bodyPost_ret (results_cell_three rfl _ _ M 32 _ (0, 0) _ rfl (set5 HZC.out _ _ _ _ _) Try.underlying32 (by kernel_rfl)) rfl (tpost_mk (rpost_own HO9.out.drew HGW.out HRM.out HRI.out (by rw [List.length_set]; exact Nat.le_succ _) (below_drew (set5_below HCUR.out HNG.out.2 _ _ _ _ _))))
      | none =>
        rw [hi] at HOP
        have hid := idx_none hR hle hi
        rw [hi, hk] at hwy
        simp only at hwy
        have hkt : k + 1 = S.tries := by
          split at hwy
          · rw [Prod.mk.injEq] at hwy; have := hwy.2; omega
          · rw [Prod.mk.injEq] at hwy; exact hwy.1
        have hT2 : tget nm (S.tab.filter (opens S.win T)) = none := by
          cases hg : tget nm S.tab with
          | none => rw [hg] at hT1; exact hT1
          | some v => rw [hg] at hT1; simp only [if_neg (hid v hg)] at hT1; exact hT1
        have hri2 := ri_new hok hri hT2
        have hat : ({ S with clock := T, tab := S.tab.filter (opens S.win T) } : LS).attempt nm = { S with clock := T, tab := tins (nm, (T, 1)) (S.tab.filter (opens S.win T)) } := by unfold LS.attempt; rw [hT2]
        rw [hat] at hri2 ⊢
        have HRI := hide hri2
        have hw1 : IntKind.i64.wrap ((0 : Int) + 1) = 1 := by rw [IntKind.wrap_i64]; omega
        have hw2 : IntKind.i64.wrap ((S.tries : Int) - 1) = (k : Int) := by rw [IntKind.wrap_i64]; omega
        obtain ⟨n1, hn1⟩ : ∃ n1, n1 = n + 1 := ⟨_, rfl⟩
        have hw3 : IntKind.i64.wrap ((n1 : Int) - 1) = (n : Int) := by rw [IntKind.wrap_i64]; omega
        have hin' : (n : Int) < (n1 : Int) := by omega
        have hi0 : (0 : Int) ≤ (n : Int) := by omega
        have HNL := hide hn
        have HSZ := hide hsz
        have HN1 : Hid (n1 = (L ++ [(nm, (T, 0))]).length) := hide (by rw [List.length_append, hn1, hn]; rfl)
        have HLX : Hid ((L ++ [(nm, (T, 0))])[n]? = some (nm, (T, 0))) := hide (by rw [hn, List.getElem?_append_right (Nat.le_refl _), Nat.sub_self]; rfl)
        have HST : Hid ((L ++ [(nm, (T, 0))]).set n (nm, (T, 1)) = L ++ [(nm, (T, 1))]) := hide (by rw [hn, List.set_append_right _ _ (Nat.le_refl _), Nat.sub_self]; rfl)
        have HRM : Hid (n1 = (L ++ [(nm, (T, 1))]).length) := hide (by rw [List.length_append, hn1, hn]; rfl)
        clear hV hR hn hsz hl e1 h0 hne1 hri hgt hwy hT1 hi hT2 hid hri2 hat hok hk hkt hn1
        unfold rcl idxV at *
        simp only at *
        go_enter Try.func21, Try.ntmps21
        go_upto_region 1 with fail
        obtain ⟨N, hN⟩ : ∃ N, N = w.heap.size := ⟨_, rfl⟩
        obtain ⟨M, hM⟩ : ∃ M, M = N + 1 := ⟨_, rfl⟩
        have hsz1 : (w.alloc (.cells #[.int .i64 (S.tries : Int), .int .u64 (S.win : Int), .int .i64 (S.subs : Int), .int .u64 (S.clock : Int), .slice ao n c] 32)).heap.size = M := by rw [hM, hN]; simp
        have HNM : Hid (N ≠ M) := hide (by omega)
        have HNG : Hid (w.heap.size ≤ N ∧ w.heap.size ≤ M) := hide (by omega)
        rw [hsz1] at HZ
        rw [← hN] at HB ⊢
        rw [← hM]
        clear hsz1 hN hM
        have HVC := hide (HV.out.keep HBN.out)
        generalize (w.alloc (.cells #[.int .i64 (S.tries : Int), .int .u64 (S.win : Int), .int .i64 (S.subs : Int), .int .u64 (S.clock : Int), .slice ao n c] 32)).alloc (.cells #[.int .i64 0, .int .u64 0, .int .i64 0, .int .u64 0, .slice none 0 0] 32) = u at *
        have HCUR := HBN
        have HBC := HB
        have HZC := HZ
        clear HB HZ HBN
        have b0 : u.cell? ⟨N, 0, none⟩ = some (.int .i64 (S.tries : Int)) := HBC.out.cell 0; have b1 : u.cell? ⟨N, 1, none⟩ = some (.int .u64 (S.win : Int)) := HBC.out.cell 1; have b2 : u.cell? ⟨N, 2, none⟩ = some (.int .i64 (S.subs : Int)) := HBC.out.cell 2; have b3 : u.cell? ⟨N, 3, none⟩ = some (.int .u64 (S.clock : Int)) := HBC.out.cell 3; have b4 : u.cell? ⟨N, 4, none⟩ = some (.slice ao n c) := HBC.out.cell 4
        go_upto_region 6 with (first
          | (go_at_call 37; refine (HWY.out _ HVC.out).mono ?_; rintro e w1 ⟨rfl, hw1⟩; have HCw1 := hide (HCUR.out.trans (hw1.mono HCUR.out.size)); have HBw1 := hide (HBC.out.keep hw1); have HZw1 := hide (HZC.out.keep hw1); have HVw1 := hide (HVC.out.keep hw1); clear HCUR HBC HVC HZC b0 b1 b2 b3 b4; have HCUR := HCw1; have HBC := HBw1; have HVC := HVw1; have HZC := HZw1; have b0 : w1.cell? ⟨N, 0, none⟩ = some (.int .i64 (S.tries : Int)) := HBC.out.cell 0; have b1 : w1.cell? ⟨N, 1, none⟩ = some (.int .u64 (S.win : Int)) := HBC.out.cell 1; have b2 : w1.cell? ⟨N, 2, none⟩ = some (.int .i64 (S.subs : Int)) := HBC.out.cell 2; have b3 : w1.cell? ⟨N, 3, none⟩ = some (.int .u64 (S.clock : Int)) := HBC.out.cell 3; have b4 : w1.cell? ⟨N, 4, none⟩ = some (.slice ao n c) := HBC.out.cell 4; clear hw1 HCw1 HBw1 HVw1 HZw1)
          | (go_at_call 38; refine (HAT.out _).mono ?_; rintro e w2 ⟨rfl, hw2⟩; have HCw2 := hide (HCUR.out.trans (hw2.mono HCUR.out.size)); have HBw2 := hide (HBC.out.keep hw2); have HZw2 := hide (HZC.out.keep hw2); have HVw2 := hide (HVC.out.keep hw2); clear HCUR HBC HVC HZC b0 b1 b2 b3 b4; have HCUR := HCw2; have HBC := HBw2; have HVC := HVw2; have HZC := HZw2; have b0 : w2.cell? ⟨N, 0, none⟩ = some (.int .i64 (S.tries : Int)) := HBC.out.cell 0; have b1 : w2.cell? ⟨N, 1, none⟩ = some (.int .u64 (S.win : Int)) := HBC.out.cell 1; have b2 : w2.cell? ⟨N, 2, none⟩ = some (.int .i64 (S.subs : Int)) := HBC.out.cell 2; have b3 : w2.cell? ⟨N, 3, none⟩ = some (.int .u64 (S.clock : Int)) := HBC.out.cell 3; have b4 : w2.cell? ⟨N, 4, none⟩ = some (.slice ao n c) := HBC.out.cell 4; have bf := fun i => HBC.out.frozen i; clear hw2 HCw2 HBw2 HVw2 HZw2))
        have HB3 := hide (HBC.out.set 3 (.int .u64 (T : Int)))
        have HZ3 := hide (HZC.out.other (Ne.symm HNM.out) 3 (.int .u64 (T : Int)))
        have HC3 := hide (below_set HCUR.out HNG.out.1 3 (.int .u64 (T : Int)))
        have HV3 := hide (HV.out.keep HC3.out)
        clear HBC HZC HCUR HVC b0 b1 b2 b3 b4 bf
        generalize w2.setCell ⟨N, 3, none⟩ (.int .u64 (T : Int)) = w3 at *
        have HBC := HB3
        have HZC := HZ3
        have HCUR := HC3
        have HVC := HV3
        clear HB3 HZ3 HC3 HV3
        have b0 : w3.cell? ⟨N, 0, none⟩ = some (.int .i64 (S.tries : Int)) := HBC.out.cell 0; have b1 : w3.cell? ⟨N, 1, none⟩ = some (.int .u64 (S.win : Int)) := HBC.out.cell 1; have b2 : w3.cell? ⟨N, 2, none⟩ = some (.int .i64 (S.subs : Int)) := HBC.out.cell 2; have b3 : w3.cell? ⟨N, 3, none⟩ = some (.int .u64 (T : Int)) := HBC.out.cell 3; have b4 : w3.cell? ⟨N, 4, none⟩ = some (.slice ao n c) := HBC.out.cell 4
        have HLT3 := hide (And.intro HBC.out.lt HZC.out.lt)
        have HW3 := hide HCUR.out.size
        have HO := hide (wown_new w3 w3.heap.size (Nat.le_refl _))
        have HVE := hide (HVC.out.keep (below_new w3 (.cells #[] 79)))
        have be4 : (w3.alloc (.cells #[] 79)).cell? ⟨N, 4, none⟩ = some (.slice ao n c) := (HBC.out.alloc _).cell 4
        go_upto_region 9 with (first
          | (at_builtin; refine wpList_append_wins rfl _ _ rfl w3.heap.size _ [] L rfl HO.out ao n c HNL.out rfl HVE.out (by have := HSZ.out; have := HNL.out; simp only [List.length_nil]; omega) (by simp) ?_; intro v5 w5 h5 g5; have hw5 : Below w3.heap.size w3 w5 := (below_new w3 _).grown g5 (by simp) (fun j hj => (World.ownsRow.lt HO.out j hj).1); have HOWN := hide (show WOwn w5 w3.heap.size v5 L from h5); clear h5 g5; have HC5 := hide (HCUR.out.trans (hw5.mono HCUR.out.size)); have HB5 := hide (HBC.out.keep hw5); have HZ5 := hide (HZC.out.keep hw5); have HV5 := hide (HVC.out.keep hw5); clear HCUR HBC HVC HZC b0 b1 b2 b3 b4; have HCUR := HC5; have HBC := HB5; have HVC := HV5; have HZC := HZ5; have b0 : w5.cell? ⟨N, 0, none⟩ = some (.int .i64 (S.tries : Int)) := HBC.out.cell 0; have b1 : w5.cell? ⟨N, 1, none⟩ = some (.int .u64 (S.win : Int)) := HBC.out.cell 1; have b2 : w5.cell? ⟨N, 2, none⟩ = some (.int .i64 (S.subs : Int)) := HBC.out.cell 2; have b3 : w5.cell? ⟨N, 3, none⟩ = some (.int .u64 (T : Int)) := HBC.out.cell 3; have b4 : w5.cell? ⟨N, 4, none⟩ = some (.slice ao n c) := HBC.out.cell 4; have HW35 := hide hw5.size; clear hw5 HC5 HB5 HZ5 HV5 be4))
        obtain ⟨ao5, c5, rfl, see5, lt5, fm5⟩ := HOWN.out.form
        rw [← HNL.out] at HOWN ⊢
        clear see5 lt5 fm5
        go_upto_region 12 with (first
          | (go_at_call 39; refine (HOP.out _ HVC.out).mono ?_; rintro e w6 ⟨rfl, hw6⟩; have HCw6 := hide (HCUR.out.trans (hw6.mono HCUR.out.size)); have HBw6 := hide (HBC.out.keep hw6); have HZw6 := hide (HZC.out.keep hw6); have HVw6 := hide (HVC.out.keep hw6); have HOw6 := hide (HOWN.out.keep hw6); clear HCUR HBC HVC HZC HOWN b0 b1 b2 b3 b4; have HCUR := HCw6; have HBC := HBw6; have HVC := HVw6; have HZC := HZw6; have HOWN := HOw6; have b0 : w6.cell? ⟨N, 0, none⟩ = some (.int .i64 (S.tries : Int)) := HBC.out.cell 0; have b1 : w6.cell? ⟨N, 1, none⟩ = some (.int .u64 (S.win : Int)) := HBC.out.cell 1; have b2 : w6.cell? ⟨N, 2, none⟩ = some (.int .i64 (S.subs : Int)) := HBC.out.cell 2; have b3 : w6.cell? ⟨N, 3, none⟩ = some (.int .u64 (T : Int)) := HBC.out.cell 3; have b4 : w6.cell? ⟨N, 4, none⟩ = some (.slice ao n c) := HBC.out.cell 4; have HW36 := hide (Nat.le_trans HW35.out hw6.size); clear hw6 HCw6 HBw6 HVw6 HZw6 HOw6)
          | (at_builtin; refine wpList_append_wins rfl _ _ rfl w3.heap.size _ L [(nm, (T, 0))] rfl (HOWN.out.keep (below_new w6 _)) (some ⟨w6.heap.size, 0, none⟩) 1 1 rfl rfl (vsee_one w6 (nm, (T, 0))) (by have := HSZ.out; have := HNL.out; simp only [List.length_cons, List.length_nil]; omega) (by have h1 := HW36.out; simp; omega) ?_; intro v9 w9 h9 g9; have hw9 : Below w3.heap.size w6 w9 := ((below_new w6 _).mono HW36.out).grown g9 (by have h1 := HW36.out; simp; omega) (fun j hj => (World.ownsRow.lt HOWN.out j hj).1); have HO9 := hide h9; clear h9 g9; have HC9 := hide (HCUR.out.trans (Below.mono hw9 HW3.out)); have HB9 := hide (HBC.out.below hw9 HLT3.out.1); have HZ9 := hide (HZC.out.below hw9 HLT3.out.2); clear HCUR HBC HVC HZC HOWN b0 b1 b2 b3 b4; have HCUR := HC9; have HBC := HB9; have HZC := HZ9; have HOWN := HO9; have b0 : w9.cell? ⟨N, 0, none⟩ = some (.int .i64 (S.tries : Int)) := HBC.out.cell 0; have b1 : w9.cell? ⟨N, 1, none⟩ = some (.int .u64 (S.win : Int)) := HBC.out.cell 1; have b2 : w9.cell? ⟨N, 2, none⟩ = some (.int .i64 (S.subs : Int)) := HBC.out.cell 2; have b3 : w9.cell? ⟨N, 3, none⟩ = some (.int .u64 (T : Int)) := HBC.out.cell 3; have b4 : w9.cell? ⟨N, 4, none⟩ = some (.slice ao n c) := HBC.out.cell 4; clear hw9 HC9 HB9 HZ9 HO9))
        obtain ⟨ao9, c5, rfl, see9, lt9, fm9⟩ := HOWN.out.form
        have hL0 : L ++ [(nm, (T, 0))] ≠ [] := by simp
        obtain ⟨g5, rfl⟩ : ∃ g5, ao9 = some ⟨g5, 0, none⟩ := by
          cases ao9 with
          | none => rcases see9 with h | ⟨b, off, h, _⟩; exact absurd h hL0; cases h
          | some a => obtain ⟨g, rfl⟩ := fm9 a rfl; exact ⟨g, rfl⟩
        rw [← HN1.out] at HOWN ⊢
        have HG5 := hide (lt9 _ rfl)
        have HNE : Hid (N ≠ g5 ∧ M ≠ g5) := hide (by have h1 := HG5.out.1; have h2 := HLT3.out; simp only at h1; omega)
        have HGW : Hid (w.heap.size ≤ g5) := hide (Nat.le_trans HW3.out HG5.out.1)
        have HLY : Hid ((L ++ [(nm, (T, 1))])[n]? = some (nm, (T, 1))) := hide (by rw [HNL.out, List.getElem?_append_right (Nat.le_refl _), Nat.sub_self]; rfl)
        clear see9 lt9 fm9 hL0
        go_upto_region 13 with fail
        obtain ⟨_, _, hgb, p0, p1, p2⟩ := HOWN.out.see.at HLX.out
        cases hgb
        simp only [Nat.zero_add] at p0 p1 p2
        have pf2 := HOWN.out.frozen (n * 3 + 2)
        have bf := fun i => HBC.out.frozen i
        go_upto_region 14 with fail
        have HO7 := hide (HOWN.out.set HLX.out 1)
        rw [show ((nm, (T, 0)) : Win).1 = nm from rfl, show ((nm, (T, 0)) : Win).2.1 = T from rfl, HST.out] at HO7
        have HB7 := hide (HBC.out.other HNE.out.1 (n * 3 + 2) (.int .i64 1))
        have HZ7 := hide (HZC.out.other HNE.out.2 (n * 3 + 2) (.int .i64 1))
        have HC7 := hide (below_set HCUR.out HGW.out (n * 3 + 2) (.int .i64 1))
        clear HOWN HBC HZC HCUR b0 b1 b2 b3 b4 bf p0 p1 p2 pf2
        generalize w9.setCell ⟨g5, n * 3 + 2, none⟩ (.int .i64 1) = w7 at *
        have bf := fun i => HB7.out.frozen i
        have b4 : w7.cell? ⟨N, 4, none⟩ = some (.slice ao n c) := HB7.out.cell 4
        go_upto_region 15 with fail
        have HO8 := hide (HO7.out.apart (Fr.setCell [N] w7 N 4 (.slice (some ⟨g5, 0, none⟩) n1 c5) (by simp)) (Ne.symm HNE.out.1))
        have HB8 := hide (HB7.out.set 4 (.slice (some ⟨g5, 0, none⟩) n1 c5))
        have HZC := hide (HZ7.out.other (Ne.symm HNM.out) 4 (.slice (some ⟨g5, 0, none⟩) n1 c5))
        have HCUR := hide (below_set HC7.out HNG.out.1 4 (.slice (some ⟨g5, 0, none⟩) n1 c5))
        clear HO7 HB7 HZ7 HC7 bf b4
        generalize w7.setCell ⟨N, 4, none⟩ (.slice (some ⟨g5, 0, none⟩) n1 c5) = w8 at *
        have b0 : w8.cell? ⟨N, 0, none⟩ = some (.int .i64 (S.tries : Int)) := HB8.out.cell 0; have b1 : w8.cell? ⟨N, 1, none⟩ = some (.int .u64 (S.win : Int)) := HB8.out.cell 1; have b2 : w8.cell? ⟨N, 2, none⟩ = some (.int .i64 (S.subs : Int)) := HB8.out.cell 2; have b3 : w8.cell? ⟨N, 3, none⟩ = some (.int .u64 (T : Int)) := HB8.out.cell 3; have b4 : w8.cell? ⟨N, 4, none⟩ = some (.slice (some ⟨g5, 0, none⟩) n1 c5) := HB8.out.cell 4
        have z0 : w8.cell? ⟨M, 0, none⟩ = some (.int .i64 0) := HZC.out.cell 0; have z1 : w8.cell? ⟨M, 1, none⟩ = some (.int .u64 0) := HZC.out.cell 1; have z2 : w8.cell? ⟨M, 2, none⟩ = some (.int .i64 0) := HZC.out.cell 2; have z3 : w8.cell? ⟨M, 3, none⟩ = some (.int .u64 0) := HZC.out.cell 3; have z4 : w8.cell? ⟨M, 4, none⟩ = some (.slice none 0 0) := HZC.out.cell 4; have zf := fun i => HZC.out.frozen i
        have HSE := hide (WOwn.see HO8.out)
        obtain ⟨_, _, hgb, _, _, p2⟩ := HSE.out.at HLY.out
        cases hgb
        simp only [Nat.zero_add] at p2
        have hMN := Ne.symm HNM.out
        have hgM := HNE.out.2
        have hgM2 := Ne.symm HNE.out.2
        go_region_held (fun W => W.cell? ⟨N, 0, none⟩ = some (.int .i64 (S.tries : Int)) ∧ W.cell? ⟨N, 1, none⟩ = some (.int .u64 (S.win : Int)) ∧ W.cell? ⟨N, 2, none⟩ = some (.int .i64 (S.subs : Int)) ∧ W.cell? ⟨N, 3, none⟩ = some (.int .u64 (T : Int)) ∧ W.cell? ⟨N, 4, none⟩ = some (.slice (some ⟨g5, 0, none⟩) n1 c5) ∧ W.cell? ⟨g5, n * 3 + 2, none⟩ = some (.int .i64 1)) (go_keep) (fail)
        go_wp2_with fail
        have HO9 := hide (HO8.out.apart (set5_fr w8 M (.int .i64 (S.tries : Int)) (.int .u64 (S.win : Int)) (.int .i64 (S.subs : Int)) (.int .u64 (T : Int)) (.slice (some ⟨g5, 0, none⟩) n1 c5)) hgM2)
        exact bodyPost_ret (results_cell_three rfl _ _ M 32 _ (0, 0) _ rfl (set5 HZC.out _ _ _ _ _) Try.underlying32 (by kernel_rfl)) rfl (tpost_mk (rpost_own HO9.out.drew HGW.out HRM.out HRI.out (by rw [List.length_append]; exact Nat.le_refl _) (below_drew (set5_below HCUR.out HNG.out.2 _ _ _ _ _))))
    · have e1 := try_refused hS hl2 hle h0
      rw [e1]
      rw [hgt] at hri ⊢
      have HP := hide (fun W hW => HSAME.out W hW _ hri)
      generalize (S.left nm T).2 = en at *
      have hn0 : ((en : Int) == 0) = false := by simp; omega
      have hn1 : ((en : Int) == 1) = false := by simp; omega
      clear hV hR hn hsz hl e1 h0 hne1 hri hgt
      unfold rcl at *
      go_enter Try.func21, Try.ntmps21
      go_upto_region 1 with fail
      obtain ⟨N, hN⟩ : ∃ N, N = w.heap.size := ⟨_, rfl⟩
      obtain ⟨M, hM⟩ : ∃ M, M = N + 1 := ⟨_, rfl⟩
      have hsz1 : (w.alloc (.cells #[.int .i64 (S.tries : Int), .int .u64 (S.win : Int), .int .i64 (S.subs : Int), .int .u64 (S.clock : Int), .slice ao n c] 32)).heap.size = M := by rw [hM, hN]; simp
      have HNM : Hid (N ≠ M) := hide (by omega)
      have HNG : Hid (w.heap.size ≤ N ∧ w.heap.size ≤ M) := hide (by omega)
      rw [hsz1] at HZ
      rw [← hN] at HB ⊢
      rw [← hM]
      clear hsz1 hN hM
      have HVC := hide (HV.out.keep HBN.out)
      generalize (w.alloc (.cells #[.int .i64 (S.tries : Int), .int .u64 (S.win : Int), .int .i64 (S.subs : Int), .int .u64 (S.clock : Int), .slice ao n c] 32)).alloc (.cells #[.int .i64 0, .int .u64 0, .int .i64 0, .int .u64 0, .slice none 0 0] 32) = u at *
      have HCUR := HBN
      have HBC := HB
      have HZC := HZ
      clear HB HZ HBN
      have b0 : u.cell? ⟨N, 0, none⟩ = some (.int .i64 (S.tries : Int)) := HBC.out.cell 0; have b1 : u.cell? ⟨N, 1, none⟩ = some (.int .u64 (S.win : Int)) := HBC.out.cell 1; have b2 : u.cell? ⟨N, 2, none⟩ = some (.int .i64 (S.subs : Int)) := HBC.out.cell 2; have b3 : u.cell? ⟨N, 3, none⟩ = some (.int .u64 (S.clock : Int)) := HBC.out.cell 3; have b4 : u.cell? ⟨N, 4, none⟩ = some (.slice ao n c) := HBC.out.cell 4
      go_upto_region 6 with (first
        | (go_at_call 37; refine (HWY.out _ HVC.out).mono ?_; rintro e w1 ⟨rfl, hw1⟩; have HCw1 := hide (HCUR.out.trans (hw1.mono HCUR.out.size)); have HBw1 := hide (HBC.out.keep hw1); have HZw1 := hide (HZC.out.keep hw1); have HVw1 := hide (HVC.out.keep hw1); clear HCUR HBC HVC HZC b0 b1 b2 b3 b4; have HCUR := HCw1; have HBC := HBw1; have HVC := HVw1; have HZC := HZw1; have b0 : w1.cell? ⟨N, 0, none⟩ = some (.int .i64 (S.tries : Int)) := HBC.out.cell 0; have b1 : w1.cell? ⟨N, 1, none⟩ = some (.int .u64 (S.win : Int)) := HBC.out.cell 1; have b2 : w1.cell? ⟨N, 2, none⟩ = some (.int .i64 (S.subs : Int)) := HBC.out.cell 2; have b3 : w1.cell? ⟨N, 3, none⟩ = some (.int .u64 (S.clock : Int)) := HBC.out.cell 3; have b4 : w1.cell? ⟨N, 4, none⟩ = some (.slice ao n c) := HBC.out.cell 4; clear hw1 HCw1 HBw1 HVw1 HZw1)
        | (go_at_call 38; refine (HAT.out _).mono ?_; rintro e w2 ⟨rfl, hw2⟩; have HCw2 := hide (HCUR.out.trans (hw2.mono HCUR.out.size)); have HBw2 := hide (HBC.out.keep hw2); have HZw2 := hide (HZC.out.keep hw2); have HVw2 := hide (HVC.out.keep hw2); clear HCUR HBC HVC HZC b0 b1 b2 b3 b4; have HCUR := HCw2; have HBC := HBw2; have HVC := HVw2; have HZC := HZw2; have b0 : w2.cell? ⟨N, 0, none⟩ = some (.int .i64 (S.tries : Int)) := HBC.out.cell 0; have b1 : w2.cell? ⟨N, 1, none⟩ = some (.int .u64 (S.win : Int)) := HBC.out.cell 1; have b2 : w2.cell? ⟨N, 2, none⟩ = some (.int .i64 (S.subs : Int)) := HBC.out.cell 2; have b3 : w2.cell? ⟨N, 3, none⟩ = some (.int .u64 (S.clock : Int)) := HBC.out.cell 3; have b4 : w2.cell? ⟨N, 4, none⟩ = some (.slice ao n c) := HBC.out.cell 4; have bf := fun i => HBC.out.frozen i; clear hw2 HCw2 HBw2 HVw2 HZw2))
      have HB3 := hide (HBC.out.set 3 (.int .u64 (T : Int)))
      have HZ3 := hide (HZC.out.other (Ne.symm HNM.out) 3 (.int .u64 (T : Int)))
      have HC3 := hide (below_set HCUR.out HNG.out.1 3 (.int .u64 (T : Int)))
      have HV3 := hide (HV.out.keep HC3.out)
      clear HBC HZC HCUR HVC b0 b1 b2 b3 b4 bf
      generalize w2.setCell ⟨N, 3, none⟩ (.int .u64 (T : Int)) = w3 at *
      have HBC := HB3
      have HZC := HZ3
      have HCUR := HC3
      have HVC := HV3
      clear HB3 HZ3 HC3 HV3
      have b0 : w3.cell? ⟨N, 0, none⟩ = some (.int .i64 (S.tries : Int)) := HBC.out.cell 0; have b1 : w3.cell? ⟨N, 1, none⟩ = some (.int .u64 (S.win : Int)) := HBC.out.cell 1; have b2 : w3.cell? ⟨N, 2, none⟩ = some (.int .i64 (S.subs : Int)) := HBC.out.cell 2; have b3 : w3.cell? ⟨N, 3, none⟩ = some (.int .u64 (T : Int)) := HBC.out.cell 3; have b4 : w3.cell? ⟨N, 4, none⟩ = some (.slice ao n c) := HBC.out.cell 4
      have z0 : w3.cell? ⟨M, 0, none⟩ = some (.int .i64 0) := HZC.out.cell 0; have z1 : w3.cell? ⟨M, 1, none⟩ = some (.int .u64 0) := HZC.out.cell 1; have z2 : w3.cell? ⟨M, 2, none⟩ = some (.int .i64 0) := HZC.out.cell 2; have z3 : w3.cell? ⟨M, 3, none⟩ = some (.int .u64 0) := HZC.out.cell 3; have z4 : w3.cell? ⟨M, 4, none⟩ = some (.slice none 0 0) := HZC.out.cell 4; have zf := fun i => HZC.out.frozen i
      go_wp2
      exact bodyPost_ret (results_cell_three rfl _ _ M 32 _ (0, 0) _ rfl (set5 HZC.out _ _ _ _ _) Try.underlying32 (by kernel_rfl)) rfl (tpost_mk (HP.out _ (set5_below HCUR.out HNG.out.2 _ _ _ _ _)))
end Go.Proofs.Ytbhlciaigadlkaa
