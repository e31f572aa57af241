/- The document's Sweep, Clear, Forgive; the limit's Forgive and Clear. -/
import Derived.Test.YtbhlciaigadlkaaQRefE
namespace Go.Proofs.Ytbhlciaigadlkaa
open Go.RowKit Go.Maps

set_option maxHeartbeats 2000000 in
set_option maxRecDepth 100000 in
theorem rsweep_any (S : LS) (hS : Ok S) (ao : Option Addr) (n c now : Nat) (L : Tab) (w : World) (hn : n = L.length) (hV : VSee w ao L) (hR : RI S L) (hnow : now < 18446744073709551616) (hnb : n ≤ 9223372036854775807) :
    Calls Try.prog 25 #[.agg (rcl S (.slice ao n c)).toArray, .int .u64 (now : Int)] w fun e w' => e = .returned (.tuple #[.agg (rcl (S.goTo now) (.slice ao n c)).toArray, .int .i64 ((S.goTo now).tab.length : Int)]) ∧ Hid (RPost w w' ao L (S.goTo now) ao n L) := by
  have HB := hide ((Bl.new w #[.int .i64 (S.tries : Int), .int .u64 (S.win : Int), .int .i64 (S.subs : Int), .int .u64 (S.clock : Int), .slice ao n c] 32).alloc (.cells #[.int .i64 0, .int .u64 0, .int .i64 0, .int .u64 0, .slice none 0 0] 32))
  have HZ := hide (Bl.new (w.alloc (.cells #[.int .i64 (S.tries : Int), .int .u64 (S.win : Int), .int .i64 (S.subs : Int), .int .u64 (S.clock : Int), .slice ao n c] 32)) #[.int .i64 0, .int .u64 0, .int .i64 0, .int .u64 0, .slice none 0 0] 32)
  have HBN := hide ((below_new w (.cells #[.int .i64 (S.tries : Int), .int .u64 (S.win : Int), .int .i64 (S.subs : Int), .int .u64 (S.clock : Int), .slice ao n c] 32)).trans ((below_new (w.alloc (.cells #[.int .i64 (S.tries : Int), .int .u64 (S.win : Int), .int .i64 (S.subs : Int), .int .u64 (S.clock : Int), .slice ao n c] 32)) (.cells #[.int .i64 0, .int .u64 0, .int .i64 0, .int .u64 0, .slice none 0 0] 32)).mono (below_new w (.cells #[.int .i64 (S.tries : Int), .int .u64 (S.win : Int), .int .i64 (S.subs : Int), .int .u64 (S.clock : Int), .slice ao n c] 32)).size))
  have hcl := hS.clock
  have hwin := hS.win2
  have hle : S.clock ≤ max now S.clock := by omega
  have HAT : Hid (∀ W, Calls Try.prog 38 #[.agg (rcl S (.slice ao n c)).toArray, .int .u64 (now : Int)] W fun e w' => e = .returned (.int .u64 ((max now S.clock : Nat) : Int)) ∧ Below W.heap.size W w') := hide fun W => rat_any S ao n c now W
  have HKN : Hid (∀ W, VSee W ao L → Calls Try.prog 40 #[.agg (rcl { S with clock := max now S.clock } (.slice ao n c)).toArray, .int .u64 ((max now S.clock : Nat) : Int)] W fun e w' => ∃ m : Nat, e = .returned (.tuple #[.int .i64 (((L.filter (alive S.win (max now S.clock))).length : Nat) : Int), .int .u64 (m : Int)]) ∧ Hid (Below W.heap.size W w' ∧ LeastIf S.win (max now S.clock) (L.filter (alive S.win (max now S.clock))) m)) := hide fun W hW => rknown_any { S with clock := max now S.clock } ao n c (max now S.clock) L W hn hW (fun p hp => Nat.le_trans (hR.each p hp).1 hle) (by omega) hwin hnb
  have hTb : max now S.clock < 18446744073709551616 := by omega
  have hlen := ri_open hR hle
  have hri := ri_goTo hS hR (max now S.clock)
  rw [goTo_max S now]
  generalize max now S.clock = T at *
  have hgt := goTo_tab hS hle
  have hgl : (S.goTo T).tab.length = (L.filter (alive S.win T)).length := by rw [hgt, hlen]; rfl
  rw [hgl]
  rw [hgt] at hri ⊢
  have HSAME := hide (fun (W : World) (hW : Below w.heap.size w W) => (⟨hn, hV.keep hW, hri, Nat.le_succ _, hW, fun a _ => .inl rfl⟩ : RPost w W ao L { S with clock := T, tab := S.tab.filter (opens S.win T) } ao n L))
  have HV := hide hV
  generalize (L.filter (alive S.win T)).length = kn at *
  clear hV hR hn hnb hlen hri hgt hgl
  unfold rcl at *
  simp only at *
  go_enter Try.func25, Try.ntmps25
  go_upto_region 1 with fail
  obtain ⟨N, hN⟩ : ∃ N, N = w.heap.size := ⟨_, rfl⟩
  obtain ⟨M, hM⟩ : ∃ M, M = N + 1 := ⟨_, rfl⟩
  have hsz1 : (w.alloc (.cells #[.int .i64 (S.tries : Int), .int .u64 (S.win : Int), .int .i64 (S.subs : Int), .int .u64 (S.clock : Int), .slice ao n c] 32)).heap.size = M := by rw [hM, hN]; simp
  have HNM : Hid (N ≠ M) := hide (by omega)
  have HNG : Hid (w.heap.size ≤ N ∧ w.heap.size ≤ M) := hide (by omega)
  rw [hsz1] at HZ
  rw [← hN] at HB ⊢
  rw [← hM]
  clear hsz1 hN hM
  have HVC := hide (HV.out.keep HBN.out)
  generalize (w.alloc (.cells #[.int .i64 (S.tries : Int), .int .u64 (S.win : Int), .int .i64 (S.subs : Int), .int .u64 (S.clock : Int), .slice ao n c] 32)).alloc (.cells #[.int .i64 0, .int .u64 0, .int .i64 0, .int .u64 0, .slice none 0 0] 32) = u at *
  have HCUR := HBN
  have HBC := HB
  have HZC := HZ
  clear HB HZ HBN
  have b0 : u.cell? ⟨N, 0, none⟩ = some (.int .i64 (S.tries : Int)) := HBC.out.cell 0; have b1 : u.cell? ⟨N, 1, none⟩ = some (.int .u64 (S.win : Int)) := HBC.out.cell 1; have b2 : u.cell? ⟨N, 2, none⟩ = some (.int .i64 (S.subs : Int)) := HBC.out.cell 2; have b3 : u.cell? ⟨N, 3, none⟩ = some (.int .u64 (S.clock : Int)) := HBC.out.cell 3; have b4 : u.cell? ⟨N, 4, none⟩ = some (.slice ao n c) := HBC.out.cell 4
  have bf := fun i => HBC.out.frozen i
  go_upto_region 2 with (first
    | (go_at_call 38; refine (HAT.out _).mono ?_; rintro e w2 ⟨rfl, hw2⟩; have HCw2 := hide (HCUR.out.trans (hw2.mono HCUR.out.size)); have HBw2 := hide (HBC.out.keep hw2); have HZw2 := hide (HZC.out.keep hw2); have HVw2 := hide (HVC.out.keep hw2); clear HCUR HBC HVC HZC b0 b1 b2 b3 b4; have HCUR := HCw2; have HBC := HBw2; have HVC := HVw2; have HZC := HZw2; have b0 : w2.cell? ⟨N, 0, none⟩ = some (.int .i64 (S.tries : Int)) := HBC.out.cell 0; have b1 : w2.cell? ⟨N, 1, none⟩ = some (.int .u64 (S.win : Int)) := HBC.out.cell 1; have b2 : w2.cell? ⟨N, 2, none⟩ = some (.int .i64 (S.subs : Int)) := HBC.out.cell 2; have b3 : w2.cell? ⟨N, 3, none⟩ = some (.int .u64 (S.clock : Int)) := HBC.out.cell 3; have b4 : w2.cell? ⟨N, 4, none⟩ = some (.slice ao n c) := HBC.out.cell 4; have bf := fun i => HBC.out.frozen i; clear hw2 HCw2 HBw2 HVw2 HZw2))
  have HB3 := hide (HBC.out.set 3 (.int .u64 (T : Int)))
  have HZ3 := hide (HZC.out.other (Ne.symm HNM.out) 3 (.int .u64 (T : Int)))
  have HC3 := hide (below_set HCUR.out HNG.out.1 3 (.int .u64 (T : Int)))
  have HV3 := hide (HV.out.keep HC3.out)
  clear HBC HZC HCUR HVC b0 b1 b2 b3 b4 bf
  generalize w2.setCell ⟨N, 3, none⟩ (.int .u64 (T : Int)) = w3 at *
  have HBC := HB3
  have HZC := HZ3
  have HCUR := HC3
  have HVC := HV3
  clear HB3 HZ3 HC3 HV3
  have b0 : w3.cell? ⟨N, 0, none⟩ = some (.int .i64 (S.tries : Int)) := HBC.out.cell 0; have b1 : w3.cell? ⟨N, 1, none⟩ = some (.int .u64 (S.win : Int)) := HBC.out.cell 1; have b2 : w3.cell? ⟨N, 2, none⟩ = some (.int .i64 (S.subs : Int)) := HBC.out.cell 2; have b3 : w3.cell? ⟨N, 3, none⟩ = some (.int .u64 (T : Int)) := HBC.out.cell 3; have b4 : w3.cell? ⟨N, 4, none⟩ = some (.slice ao n c) := HBC.out.cell 4
  go_wp2_with (first
    | (go_at_call 40; refine (HKN.out _ HVC.out).mono ?_; rintro e w4 ⟨m, rfl, hp4⟩; have hw4 := hp4.out.1; have HCw4 := hide (HCUR.out.trans (hw4.mono HCUR.out.size)); have HBw4 := hide (HBC.out.keep hw4); have HZw4 := hide (HZC.out.keep hw4); have HVw4 := hide (HVC.out.keep hw4); clear HCUR HBC HVC HZC b0 b1 b2 b3 b4; have HCUR := HCw4; have HBC := HBw4; have HVC := HVw4; have HZC := HZw4; have b0 : w4.cell? ⟨N, 0, none⟩ = some (.int .i64 (S.tries : Int)) := HBC.out.cell 0; have b1 : w4.cell? ⟨N, 1, none⟩ = some (.int .u64 (S.win : Int)) := HBC.out.cell 1; have b2 : w4.cell? ⟨N, 2, none⟩ = some (.int .i64 (S.subs : Int)) := HBC.out.cell 2; have b3 : w4.cell? ⟨N, 3, none⟩ = some (.int .u64 (T : Int)) := HBC.out.cell 3; have b4 : w4.cell? ⟨N, 4, none⟩ = some (.slice ao n c) := HBC.out.cell 4; have z0 : w4.cell? ⟨M, 0, none⟩ = some (.int .i64 0) := HZC.out.cell 0; have z1 : w4.cell? ⟨M, 1, none⟩ = some (.int .u64 0) := HZC.out.cell 1; have z2 : w4.cell? ⟨M, 2, none⟩ = some (.int .i64 0) := HZC.out.cell 2; have z3 : w4.cell? ⟨M, 3, none⟩ = some (.int .u64 0) := HZC.out.cell 3; have z4 : w4.cell? ⟨M, 4, none⟩ = some (.slice none 0 0) := HZC.out.cell 4; have zf := fun i => HZC.out.frozen i; clear hw4 HCw4 HBw4 HVw4 HZw4))
  exact bodyPost_ret (results_cell_two rfl _ _ M 32 _ (0, 0) _ rfl (set5 HZC.out _ _ _ _ _) Try.underlying32 (by kernel_rfl)) rfl ⟨rfl, hide (HSAME.out _ (set5_below HCUR.out HNG.out.2 _ _ _ _ _))⟩
theorem results_cell_one {fn : Func} {p : Tmp} {ty : TypeId} (h : fn.results = #[.cell p ty]) (tmps : Array Value) (w : World) (g : Nat) (t : TypeId) (cs : Array Value) (fr : Nat × Nat) (fs : Array Field)
    (hp : tmps.getD p undef = .pointer (some ⟨g, 0, none⟩)) (hg : w.heap[g]? = some (.cells cs t fr))
    (hu : Try.prog.underlying ty = some (.struct fs)) (hi : (Try.prog.info? ty).map (·.size) = some cs.size) :
    (results fn tmps).run Try.prog w = .ok (.agg cs) w := by
  have hp' : tmps[p]?.getD undef = .pointer (some ⟨g, 0, none⟩) := by simpa using hp
  simp [results, h, hp', asAddr, run_loadVar_row w g t ty cs fr _ hg hu rfl hi]
set_option maxHeartbeats 2000000 in
set_option maxRecDepth 100000 in
theorem rclear_any (S : LS) (ao : Option Addr) (n c : Nat) (w : World) :
    Calls Try.prog 28 #[.agg (rcl S (.slice ao n c)).toArray] w fun e w' => e = .returned (.agg (rcl S.clear (.slice none 0 0)).toArray) ∧ Hid (RPost w w' ao [] S.clear none 0 []) := by
  have HB := hide ((Bl.new w #[.int .i64 (S.tries : Int), .int .u64 (S.win : Int), .int .i64 (S.subs : Int), .int .u64 (S.clock : Int), .slice ao n c] 32).alloc (.cells #[.int .i64 0, .int .u64 0, .int .i64 0, .int .u64 0, .slice none 0 0] 32))
  have HZ := hide (Bl.new (w.alloc (.cells #[.int .i64 (S.tries : Int), .int .u64 (S.win : Int), .int .i64 (S.subs : Int), .int .u64 (S.clock : Int), .slice ao n c] 32)) #[.int .i64 0, .int .u64 0, .int .i64 0, .int .u64 0, .slice none 0 0] 32)
  have HBN := hide ((below_new w (.cells #[.int .i64 (S.tries : Int), .int .u64 (S.win : Int), .int .i64 (S.subs : Int), .int .u64 (S.clock : Int), .slice ao n c] 32)).trans ((below_new (w.alloc (.cells #[.int .i64 (S.tries : Int), .int .u64 (S.win : Int), .int .i64 (S.subs : Int), .int .u64 (S.clock : Int), .slice ao n c] 32)) (.cells #[.int .i64 0, .int .u64 0, .int .i64 0, .int .u64 0, .slice none 0 0] 32)).mono (below_new w (.cells #[.int .i64 (S.tries : Int), .int .u64 (S.win : Int), .int .i64 (S.subs : Int), .int .u64 (S.clock : Int), .slice ao n c] 32)).size))
  unfold rcl LS.clear
  go_enter Try.func28, Try.ntmps28
  go_wp2
  have hN := Bl.new (w.alloc (.cells #[.int .i64 (S.tries : Int), .int .u64 (S.win : Int), .int .i64 (S.subs : Int), .int .u64 (S.clock : Int), .slice ao n c] 32)) #[.int .i64 (S.tries : Int), .int .u64 (S.win : Int), .int .i64 (S.subs : Int), .int .u64 0, .slice none 0 0] 32
  rw [show (w.alloc (.cells #[.int .i64 (S.tries : Int), .int .u64 (S.win : Int), .int .i64 (S.subs : Int), .int .u64 (S.clock : Int), .slice ao n c] 32)).heap.size = w.heap.size + 1 by simp] at hN
  have hbl : Below w.heap.size w ((w.alloc (.cells #[.int .i64 (S.tries : Int), .int .u64 (S.win : Int), .int .i64 (S.subs : Int), .int .u64 (S.clock : Int), .slice ao n c] 32)).alloc (.cells #[.int .i64 (S.tries : Int), .int .u64 (S.win : Int), .int .i64 (S.subs : Int), .int .u64 0, .slice none 0 0] 32)) := (below_new w _).trans ((below_new _ _).mono (by simp))
  exact bodyPost_ret (results_cell_one rfl _ _ (w.heap.size + 1) 32 _ (0, 0) _ rfl hN Try.underlying32 (by kernel_rfl)) rfl ⟨rfl, hide ⟨rfl, .inl rfl, ri_clear S, Nat.zero_le _, hbl, fun a e => by cases e⟩⟩
/-- What the document's Forgive leaves. -/
def FPost (w : World) (ao : Option Addr) (L : Tab) (S' : LS) (b : Bool) (e : Ending) (w' : World) : Prop := ∃ (ao' : Option Addr) (n' c' : Nat), e = .returned (.tuple #[.agg (rcl S' (.slice ao' n' c')).toArray, .bool b]) ∧ ∃ L', RPost w w' ao L S' ao' n' L'
theorem fpost_mk {w w' : World} {ao ao' : Option Addr} {L L' : Tab} {S' : LS} {b : Bool} {n' c' : Nat} (h : RPost w w' ao L S' ao' n' L') : FPost w ao L S' b (.returned (.tuple #[.agg (rcl S' (.slice ao' n' c')).toArray, .bool b])) w' := ⟨ao', n', c', rfl, L', h⟩
set_option maxHeartbeats 2000000 in
set_option maxRecDepth 100000 in
theorem rforgive_any (S : LS) (hS : Ok S) (ao : Option Addr) (n c : Nat) (nm : Nm) (L : Tab) (w : World) (hn : n = L.length) (hV : VSee w ao L) (hR : RI S L) (hsz : (n + 1) * 32 ≤ 140737488355328) :
    Calls Try.prog 24 #[.agg (rcl S (.slice ao n c)).toArray, .string (str nm)] w fun e w' => FPost w ao L (S.forgive nm) (tget nm S.tab).isSome e w' := by
  have HB := hide ((Bl.new w #[.int .i64 (S.tries : Int), .int .u64 (S.win : Int), .int .i64 (S.subs : Int), .int .u64 (S.clock : Int), .slice ao n c] 32).alloc (.cells #[.int .i64 0, .int .u64 0, .int .i64 0, .int .u64 0, .slice none 0 0] 32))
  have HZ := hide (Bl.new (w.alloc (.cells #[.int .i64 (S.tries : Int), .int .u64 (S.win : Int), .int .i64 (S.subs : Int), .int .u64 (S.clock : Int), .slice ao n c] 32)) #[.int .i64 0, .int .u64 0, .int .i64 0, .int .u64 0, .slice none 0 0] 32)
  have HBN := hide ((below_new w (.cells #[.int .i64 (S.tries : Int), .int .u64 (S.win : Int), .int .i64 (S.subs : Int), .int .u64 (S.clock : Int), .slice ao n c] 32)).trans ((below_new (w.alloc (.cells #[.int .i64 (S.tries : Int), .int .u64 (S.win : Int), .int .i64 (S.subs : Int), .int .u64 (S.clock : Int), .slice ao n c] 32)) (.cells #[.int .i64 0, .int .u64 0, .int .i64 0, .int .u64 0, .slice none 0 0] 32)).mono (below_new w (.cells #[.int .i64 (S.tries : Int), .int .u64 (S.win : Int), .int .i64 (S.subs : Int), .int .u64 (S.clock : Int), .slice ao n c] 32)).size))
  have hcl := hS.clock
  have HOP : Hid (∀ W, VSee W ao L → Calls Try.prog 39 #[.agg (rcl S (.slice ao n c)).toArray, .string (str nm), .int .u64 (S.clock : Int)] W fun e w' => e = .returned (.int .i64 (idxV (idx S.win S.clock nm L))) ∧ Below W.heap.size W w') := hide fun W hW => ropen_any S ao n c S.clock nm L W hn hW (fun p hp => (hR.each p hp).1) (by omega) (by omega)
  have HV := hide hV
  cases hi : idx S.win S.clock nm L with
  | none =>
    rw [hi] at HOP
    have hid := idx_none hR (Nat.le_refl _) hi
    have hg : tget nm S.tab = none := by
      cases hg : tget nm S.tab with
      | none => rfl
      | some v => exact absurd (hS.each _ (tget_some hg)).2.1 (hid v hg)
    have hri := ri_forgive_none hR hg
    rw [hg]
    have HSAME := hide (fun (W : World) (hW : Below w.heap.size w W) => (⟨hn, hV.keep hW, hri, Nat.le_succ _, hW, fun a _ => .inl rfl⟩ : RPost w W ao L (S.forgive nm) ao n L))
    clear hV hR hn hsz hi hid hri hg
    unfold rcl idxV LS.forgive at *
    simp only at *
    go_enter Try.func24, Try.ntmps24
    go_upto_region 1 with fail
    obtain ⟨N, hN⟩ : ∃ N, N = w.heap.size := ⟨_, rfl⟩
    obtain ⟨M, hM⟩ : ∃ M, M = N + 1 := ⟨_, rfl⟩
    have hsz1 : (w.alloc (.cells #[.int .i64 (S.tries : Int), .int .u64 (S.win : Int), .int .i64 (S.subs : Int), .int .u64 (S.clock : Int), .slice ao n c] 32)).heap.size = M := by rw [hM, hN]; simp
    have HNM : Hid (N ≠ M) := hide (by omega)
    have HNG : Hid (w.heap.size ≤ N ∧ w.heap.size ≤ M) := hide (by omega)
    rw [hsz1] at HZ
    rw [← hN] at HB ⊢
    rw [← hM]
    clear hsz1 hN hM
    have HVC := hide (HV.out.keep HBN.out)
    generalize (w.alloc (.cells #[.int .i64 (S.tries : Int), .int .u64 (S.win : Int), .int .i64 (S.subs : Int), .int .u64 (S.clock : Int), .slice ao n c] 32)).alloc (.cells #[.int .i64 0, .int .u64 0, .int .i64 0, .int .u64 0, .slice none 0 0] 32) = u at *
    have HCUR := HBN
    have HBC := HB
    have HZC := HZ
    clear HB HZ HBN
    have b0 : u.cell? ⟨N, 0, none⟩ = some (.int .i64 (S.tries : Int)) := HBC.out.cell 0; have b1 : u.cell? ⟨N, 1, none⟩ = some (.int .u64 (S.win : Int)) := HBC.out.cell 1; have b2 : u.cell? ⟨N, 2, none⟩ = some (.int .i64 (S.subs : Int)) := HBC.out.cell 2; have b3 : u.cell? ⟨N, 3, none⟩ = some (.int .u64 (S.clock : Int)) := HBC.out.cell 3; have b4 : u.cell? ⟨N, 4, none⟩ = some (.slice ao n c) := HBC.out.cell 4
    go_wp2_with (first
      | (go_at_call 39; refine (HOP.out _ HVC.out).mono ?_; rintro e w1 ⟨rfl, hw1⟩; have HCw1 := hide (HCUR.out.trans (hw1.mono HCUR.out.size)); have HBw1 := hide (HBC.out.keep hw1); have HZw1 := hide (HZC.out.keep hw1); have HVw1 := hide (HVC.out.keep hw1); clear HCUR HBC HVC HZC b0 b1 b2 b3 b4; have HCUR := HCw1; have HBC := HBw1; have HVC := HVw1; have HZC := HZw1; have b0 : w1.cell? ⟨N, 0, none⟩ = some (.int .i64 (S.tries : Int)) := HBC.out.cell 0; have b1 : w1.cell? ⟨N, 1, none⟩ = some (.int .u64 (S.win : Int)) := HBC.out.cell 1; have b2 : w1.cell? ⟨N, 2, none⟩ = some (.int .i64 (S.subs : Int)) := HBC.out.cell 2; have b3 : w1.cell? ⟨N, 3, none⟩ = some (.int .u64 (S.clock : Int)) := HBC.out.cell 3; have b4 : w1.cell? ⟨N, 4, none⟩ = some (.slice ao n c) := HBC.out.cell 4; have z0 : w1.cell? ⟨M, 0, none⟩ = some (.int .i64 0) := HZC.out.cell 0; have z1 : w1.cell? ⟨M, 1, none⟩ = some (.int .u64 0) := HZC.out.cell 1; have z2 : w1.cell? ⟨M, 2, none⟩ = some (.int .i64 0) := HZC.out.cell 2; have z3 : w1.cell? ⟨M, 3, none⟩ = some (.int .u64 0) := HZC.out.cell 3; have z4 : w1.cell? ⟨M, 4, none⟩ = some (.slice none 0 0) := HZC.out.cell 4; have zf := fun i => HZC.out.frozen i; clear hw1 HCw1 HBw1 HVw1 HZw1))
    exact bodyPost_ret (results_cell_two rfl _ _ M 32 _ (0, 0) _ rfl (set5 HZC.out _ _ _ _ _) Try.underlying32 (by kernel_rfl)) rfl (fpost_mk (HSAME.out _ (set5_below HCUR.out HNG.out.2 _ _ _ _ _)))
  | some i =>
    rw [hi] at HOP
    obtain ⟨v, hv, hg, hv0, hvo⟩ := idx_some hS hR (Nat.le_refl _) hi
    have hin : i < n := by rw [hn]; exact idx_lt hi
    have hri2 := ri_forgive hS hR hv hg
    rw [hg]
    have HRI := hide hri2
    have HLX := hide hv
    have HIN := hide hin
    obtain ⟨vb, vc⟩ := v
    simp only at HRI
    have hin' : (i : Int) < (n : Int) := by omega
    have hi0 : (0 : Int) ≤ (i : Int) := by omega
    have HNL := hide hn
    have HSZ := hide hsz
    have HRM : Hid (n = (L.set i (nm, (vb, 0))).length) := hide (by rw [List.length_set]; exact hn)
    clear hV hR hn hsz hi hv hg hv0 hvo hri2 hin
    unfold rcl idxV LS.forgive at *
    simp only at *
    go_enter Try.func24, Try.ntmps24
    go_upto_region 1 with fail
    obtain ⟨N, hN⟩ : ∃ N, N = w.heap.size := ⟨_, rfl⟩
    obtain ⟨M, hM⟩ : ∃ M, M = N + 1 := ⟨_, rfl⟩
    have hsz1 : (w.alloc (.cells #[.int .i64 (S.tries : Int), .int .u64 (S.win : Int), .int .i64 (S.subs : Int), .int .u64 (S.clock : Int), .slice ao n c] 32)).heap.size = M := by rw [hM, hN]; simp
    have HNM : Hid (N ≠ M) := hide (by omega)
    have HNG : Hid (w.heap.size ≤ N ∧ w.heap.size ≤ M) := hide (by omega)
    rw [hsz1] at HZ
    rw [← hN] at HB ⊢
    rw [← hM]
    clear hsz1 hN hM
    have HVC := hide (HV.out.keep HBN.out)
    generalize (w.alloc (.cells #[.int .i64 (S.tries : Int), .int .u64 (S.win : Int), .int .i64 (S.subs : Int), .int .u64 (S.clock : Int), .slice ao n c] 32)).alloc (.cells #[.int .i64 0, .int .u64 0, .int .i64 0, .int .u64 0, .slice none 0 0] 32) = u at *
    have HCUR := HBN
    have HBC := HB
    have HZC := HZ
    clear HB HZ HBN
    have b0 : u.cell? ⟨N, 0, none⟩ = some (.int .i64 (S.tries : Int)) := HBC.out.cell 0; have b1 : u.cell? ⟨N, 1, none⟩ = some (.int .u64 (S.win : Int)) := HBC.out.cell 1; have b2 : u.cell? ⟨N, 2, none⟩ = some (.int .i64 (S.subs : Int)) := HBC.out.cell 2; have b3 : u.cell? ⟨N, 3, none⟩ = some (.int .u64 (S.clock : Int)) := HBC.out.cell 3; have b4 : u.cell? ⟨N, 4, none⟩ = some (.slice ao n c) := HBC.out.cell 4
    go_upto_region 4 with (first
      | (go_at_call 39; refine (HOP.out _ HVC.out).mono ?_; rintro e w1 ⟨rfl, hw1⟩; have HCw1 := hide (HCUR.out.trans (hw1.mono HCUR.out.size)); have HBw1 := hide (HBC.out.keep hw1); have HZw1 := hide (HZC.out.keep hw1); have HVw1 := hide (HVC.out.keep hw1); clear HCUR HBC HVC HZC b0 b1 b2 b3 b4; have HCUR := HCw1; have HBC := HBw1; have HVC := HVw1; have HZC := HZw1; have b0 : w1.cell? ⟨N, 0, none⟩ = some (.int .i64 (S.tries : Int)) := HBC.out.cell 0; have b1 : w1.cell? ⟨N, 1, none⟩ = some (.int .u64 (S.win : Int)) := HBC.out.cell 1; have b2 : w1.cell? ⟨N, 2, none⟩ = some (.int .i64 (S.subs : Int)) := HBC.out.cell 2; have b3 : w1.cell? ⟨N, 3, none⟩ = some (.int .u64 (S.clock : Int)) := HBC.out.cell 3; have b4 : w1.cell? ⟨N, 4, none⟩ = some (.slice ao n c) := HBC.out.cell 4; clear hw1 HCw1 HBw1 HVw1 HZw1))
    have HLT3 := hide (And.intro HBC.out.lt HZC.out.lt)
    have HW3 := hide HCUR.out.size
    have HO := hide (wown_new w1 w1.heap.size (Nat.le_refl _))
    have HVE := hide (HVC.out.keep (below_new w1 (.cells #[] 79)))
    have be4 : (w1.alloc (.cells #[] 79)).cell? ⟨N, 4, none⟩ = some (.slice ao n c) := (HBC.out.alloc _).cell 4
    go_upto_region 5 with (first
      | (at_builtin; refine wpList_append_wins rfl _ _ rfl w1.heap.size _ [] L rfl HO.out ao n c HNL.out rfl HVE.out (by have := HSZ.out; have := HNL.out; simp only [List.length_nil]; omega) (by simp) ?_; intro v5 w5 h5 g5; have hw5 : Below w1.heap.size w1 w5 := (below_new w1 _).grown g5 (by simp) (fun j hj => (World.ownsRow.lt HO.out j hj).1); have HOWN := hide (show WOwn w5 w1.heap.size v5 L from h5); clear h5 g5; have HC5 := hide (HCUR.out.trans (hw5.mono HCUR.out.size)); have HB5 := hide (HBC.out.keep hw5); have HZ5 := hide (HZC.out.keep hw5); clear HCUR HBC HVC HZC b0 b1 b2 b3 b4; have HCUR := HC5; have HBC := HB5; have HZC := HZ5; have b0 : w5.cell? ⟨N, 0, none⟩ = some (.int .i64 (S.tries : Int)) := HBC.out.cell 0; have b1 : w5.cell? ⟨N, 1, none⟩ = some (.int .u64 (S.win : Int)) := HBC.out.cell 1; have b2 : w5.cell? ⟨N, 2, none⟩ = some (.int .i64 (S.subs : Int)) := HBC.out.cell 2; have b3 : w5.cell? ⟨N, 3, none⟩ = some (.int .u64 (S.clock : Int)) := HBC.out.cell 3; have b4 : w5.cell? ⟨N, 4, none⟩ = some (.slice ao n c) := HBC.out.cell 4; clear hw5 HC5 HB5 HZ5 be4))
    obtain ⟨ao5, c5, rfl, see5, lt5, fm5⟩ := HOWN.out.form
    have hL0 : L ≠ [] := fun e => by have := HLX.out; rw [e] at this; simp at this
    obtain ⟨g5, rfl⟩ : ∃ g5, ao5 = some ⟨g5, 0, none⟩ := by
      cases ao5 with
      | none => rcases see5 with h | ⟨b, off, h, _⟩; exact absurd h hL0; cases h
      | some a => obtain ⟨g, rfl⟩ := fm5 a rfl; exact ⟨g, rfl⟩
    rw [← HNL.out] at HOWN ⊢
    have HG5 := hide (lt5 _ rfl)
    have HNE : Hid (N ≠ g5 ∧ M ≠ g5) := hide (by have h1 := HG5.out.1; have h2 := HLT3.out; simp only at h1; omega)
    have HGW : Hid (w.heap.size ≤ g5) := hide (Nat.le_trans HW3.out HG5.out.1)
    clear see5 lt5 fm5 hL0
    obtain ⟨_, _, hgb, p0, p1, p2⟩ := HOWN.out.see.at HLX.out
    cases hgb
    simp only [Nat.zero_add] at p0 p1 p2
    have pf2 := HOWN.out.frozen (i * 3 + 2)
    go_upto_region 6 with fail
    have HO7 := hide (HOWN.out.set HLX.out 0)
    have HB7 := hide (HBC.out.other HNE.out.1 (i * 3 + 2) (.int .i64 0))
    have HZ7 := hide (HZC.out.other HNE.out.2 (i * 3 + 2) (.int .i64 0))
    have HC7 := hide (below_set HCUR.out HGW.out (i * 3 + 2) (.int .i64 0))
    clear HOWN HBC HZC HCUR b0 b1 b2 b3 b4 p0 p1 p2 pf2
    rw [show (((0 : Nat) : Int)) = 0 from rfl] at HO7
    generalize w5.setCell ⟨g5, i * 3 + 2, none⟩ (.int .i64 0) = w7 at *
    have bf := fun i => HB7.out.frozen i
    have b4 : w7.cell? ⟨N, 4, none⟩ = some (.slice ao n c) := HB7.out.cell 4
    go_upto_region 7 with fail
    have HO8 := hide (HO7.out.apart (Fr.setCell [N] w7 N 4 (.slice (some ⟨g5, 0, none⟩) n c5) (by simp)) (Ne.symm HNE.out.1))
    have HB8 := hide (HB7.out.set 4 (.slice (some ⟨g5, 0, none⟩) n c5))
    have HZC := hide (HZ7.out.other (Ne.symm HNM.out) 4 (.slice (some ⟨g5, 0, none⟩) n c5))
    have HCUR := hide (below_set HC7.out HNG.out.1 4 (.slice (some ⟨g5, 0, none⟩) n c5))
    clear HO7 HB7 HZ7 HC7 bf b4
    generalize w7.setCell ⟨N, 4, none⟩ (.slice (some ⟨g5, 0, none⟩) n c5) = w8 at *
    have b0 : w8.cell? ⟨N, 0, none⟩ = some (.int .i64 (S.tries : Int)) := HB8.out.cell 0; have b1 : w8.cell? ⟨N, 1, none⟩ = some (.int .u64 (S.win : Int)) := HB8.out.cell 1; have b2 : w8.cell? ⟨N, 2, none⟩ = some (.int .i64 (S.subs : Int)) := HB8.out.cell 2; have b3 : w8.cell? ⟨N, 3, none⟩ = some (.int .u64 (S.clock : Int)) := HB8.out.cell 3; have b4 : w8.cell? ⟨N, 4, none⟩ = some (.slice (some ⟨g5, 0, none⟩) n c5) := HB8.out.cell 4
    have z0 : w8.cell? ⟨M, 0, none⟩ = some (.int .i64 0) := HZC.out.cell 0; have z1 : w8.cell? ⟨M, 1, none⟩ = some (.int .u64 0) := HZC.out.cell 1; have z2 : w8.cell? ⟨M, 2, none⟩ = some (.int .i64 0) := HZC.out.cell 2; have z3 : w8.cell? ⟨M, 3, none⟩ = some (.int .u64 0) := HZC.out.cell 3; have z4 : w8.cell? ⟨M, 4, none⟩ = some (.slice none 0 0) := HZC.out.cell 4; have zf := fun i => HZC.out.frozen i
    go_wp2
    have HO9 := hide (HO8.out.apart (set5_fr w8 M (.int .i64 (S.tries : Int)) (.int .u64 (S.win : Int)) (.int .i64 (S.subs : Int)) (.int .u64 (S.clock : Int)) (.slice (some ⟨g5, 0, none⟩) n c5)) (Ne.symm HNE.out.2))
    exact bodyPost_ret (results_cell_two rfl _ _ M 32 _ (0, 0) _ rfl (set5 HZC.out _ _ _ _ _) Try.underlying32 (by kernel_rfl)) rfl (fpost_mk (rpost_own HO9.out HGW.out HRM.out HRI.out (by rw [List.length_set]; exact Nat.le_succ _) (set5_below HCUR.out HNG.out.2 _ _ _ _ _)))
end Go.Proofs.Ytbhlciaigadlkaa
