/- The document's New; the law's made. -/
import Derived.Test.YtbhlciaigadlkaaQMine
namespace Go.Proofs.Ytbhlciaigadlkaa
open Go.RowKit Go.Maps Go.Shelf

theorem results_cell_two {fn : Func} {p q : Tmp} {ty : TypeId} (h : fn.results = #[.cell p ty, .tmp q]) (tmps : Array Value) (w : World) (g : Nat) (t : TypeId) (cs : Array Value) (fr : Nat × Nat) (fs : Array Field)
    (hp : tmps.getD p undef = .pointer (some ⟨g, 0, none⟩)) (hg : w.heap[g]? = some (.cells cs t fr))
    (hu : Try.prog.underlying ty = some (.struct fs)) (hi : (Try.prog.info? ty).map (·.size) = some cs.size) :
    (results fn tmps).run Try.prog w = .ok (.tuple #[.agg cs, tmps.getD q undef]) w := by
  have hp' : tmps[p]?.getD undef = .pointer (some ⟨g, 0, none⟩) := by simpa using hp
  simp [results, h, hp', asAddr, run_loadVar_row w g t ty cs fr _ hg hu rfl hi]
/-- What New takes. -/
abbrev good (t wn sb : Int) : Prop := 1 ≤ t ∧ t ≤ 1000000 ∧ wn ≠ 0 ∧ 1 ≤ sb ∧ sb ≤ 4096
def rcells (t wn sb : Int) : List Value := [.int .i64 t, .int .u64 wn, .int .i64 sb, .int .u64 0, .slice none 0 0]
def newE (t wn sb : Int) : Int := if good t wn sb then 0 else 2
def newR (t wn sb : Int) : List Value := if good t wn sb then rcells t wn sb else rcells 0 0 0
set_option maxHeartbeats 1000000 in
set_option maxRecDepth 100000 in
theorem refNew_any (t wn sb : Int) (w : World) : Calls Try.prog 9 #[.int .i64 t, .int .u64 wn, .int .i64 sb] w fun e w' => e = .returned (.tuple #[.agg (newR t wn sb).toArray, .int .i64 (newE t wn sb)]) ∧ Below w.heap.size w w' := by
  unfold newR newE
  by_cases hg : good t wn sb
  · rw [if_pos hg, if_pos hg]
    obtain ⟨h1, h2, h3, h4, h5⟩ := hg
    have h1' : ¬ t < 1 := by omega
    have h2' : ¬ 1000000 < t := by omega
    have h3' : (wn == 0) = false := by simpa using h3
    have h4' : ¬ sb < 1 := by omega
    have h5' : ¬ 4096 < sb := by omega
    clear h1 h2 h3 h4 h5
    go_enter Try.func9, Try.ntmps9
    go_wp2
    exact bodyPost_ret (results_cell_two rfl _ _ w.heap.size 32 _ (0, 0) _ rfl (heap_alloc_new w _) Try.underlying32 (by kernel_rfl)) rfl ⟨rfl, below_new w _⟩
  · rw [if_neg hg, if_neg hg]
    by_cases h1 : t < 1
    · clear hg
      go_enter Try.func9, Try.ntmps9
      go_wp2
      exact bodyPost_ret (results_cell_two rfl _ _ w.heap.size 32 _ (0, 0) _ rfl (heap_alloc_new w _) Try.underlying32 (by kernel_rfl)) rfl ⟨rfl, below_new w _⟩
    · by_cases h2 : 1000000 < t
      · clear hg
        go_enter Try.func9, Try.ntmps9
        go_wp2
        exact bodyPost_ret (results_cell_two rfl _ _ w.heap.size 32 _ (0, 0) _ rfl (heap_alloc_new w _) Try.underlying32 (by kernel_rfl)) rfl ⟨rfl, below_new w _⟩
      · by_cases h3 : wn = 0
        · subst h3
          clear hg
          go_enter Try.func9, Try.ntmps9
          go_wp2
          exact bodyPost_ret (results_cell_two rfl _ _ w.heap.size 32 _ (0, 0) _ rfl (heap_alloc_new w _) Try.underlying32 (by kernel_rfl)) rfl ⟨rfl, below_new w _⟩
        · have h3' : (wn == 0) = false := by simpa using h3
          by_cases h4 : sb < 1
          · clear hg h3
            go_enter Try.func9, Try.ntmps9
            go_wp2
            exact bodyPost_ret (results_cell_two rfl _ _ w.heap.size 32 _ (0, 0) _ rfl (heap_alloc_new w _) Try.underlying32 (by kernel_rfl)) rfl ⟨rfl, below_new w _⟩
          · have h5 : 4096 < sb := by
              refine Int.not_le.1 fun h5 => hg ⟨?_, ?_, h3, ?_, h5⟩ <;> omega
            clear hg h3
            go_enter Try.func9, Try.ntmps9
            go_wp2
            exact bodyPost_ret (results_cell_two rfl _ _ w.heap.size 32 _ (0, 0) _ rfl (heap_alloc_new w _) Try.underlying32 (by kernel_rfl)) rfl ⟨rfl, below_new w _⟩
/-- A story as a value. -/
def sval (t wn sb : Int) (v : Value) : Value := .agg #[.int .i64 t, .int .u64 wn, .int .i64 sb, v]
set_option maxHeartbeats 1000000 in
set_option maxRecDepth 100000 in
theorem made_bad (t wn sb : Int) (ao : Option Addr) (n c : Nat) (w : World) (h : ¬ good t wn sb) : Calls Try.prog 13 #[sval t wn sb (.slice ao n c)] w fun e w' => e = .returned (.pointer none) ∧ Below w.heap.size w w' := by
  have HR : Hid (∀ W, Calls Try.prog 9 #[.int .i64 t, .int .u64 wn, .int .i64 sb] W fun e w' => e = .returned (.tuple #[.agg #[.int .i64 0, .int .u64 0, .int .i64 0, .int .u64 0, .slice none 0 0], .int .i64 2]) ∧ Below W.heap.size W w') := hide fun W => by
    have := refNew_any t wn sb W
    unfold newR newE at this
    rw [if_neg h, if_neg h] at this
    exact this
  have HB := hide (Bl.new w #[.int .i64 t, .int .u64 wn, .int .i64 sb, .slice ao n c] 25)
  have HBN := hide (below_new w (.cells #[.int .i64 t, .int .u64 wn, .int .i64 sb, .slice ao n c] 25))
  clear h
  unfold sval
  go_enter Try.func13, Try.ntmps13
  go_wp2_with (first
    | (go_at_call 9; refine (HR.out _).mono ?_; rintro e w1 ⟨rfl, h1⟩; have H1 := hide h1; clear h1))
  go_ret
  exact ⟨rfl, HBN.out.trans ((H1.out.mono HBN.out.size).trans ((below_new _ _).mono (Nat.le_trans HBN.out.size H1.out.size)))⟩
set_option maxHeartbeats 1000000 in
set_option maxRecDepth 100000 in
theorem made_any (t wn sb : Nat) (ao : Option Addr) (n c : Nat) (w : World) (h : 1 ≤ t ∧ t ≤ 1000000 ∧ 1 ≤ wn ∧ wn < 18446744073709551616 ∧ 1 ≤ sb ∧ sb ≤ 4096) : Calls Try.prog 13 #[sval t wn sb (.slice ao n c)] w fun e w' => ∃ lp, e = .returned (pf lp) ∧ Mine [] w w' lp (fresh t wn sb) := by
  have HR : Hid (∀ W, Calls Try.prog 9 #[.int .i64 t, .int .u64 wn, .int .i64 sb] W fun e w' => e = .returned (.tuple #[.agg #[.int .i64 t, .int .u64 wn, .int .i64 sb, .int .u64 0, .slice none 0 0], .int .i64 0]) ∧ Below W.heap.size W w') := hide fun W => by
    have hg : good (t : Int) wn sb := ⟨by omega, by omega, by omega, by omega, by omega⟩
    have := refNew_any t wn sb W
    unfold newR newE at this
    rw [if_pos hg, if_pos hg] at this
    exact this
  have HN : Hid (∀ W, Below w.heap.size w W → Calls Try.prog 8 #[.int .i64 (t : Int), .int .u64 (wn : Int), .int .i64 (sb : Int)] W fun e w' => ∃ lp, e = .returned (.tuple #[pf lp, .int .i64 0]) ∧ Mine [] w w' lp (fresh t wn sb) ∧ Below W.heap.size W w') := hide fun W hW => new_g [] w t wn sb W h hW (fun b hb => by cases hb)
  have HB := hide (Bl.new w #[.int .i64 (t : Int), .int .u64 (wn : Int), .int .i64 (sb : Int), .slice ao n c] 25)
  have HBN := hide (below_new w (.cells #[.int .i64 (t : Int), .int .u64 (wn : Int), .int .i64 (sb : Int), .slice ao n c] 25))
  clear h
  unfold sval pf at *
  go_enter Try.func13, Try.ntmps13
  go_upto_region 1 with fail
  obtain ⟨N, hN⟩ : ∃ N, N = w.heap.size := ⟨_, rfl⟩
  rw [← hN] at HB ⊢
  clear hN
  generalize w.alloc (.cells #[.int .i64 (t : Int), .int .u64 (wn : Int), .int .i64 (sb : Int), .slice ao n c] 25) = u at *
  have b0 : u.cell? ⟨N, 0, none⟩ = some (.int .i64 (t : Int)) := HB.out.cell 0
  have b1 : u.cell? ⟨N, 1, none⟩ = some (.int .u64 (wn : Int)) := HB.out.cell 1
  have b2 : u.cell? ⟨N, 2, none⟩ = some (.int .i64 (sb : Int)) := HB.out.cell 2
  go_upto_region 2 with (first
    | (go_at_call 9; refine (HR.out _).mono ?_; rintro e w1 ⟨rfl, h1⟩; have H1 := hide h1; have HB1 := hide (HB.out.keep h1); have HB2 : Hid (Below w.heap.size w w1) := hide (HBN.out.trans (h1.mono HBN.out.size)); clear h1 b0 b1 b2))
  have HB3 := hide (HB1.out.alloc (.cells #[.int .i64 (t : Int), .int .u64 (wn : Int), .int .i64 (sb : Int), .int .u64 0, .slice none 0 0] 32))
  have HW3 := hide (HB2.out.trans ((below_new w1 (.cells #[.int .i64 (t : Int), .int .u64 (wn : Int), .int .i64 (sb : Int), .int .u64 0, .slice none 0 0] 32)).mono HB2.out.size))
  generalize w1.alloc (.cells #[.int .i64 (t : Int), .int .u64 (wn : Int), .int .i64 (sb : Int), .int .u64 0, .slice none 0 0] 32) = w3 at *
  have b0 : w3.cell? ⟨N, 0, none⟩ = some (.int .i64 (t : Int)) := HB3.out.cell 0
  have b1 : w3.cell? ⟨N, 1, none⟩ = some (.int .u64 (wn : Int)) := HB3.out.cell 1
  have b2 : w3.cell? ⟨N, 2, none⟩ = some (.int .i64 (sb : Int)) := HB3.out.cell 2
  go_wp2_with (first
    | (go_at_call 8; refine (HN.out _ HW3.out).mono ?_; rintro e w2 ⟨lp, rfl, h2, _⟩; have H2 := hide h2; clear h2))
  go_ret
  exact ⟨lp, rfl, H2.out⟩
end Go.Proofs.Ytbhlciaigadlkaa
