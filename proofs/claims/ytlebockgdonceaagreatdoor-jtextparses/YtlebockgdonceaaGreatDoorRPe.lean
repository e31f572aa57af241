/- The document's bad and must: what is read up to a place, in a cell of the result's own. -/
import Derived.Test.YtlebockgdonceaaGreatDoorRPd
namespace Go.Proofs.YtlebockgdonceaaGreatDoor
open Go.RowKit

/-- A Got's cells. -/
def gotL (k : Int) (t : ByteArray) (n i : Value) (a e p : Nat) : List Value := [.int .i64 k, .string t, n, i, .int .i64 (a : Int), .int .i64 (e : Int), .int .i64 (p : Int)]
def gotV (k : Int) (t : ByteArray) (n i : Value) (a e p : Nat) : Value := .agg #[.int .i64 k, .string t, n, i, .int .i64 (a : Int), .int .i64 (e : Int), .int .i64 (p : Int)]
def badV (e p : Nat) : Value := gotV 0 { data := #[] } (.slice none 0 0) (.slice none 0 0) 0 e p
def zG : Obj := .cells #[.int .i64 0, .string { data := #[] }, .slice none 0 0, .slice none 0 0, .int .i64 0, .int .i64 0, .int .i64 0] 41
set_option maxRecDepth 100000 in
theorem rbad_any (e p : Nat) (w : World) : Calls Tryz.prog 16 #[.int .i64 (e : Int), .int .i64 (p : Int)] w fun ε w' => ε = .returned (badV e p) ∧ Below w.heap.size w w' := by
  unfold badV gotV
  go_enter Tryz.func16, Tryz.ntmps16
  go_wp2
  refine bodyPost_ret (v := .agg #[.int .i64 0, .string { data := #[] }, .slice none 0 0, .slice none 0 0, .int .i64 0, .int .i64 (e : Int), .int .i64 (p : Int)]) (by simp [results, Tryz.results16, go_sem]) rfl ?_
  exact ⟨rfl, below_new w _⟩
def gzL : List Value := [.int .i64 0, .string { data := #[] }, .slice none 0 0, .slice none 0 0, .int .i64 0, .int .i64 0, .int .i64 0]
/-- A Got's block, with nothing in it yet. -/
def GZ (w : World) (N : Nat) : Prop := Bl w N gzL 41
theorem GZ.new (w : World) : GZ (w.alloc (.cells #[.int .i64 0, .string { data := #[] }, .slice none 0 0, .slice none 0 0, .int .i64 0, .int .i64 0, .int .i64 0] 41)) w.heap.size := heap_alloc_new w _
theorem GZ.keep {w w' : World} {N : Nat} (h : GZ w N) (hb : Below w.heap.size w w') : GZ w' N := (hb.block N (Array.getElem?_eq_some_iff.1 h).1).trans h
theorem GZ.lt {w : World} {N : Nat} (h : GZ w N) : N < w.heap.size := (Array.getElem?_eq_some_iff.1 h).1
/-- What the walk asks of such a block. -/
theorem GZ.facts {w : World} {N : Nat} (h : GZ w N) : (w.cell? ⟨N, 0, none⟩ = some (.int .i64 0) ∧ w.cell? ⟨N, 1, none⟩ = some (.string { data := #[] }) ∧ w.cell? ⟨N, 2, none⟩ = some (.slice none 0 0) ∧ w.cell? ⟨N, 3, none⟩ = some (.slice none 0 0) ∧ w.cell? ⟨N, 4, none⟩ = some (.int .i64 0) ∧ w.cell? ⟨N, 5, none⟩ = some (.int .i64 0) ∧ w.cell? ⟨N, 6, none⟩ = some (.int .i64 0)) ∧ w.frozen? ⟨N, 0, none⟩ = false ∧ w.frozen? ⟨N, 1, none⟩ = false ∧ w.frozen? ⟨N, 2, none⟩ = false ∧ w.frozen? ⟨N, 3, none⟩ = false ∧ w.frozen? ⟨N, 4, none⟩ = false ∧ w.frozen? ⟨N, 5, none⟩ = false ∧ w.frozen? ⟨N, 6, none⟩ = false :=
  ⟨⟨Bl.cell h 0, Bl.cell h 1, Bl.cell h 2, Bl.cell h 3, Bl.cell h 4, Bl.cell h 5, Bl.cell h 6⟩, Bl.frozen h 0, Bl.frozen h 1, Bl.frozen h 2, Bl.frozen h 3, Bl.frozen h 4, Bl.frozen h 5, Bl.frozen h 6⟩
/-- A Got laid into its block. -/
def putG (w : World) (N : Nat) (v0 v1 v2 v3 v4 v5 v6 : Value) : World := ((((((w.setCell ⟨N, 0, none⟩ v0).setCell ⟨N, 1, none⟩ v1).setCell ⟨N, 2, none⟩ v2).setCell ⟨N, 3, none⟩ v3).setCell ⟨N, 4, none⟩ v4).setCell ⟨N, 5, none⟩ v5).setCell ⟨N, 6, none⟩ v6
theorem putG_bl {w : World} {N : Nat} (h : GZ w N) (v0 v1 v2 v3 v4 v5 v6 : Value) : Bl (putG w N v0 v1 v2 v3 v4 v5 v6) N [v0, v1, v2, v3, v4, v5, v6] 41 :=
  ((((((Bl.set h 0 v0).set 1 v1).set 2 v2).set 3 v3).set 4 v4).set 5 v5).set 6 v6
theorem putG_but (w : World) (N : Nat) (v0 v1 v2 v3 v4 v5 v6 : Value) : But N w (putG w N v0 v1 v2 v3 v4 v5 v6) :=
  ((((((But.setCell N w 0 v0).trans (But.setCell N _ 1 v1)).trans (But.setCell N _ 2 v2)).trans (But.setCell N _ 3 v3)).trans (But.setCell N _ 4 v4)).trans (But.setCell N _ 5 v5)).trans (But.setCell N _ 6 v6)
theorem got_results {fn : Func} {slot N : Nat} (h : fn.results = #[.cell slot 41]) {tmps : Array Value} (hs : tmps.getD slot undef = .pointer (some ⟨N, 0, none⟩)) {w : World} {v0 v1 v2 v3 v4 v5 v6 : Value} (hb : Bl w N [v0, v1, v2, v3, v4, v5, v6] 41) : (results fn tmps).run Tryz.prog w = .ok (.agg #[v0, v1, v2, v3, v4, v5, v6]) w := by
  have j0 : w.cell? ⟨N, 0, none⟩ = some v0 := hb.cell 0
  have j1 : w.cell? ⟨N, 1, none⟩ = some v1 := hb.cell 1
  have j2 : w.cell? ⟨N, 2, none⟩ = some v2 := hb.cell 2
  have j3 : w.cell? ⟨N, 3, none⟩ = some v3 := hb.cell 3
  have j4 : w.cell? ⟨N, 4, none⟩ = some v4 := hb.cell 4
  have j5 : w.cell? ⟨N, 5, none⟩ = some v5 := hb.cell 5
  have j6 : w.cell? ⟨N, 6, none⟩ = some v6 := hb.cell 6
  have hs' : tmps[slot]?.getD undef = .pointer (some ⟨N, 0, none⟩) := by simpa using hs
  simp [results, h, go_sem, hs', j0, j1, j2, j3, j4, j5, j6]
set_option maxHeartbeats 400000 in
set_option maxRecDepth 100000 in
theorem rmust_any (s : ByteArray) (p : Nat) (w : World) : Calls Tryz.prog 30 #[.string s, .int .i64 (p : Int)] w fun ε w' => ε = .returned (if p < s.size then badV 40 p else badV 3 s.size) ∧ Below w.heap.size w w' := by
  have HGN := hide (GZ.new w)
  have HBN := hide (below_new w (.cells #[.int .i64 0, .string { data := #[] }, .slice none 0 0, .slice none 0 0, .int .i64 0, .int .i64 0, .int .i64 0] 41))
  generalize hn : s.size = n at *
  by_cases hp : p < n
  · rw [if_pos hp]
    have hp' : (p : Int) < (n : Int) := by omega
    have hp2 : ¬ (n : Int) ≤ (p : Int) := by omega
    have HB := hide (rbad_any 40 p)
    unfold badV gotV at *
    clear hp
    go_enter Tryz.func30, Tryz.ntmps30
    go_wp2_with (go_at_call 16; refine (HB.out _).mono ?_; rintro ε w1 ⟨rfl, h1⟩; have HG1 := hide (HGN.out.keep h1); have H1 := hide (HBN.out.trans (h1.mono HBN.out.size)); obtain ⟨⟨c0, c1, c2, c3, c4, c5, c6⟩, f0, f1, f2, f3, f4, f5, f6⟩ := HG1.out.facts; clear h1)
    refine bodyPost_ret (got_results rfl rfl (putG_bl HG1.out _ _ _ _ _ _ _)) rfl ?_
    exact ⟨rfl, H1.out.trans ((putG_but w1 w.heap.size _ _ _ _ _ _ _).below (Nat.le_refl _) H1.out.size)⟩
  · rw [if_neg hp]
    have hp' : ¬ (p : Int) < (n : Int) := by omega
    have hp2 : (n : Int) ≤ (p : Int) := by omega
    have HB := hide (rbad_any 3 n)
    unfold badV gotV at *
    clear hp
    go_enter Tryz.func30, Tryz.ntmps30
    go_wp2_with (go_at_call 16; refine (HB.out _).mono ?_; rintro ε w1 ⟨rfl, h1⟩; have HG1 := hide (HGN.out.keep h1); have H1 := hide (HBN.out.trans (h1.mono HBN.out.size)); obtain ⟨⟨c0, c1, c2, c3, c4, c5, c6⟩, f0, f1, f2, f3, f4, f5, f6⟩ := HG1.out.facts; clear h1)
    refine bodyPost_ret (got_results rfl rfl (putG_bl HG1.out _ _ _ _ _ _ _)) rfl ?_
    exact ⟨rfl, H1.out.trans ((putG_but w1 w.heap.size _ _ _ _ _ _ _).below (Nat.le_refl _) H1.out.size)⟩
end Go.Proofs.YtlebockgdonceaaGreatDoor
