/- The document's member. -/
import Derived.Test.YtlebockgdonceaaGreatDoorRPh
import Derived.Test.YtlebockgdonceaaGreatDoorREqual
import Derived.Deep.RegionHeldLaw
namespace Go.Proofs.YtlebockgdonceaaGreatDoor
open Go.RowKit

theorem got_results2 {fn : Func} {t slot N : Nat} (h : fn.results = #[.tmp t, .cell slot 41]) {tmps : Array Value} (hs : tmps.getD slot undef = .pointer (some ⟨N, 0, none⟩)) {w : World} {v0 v1 v2 v3 v4 v5 v6 : Value} (hb : Bl w N [v0, v1, v2, v3, v4, v5, v6] 41) : (results fn tmps).run Tryz.prog w = .ok (.tuple #[tmps.getD t undef, .agg #[v0, v1, v2, v3, v4, v5, v6]]) w := by
  have j0 : w.cell? ⟨N, 0, none⟩ = some v0 := hb.cell 0
  have j1 : w.cell? ⟨N, 1, none⟩ = some v1 := hb.cell 1
  have j2 : w.cell? ⟨N, 2, none⟩ = some v2 := hb.cell 2
  have j3 : w.cell? ⟨N, 3, none⟩ = some v3 := hb.cell 3
  have j4 : w.cell? ⟨N, 4, none⟩ = some v4 := hb.cell 4
  have j5 : w.cell? ⟨N, 5, none⟩ = some v5 := hb.cell 5
  have j6 : w.cell? ⟨N, 6, none⟩ = some v6 := hb.cell 6
  have hs' : tmps[slot]?.getD undef = .pointer (some ⟨N, 0, none⟩) := by simpa using hs
  simp [results, h, go_sem, hs', j0, j1, j2, j3, j4, j5, j6]
/-- What member answers. -/
def MbAns (o : Out By) (w : World) (ε : Ending) (w' : World) : Prop := match o with
  | .ok nm q => ε = .returned (.tuple #[.string (bstr nm), gotV 0 { data := #[] } (.slice none 0 0) (.slice none 0 0) q 0 0]) ∧ (∀ x ∈ nm, x < 256) ∧ Below w.heap.size w w'
  | .error e q => ε = .returned (.tuple #[.string { data := #[] }, badV e q]) ∧ Below w.heap.size w w'
theorem mb_ok {o : Out By} {t : By} {q : Nat} {w w' : World} (h : o = .ok t q) (ht : ∀ x ∈ t, x < 256) (hb : Below w.heap.size w w') : MbAns o w (.returned (.tuple #[.string (bstr t), gotV 0 { data := #[] } (.slice none 0 0) (.slice none 0 0) q 0 0])) w' := by
  rw [h]; exact ⟨rfl, ht, hb⟩
theorem mb_bad {o : Out By} {e q : Nat} {w w' : World} (h : o = .error e q) (hb : Below w.heap.size w w') : MbAns o w (.returned (.tuple #[.string { data := #[] }, badV e q])) w' := by
  rw [h]; exact ⟨rfl, hb⟩
/-- A Got in a block of its own. -/
def GB (w : World) (N : Nat) (k : Int) (t : ByteArray) (n i : Value) (a e p : Nat) : Prop := Bl w N (gotL k t n i a e p) 41
theorem GB.facts {w : World} {N : Nat} {k : Int} {t : ByteArray} {n i : Value} {a e p : Nat} (h : GB w N k t n i a e p) : w.cell? ⟨N, 0, none⟩ = some (.int .i64 k) ∧ w.cell? ⟨N, 1, none⟩ = some (.string t) ∧ w.cell? ⟨N, 2, none⟩ = some n ∧ w.cell? ⟨N, 3, none⟩ = some i ∧ w.cell? ⟨N, 4, none⟩ = some (.int .i64 (a : Int)) ∧ w.cell? ⟨N, 5, none⟩ = some (.int .i64 (e : Int)) ∧ w.cell? ⟨N, 6, none⟩ = some (.int .i64 (p : Int)) :=
  ⟨Bl.cell h 0, Bl.cell h 1, Bl.cell h 2, Bl.cell h 3, Bl.cell h 4, Bl.cell h 5, Bl.cell h 6⟩
theorem GB.keep {w w' : World} {N : Nat} {k : Int} {t : ByteArray} {n i : Value} {a e p : Nat} (h : GB w N k t n i a e p) (hb : Below w.heap.size w w') : GB w' N k t n i a e p := (hb.block N (Array.getElem?_eq_some_iff.1 h).1).trans h
theorem GB.new (w : World) (k : Int) (t : ByteArray) (n i : Value) (a e p : Nat) : GB (w.alloc (.cells #[.int .i64 k, .string t, n, i, .int .i64 (a : Int), .int .i64 (e : Int), .int .i64 (p : Int)] 41)) w.heap.size k t n i a e p := heap_alloc_new w _
set_option maxHeartbeats 4000000 in
set_option maxRecDepth 100000 in
theorem rmember_bad (s : ByteArray) (p : Nat) (v : Value) (w : World) (hp : ¬ (p < s.size ∧ bt (sbytes s) p = 34)) (hp2 : p ≤ s.size) (ns : List By) : Calls Tryz.prog 35 #[.string s, .int .i64 (p : Int), v] w fun ε w' => MbAns (nameAt (sbytes s) ns p) w ε w' := by
  have hsl := sbytes_length s
  have hix := str_index s
  have HMU := hide (rmust_any s p)
  have HBD := hide (fun e q w' => @mb_bad (nameAt (sbytes s) ns p) e q w w')
  have HNA : Hid (nameAt (sbytes s) ns p = if p < s.size then .error 40 p else .error 3 s.size) := hide (by
    unfold nameAt
    rw [hsl]
    by_cases h1 : p < s.size
    · rw [if_pos h1, if_pos h1, if_neg (fun h2 => hp ⟨h1, h2⟩)]
    · rw [if_neg h1, if_neg h1])
  have HGN := hide (GZ.new w)
  have HBN := hide (below_new w (.cells #[.int .i64 0, .string { data := #[] }, .slice none 0 0, .slice none 0 0, .int .i64 0, .int .i64 0, .int .i64 0] 41))
  generalize nameAt (sbytes s) ns p = R at *
  generalize sbytes s = l at *
  generalize hn : s.size = n at *
  clear hsl
  by_cases hin : p < n
  · have hin' : (p : Int) < (n : Int) := by omega
    have hge' : ¬ (n : Int) ≤ (p : Int) := by omega
    have hx : ∀ W, (Instr.index 9 (.string s) (.int .i64 (p : Int))).run Tryz.prog W = .ok (.int .u8 ((bt l p : Nat) : Int)) W := hix p hin
    have hne : bt l p ≠ 34 := fun h => hp ⟨hin, h⟩
    have hne' : (((bt l p : Nat) : Int) != 34) = true := by simp; omega
    rw [if_pos hin] at HMU HNA
    have HE := hide (HBD.out 40 p)
    unfold badV gotV at HMU HE
    generalize bt l p = c at *
    clear hin hix hp hne hp2
    go_enter Tryz.func35, Tryz.ntmps35
    go_wp2_with (go_at_call 30; refine (HMU.out _).mono ?_; rintro ε w5 ⟨rfl, h5⟩; have HG5 := hide (HGN.out.keep h5); have H5 := hide (HBN.out.trans (h5.mono HBN.out.size)); obtain ⟨⟨c0, c1, c2, c3, c4, c5, c6⟩, f0, f1, f2, f3, f4, f5, f6⟩ := HG5.out.facts; clear h5)
    refine bodyPost_ret (got_results2 rfl rfl (putG_bl HG5.out _ _ _ _ _ _ _)) rfl ?_
    exact HE.out _ HNA.out (H5.out.trans ((putG_but w5 w.heap.size _ _ _ _ _ _ _).below (Nat.le_refl _) H5.out.size))
  · have hin' : ¬ (p : Int) < (n : Int) := by omega
    have hge' : (n : Int) ≤ (p : Int) := by omega
    rw [if_neg hin] at HMU HNA
    have HE := hide (HBD.out 3 n)
    unfold badV gotV at HMU HE
    clear hin hix hp hp2
    go_enter Tryz.func35, Tryz.ntmps35
    go_wp2_with (go_at_call 30; refine (HMU.out _).mono ?_; rintro ε w5 ⟨rfl, h5⟩; have HG5 := hide (HGN.out.keep h5); have H5 := hide (HBN.out.trans (h5.mono HBN.out.size)); obtain ⟨⟨c0, c1, c2, c3, c4, c5, c6⟩, f0, f1, f2, f3, f4, f5, f6⟩ := HG5.out.facts; clear h5)
    refine bodyPost_ret (got_results2 rfl rfl (putG_bl HG5.out _ _ _ _ _ _ _)) rfl ?_
    exact HE.out _ HNA.out (H5.out.trans ((putG_but w5 w.heap.size _ _ _ _ _ _ _).below (Nat.le_refl _) H5.out.size))
end Go.Proofs.YtlebockgdonceaaGreatDoor
