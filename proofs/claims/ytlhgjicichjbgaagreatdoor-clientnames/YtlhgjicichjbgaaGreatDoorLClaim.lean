/- The program's claimOfForm, claimOf without a header, Authenticate. -/
import Derived.Test.YtlhgjicichjbgaaGreatDoorLHolds
import Derived.Test.YtlhgjicichjbgaaGreatDoorLFind
import Derived.Test.YtlhgjicichjbgaaGreatDoorOneFn
namespace Go.Proofs.YtlhgjicichjbgaaGreatDoor
open Go.RowKit

/-- Three cells in a block: a claim. -/
def K3 (w : World) (N : Nat) (v0 v1 v2 : Value) : Prop := w.heap[N]? = some (.cells #[v0, v1, v2] 100 (0, 0))
def putK (w : World) (N : Nat) (v0 v1 v2 : Value) : World := ((w.setCell ⟨N, 0, none⟩ v0).setCell ⟨N, 1, none⟩ v1).setCell ⟨N, 2, none⟩ v2
theorem K3.new (w : World) : K3 (w.alloc (.cells #[.int .i64 0, .string { data := #[] }, .string { data := #[] }] 100)) w.heap.size (.int .i64 0) (.string { data := #[] }) (.string { data := #[] }) := heap_alloc_new w _
theorem K3.lt {w : World} {N : Nat} {v0 v1 v2 : Value} (h : K3 w N v0 v1 v2) : N < w.heap.size := (Array.getElem?_eq_some_iff.1 h).1
theorem K3.keep {w w' : World} {N B : Nat} {v0 v1 v2 : Value} (h : K3 w N v0 v1 v2) (hb : Below B w w') (hB : N < B) : K3 w' N v0 v1 v2 := (hb.block N hB).trans h
theorem K3.cells {w : World} {N : Nat} {v0 v1 v2 : Value} (h : K3 w N v0 v1 v2) : w.cell? ⟨N, 0, none⟩ = some v0 ∧ w.cell? ⟨N, 1, none⟩ = some v1 ∧ w.cell? ⟨N, 2, none⟩ = some v2 := by
  refine ⟨?_, ?_, ?_⟩ <;> (rw [cell_of_row w N _ _ 100 (0, 0) h]; rfl)
theorem K3.thaw {w : World} {N : Nat} {v0 v1 v2 : Value} (h : K3 w N v0 v1 v2) : w.frozen? ⟨N, 0, none⟩ = false ∧ w.frozen? ⟨N, 1, none⟩ = false ∧ w.frozen? ⟨N, 2, none⟩ = false := by
  refine ⟨?_, ?_, ?_⟩ <;> (simp only [World.frozen?, show w.heap[N]? = _ from h]; simp)
theorem K3.set {w : World} {N : Nat} {v0 v1 v2 u0 u1 u2 : Value} (h : K3 w N v0 v1 v2) (i : Nat) (v : Value) (he : ([v0, v1, v2] : List Value).set i v = [u0, u1, u2]) : K3 (w.setCell ⟨N, i, none⟩ v) N u0 u1 u2 := by
  show _ = _
  rw [setCell_eq_setRow w N i _ _ _ _ h, setRow_heap w N _ _ _ _ h]
  congr 2
  apply Array.ext'
  simp only [Array.toList_setIfInBounds]
  exact he
theorem K3.put {w : World} {N : Nat} {v0 v1 v2 : Value} (h : K3 w N v0 v1 v2) (u0 u1 u2 : Value) : K3 (putK w N u0 u1 u2) N u0 u1 u2 := ((h.set 0 u0 rfl).set 1 u1 rfl).set 2 u2 rfl
theorem putK_grown (w : World) (N : Nat) (u0 u1 u2 : Value) : w.grownBy (putK w N u0 u1 u2) (some N) := ((grown_set w N 0 u0).trans (grown_set _ N 1 u1)).trans (grown_set _ N 2 u2)
theorem k3_results {fn : Func} {slot s2 N : Nat} (h : fn.results = #[.cell slot 100, .tmp s2]) {tmps : Array Value} (hs : tmps.getD slot undef = .pointer (some ⟨N, 0, none⟩)) {x : Value} (hx : tmps.getD s2 undef = x) {w : World} {v0 v1 v2 : Value} (hb : K3 w N v0 v1 v2) : (results fn tmps).run Tryz.prog w = .ok (.tuple #[.agg #[v0, v1, v2], x]) w := by
  obtain ⟨j0, j1, j2⟩ := hb.cells
  have hs' : tmps[slot]?.getD undef = .pointer (some ⟨N, 0, none⟩) := by simpa using hs
  have hx' : tmps[s2]?.getD undef = x := by simpa using hx
  simp [results, h, go_sem, hs', hx', j0, j1, j2]

def nId : List Nat := [99, 108, 105, 101, 110, 116, 95, 105, 100]
def nSec : List Nat := [99, 108, 105, 101, 110, 116, 95, 115, 101, 99, 114, 101, 116]
structure Clm where
  how : Int
  nm : ByteArray
  sec : ByteArray
  er : Nat
def badClm (e : Nat) : Clm := ⟨0, { data := #[] }, { data := #[] }, e⟩
/-- What a form says. -/
def formT (l : List Two) : Clm := if 1 < (ones nId l).2 then badClm 34 else if 1 < (ones nSec l).2 then badClm 34 else ⟨if (ones nSec l).1 = [] then 0 else 2, bstr (ones nId l).1, bstr (ones nSec l).1, 0⟩
def ClmEnd (w : World) (t : Clm) (e : Ending) (w' : World) : Prop := e = .returned (.tuple #[.agg #[.int .i64 t.how, .string t.nm, .string t.sec], .int .i64 (t.er : Int)]) ∧ Below w.heap.size w w'
set_option maxHeartbeats 1000000 in
set_option maxRecDepth 100000 in
theorem claimOfForm_any (n c : Nat) (ao : Option Addr) (l : List Two) (w : World) (hn : n = l.length) (hl : n ≤ 4398046511104) (hb : ∀ q ∈ l, bytes2 q) (hz : ∀ q ∈ l, q.2.length ≤ 281474976710656) (hr : PRow w ao l) :
    Calls Tryz.prog 105 #[.slice ao n c] w fun e w' => True ∧ ClmEnd w (formT l) e w' := by
  have HR : Hid (PRow w ao l) := hr
  have HBA : Hid (Below w.heap.size w (w.alloc (.cells #[.int .i64 0, .string { data := #[] }, .string { data := #[] }] 100))) := below_new w _
  have HK0 := hide (K3.new w)
  obtain ⟨x, i, hI⟩ : ∃ x i, ones nId l = (x, i) := ⟨_, _, rfl⟩
  obtain ⟨y, j, hJ⟩ : ∃ y j, ones nSec l = (y, j) := ⟨_, _, rfl⟩
  have HO1 : ∀ W, Below w.heap.size w W → Calls Tryz.prog 119 #[.slice ao n c, .string { data := #[99, 108, 105, 101, 110, 116, 95, 105, 100] }] W fun e w' => e = .returned (oneRes (x, i)) ∧ Below W.heap.size W w' := by
    intro W hW
    have h := one_any n c ao l { data := #[99, 108, 105, 101, 110, 116, 95, 105, 100] } W hn hl hb hz (HR.out.keep hW)
    rw [show sbytes { data := #[99, 108, 105, 101, 110, 116, 95, 105, 100] } = nId from rfl, hI] at h
    exact h
  have HO2 : ∀ W, Below w.heap.size w W → Calls Tryz.prog 119 #[.slice ao n c, .string { data := #[99, 108, 105, 101, 110, 116, 95, 115, 101, 99, 114, 101, 116] }] W fun e w' => e = .returned (oneRes (y, j)) ∧ Below W.heap.size W w' := by
    intro W hW
    have h := one_any n c ao l { data := #[99, 108, 105, 101, 110, 116, 95, 115, 101, 99, 114, 101, 116] } W hn hl hb hz (HR.out.keep hW)
    rw [show sbytes { data := #[99, 108, 105, 101, 110, 116, 95, 115, 101, 99, 114, 101, 116] } = nSec from rfl, hJ] at h
    exact h
  have HT : Hid (formT l = if 1 < i then badClm 34 else if 1 < j then badClm 34 else ⟨if y = [] then 0 else 2, bstr x, bstr y, 0⟩) := by show _ = _; unfold formT; rw [hI, hJ]
  obtain ⟨T, HTT⟩ : ∃ T, Hid (T = formT l) := ⟨_, hide rfl⟩
  rw [← HTT.out] at HT ⊢
  have HBW : ∀ w1, Below (w.alloc (.cells #[.int .i64 0, .string { data := #[] }, .string { data := #[] }] 100)).heap.size (w.alloc (.cells #[.int .i64 0, .string { data := #[] }, .string { data := #[] }] 100)) w1 → Below w.heap.size w w1 := fun w1 h => HBA.out.trans (h.mono HBA.out.size)
  clear hn hb hz hr hI hJ HTT
  by_cases h1 : 1 < i
  · have HTE : Hid (T = badClm 34) := by show _ = _; rw [HT.out, if_pos h1]
    rw [show oneRes (x, i) = .tuple #[.string { data := #[] }, .bool false, .int .i64 34] by unfold oneRes; rw [if_pos h1]] at HO1
    clear h1 HT
    go_enter Tryz.func105, Tryz.ntmps105
    go_wp2_with (first | (go_at_call 119; refine (HO1 _ HBA.out).mono ?_))
    rintro e w1 ⟨rfl, hb1⟩
    have HB1 := hide (HBW w1 hb1)
    have HK1 := hide (HK0.out.keep hb1 (by simp))
    obtain ⟨d0, d1, d2⟩ := HK1.out.cells
    obtain ⟨f0, f1, f2⟩ := HK1.out.thaw
    have hs1 := HK1.out.lt
    clear hb1 HO1 HO2 HBW
    go_wp2
    refine bodyPost_ret (k3_results rfl rfl rfl (HK1.out.put _ _ _)) rfl ?_
    rw [HTE.out]
    exact ⟨trivial, rfl, HB1.out.trans (below_of_grown (putK_grown _ _ _ _ _) (Nat.le_refl _) (by omega))⟩
  · rw [show oneRes (x, i) = .tuple #[.string (bstr x), .bool (!x.isEmpty), .int .i64 0] by unfold oneRes; rw [if_neg h1]] at HO1
    by_cases h2 : 1 < j
    · have HTE : Hid (T = badClm 34) := by show _ = _; rw [HT.out, if_neg h1, if_pos h2]
      rw [show oneRes (y, j) = .tuple #[.string { data := #[] }, .bool false, .int .i64 34] by unfold oneRes; rw [if_pos h2]] at HO2
      clear h1 h2 HT
      generalize bstr x = xb at *
      generalize (!x.isEmpty) = xe at *
      go_enter Tryz.func105, Tryz.ntmps105
      go_wp2_with (first | (go_at_call 119; refine (HO1 _ HBA.out).mono ?_))
      rintro e w1 ⟨rfl, hb1⟩
      have HB1 := hide (HBW w1 hb1)
      have HK1 := hide (HK0.out.keep hb1 (by simp))
      clear hb1 HO1 HBW
      go_wp2_with (first | (go_at_call 119; refine (HO2 _ HB1.out).mono ?_))
      rintro e w2 ⟨rfl, hb2⟩
      have hs1 := HK1.out.lt
      have HB2 := hide (HB1.out.trans (hb2.mono (by omega)))
      have HK2 := hide (HK1.out.keep hb2 hs1)
      obtain ⟨d0, d1, d2⟩ := HK2.out.cells
      obtain ⟨f0, f1, f2⟩ := HK2.out.thaw
      have hs2 := HK2.out.lt
      clear hb2 HO2
      go_wp2
      refine bodyPost_ret (k3_results rfl rfl rfl (HK2.out.put _ _ _)) rfl ?_
      rw [HTE.out]
      exact ⟨trivial, rfl, HB2.out.trans (below_of_grown (putK_grown _ _ _ _ _) (Nat.le_refl _) (by omega))⟩
    · rw [show oneRes (y, j) = .tuple #[.string (bstr y), .bool (!y.isEmpty), .int .i64 0] by unfold oneRes; rw [if_neg h2]] at HO2
      obtain ⟨how, hho⟩ : ∃ how : Int, how = if y = [] then 0 else 2 := ⟨_, rfl⟩
      have HTE : Hid (T = ⟨how, bstr x, bstr y, 0⟩) := by show _ = _; rw [HT.out, if_neg h1, if_neg h2, hho]
      have hye : (y.isEmpty = true ∧ how = 0) ∨ (y.isEmpty = false ∧ how = 2) := by
        rw [hho]
        cases y with
        | nil => left; exact ⟨rfl, rfl⟩
        | cons => right; exact ⟨rfl, rfl⟩
      clear h1 h2 HT hho
      generalize bstr x = xb at *
      generalize bstr y = yb at *
      generalize (!x.isEmpty) = xe at *
      generalize y.isEmpty = ye at *
      rcases hye with ⟨rfl, rfl⟩ | ⟨rfl, rfl⟩
      all_goals
        go_enter Tryz.func105, Tryz.ntmps105
        go_wp2_with (first | (go_at_call 119; refine (HO1 _ HBA.out).mono ?_))
        rintro e w1 ⟨rfl, hb1⟩
        have HB1 := hide (HBW w1 hb1)
        have HK1 := hide (HK0.out.keep hb1 (by simp))
        clear hb1 HO1 HBW
        go_wp2_with (first | (go_at_call 119; refine (HO2 _ HB1.out).mono ?_))
        rintro e w2 ⟨rfl, hb2⟩
        have hs1 := HK1.out.lt
        have HB2 := hide (HB1.out.trans (hb2.mono (by omega)))
        have HK2 := hide (HK1.out.keep hb2 hs1)
        obtain ⟨d0, d1, d2⟩ := HK2.out.cells
        obtain ⟨f0, f1, f2⟩ := HK2.out.thaw
        have hs2 := HK2.out.lt
        clear hb2 HO2
        go_wp2
        refine bodyPost_ret (k3_results rfl rfl rfl (HK2.out.put _ _ _)) rfl ?_
        rw [HTE.out]
        exact ⟨trivial, rfl, HB2.out.trans (below_of_grown (putK_grown _ _ _ _ _) (Nat.le_refl _) (by omega))⟩
end Go.Proofs.YtlhgjicichjbgaaGreatDoor
