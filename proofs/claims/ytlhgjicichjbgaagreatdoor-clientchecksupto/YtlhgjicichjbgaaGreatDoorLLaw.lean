/- The law's ours and theirs: a client as the document has it, and back, in memory of its own. -/
import Derived.Test.YtlhgjicichjbgaaGreatDoorLCopied
import Derived.Test.YtlhgjicichjbgaaGreatDoorAppStrs
import Derived.Deep.RegionHeldLaw
namespace Go.Proofs.YtlhgjicichjbgaaGreatDoor
open Go.RowKit

/-- Six cells in a block. -/
def D6 (w : World) (N : Nat) (v0 v1 v2 v3 v4 v5 : Value) : Prop := w.heap[N]? = some (.cells #[v0, v1, v2, v3, v4, v5] 30 (0, 0))
def putD (w : World) (N : Nat) (v0 v1 v2 v3 v4 v5 : Value) : World := (((((w.setCell ⟨N, 0, none⟩ v0).setCell ⟨N, 1, none⟩ v1).setCell ⟨N, 2, none⟩ v2).setCell ⟨N, 3, none⟩ v3).setCell ⟨N, 4, none⟩ v4).setCell ⟨N, 5, none⟩ v5
theorem D6.new (w : World) : D6 (w.alloc (.cells #[.string { data := #[] }, .string { data := #[] }, .int .i64 0, .bool false, .string { data := #[] }, .slice none 0 0] 30)) w.heap.size (.string { data := #[] }) (.string { data := #[] }) (.int .i64 0) (.bool false) (.string { data := #[] }) (.slice none 0 0) := heap_alloc_new w _
theorem D6.lt {w : World} {N : Nat} {v0 v1 v2 v3 v4 v5 : Value} (h : D6 w N v0 v1 v2 v3 v4 v5) : N < w.heap.size := (Array.getElem?_eq_some_iff.1 h).1
theorem D6.keep {w w' : World} {N B : Nat} {v0 v1 v2 v3 v4 v5 : Value} (h : D6 w N v0 v1 v2 v3 v4 v5) (hb : Below B w w') (hB : N < B) : D6 w' N v0 v1 v2 v3 v4 v5 := (hb.block N hB).trans h
theorem D6.cells {w : World} {N : Nat} {v0 v1 v2 v3 v4 v5 : Value} (h : D6 w N v0 v1 v2 v3 v4 v5) : w.cell? ⟨N, 0, none⟩ = some v0 ∧ w.cell? ⟨N, 1, none⟩ = some v1 ∧ w.cell? ⟨N, 2, none⟩ = some v2 ∧ w.cell? ⟨N, 3, none⟩ = some v3 ∧ w.cell? ⟨N, 4, none⟩ = some v4 ∧ w.cell? ⟨N, 5, none⟩ = some v5 := by
  refine ⟨?_, ?_, ?_, ?_, ?_, ?_⟩ <;> (rw [cell_of_row w N _ _ 30 (0, 0) h]; rfl)
theorem D6.frozen {w : World} {N : Nat} {v0 v1 v2 v3 v4 v5 : Value} (h : D6 w N v0 v1 v2 v3 v4 v5) (i : Nat) : w.frozen? ⟨N, i, none⟩ = false := by
  simp only [World.frozen?, show w.heap[N]? = _ from h]
  simp
theorem D6.thaw {w : World} {N : Nat} {v0 v1 v2 v3 v4 v5 : Value} (h : D6 w N v0 v1 v2 v3 v4 v5) : w.frozen? ⟨N, 0, none⟩ = false ∧ w.frozen? ⟨N, 1, none⟩ = false ∧ w.frozen? ⟨N, 2, none⟩ = false ∧ w.frozen? ⟨N, 3, none⟩ = false ∧ w.frozen? ⟨N, 4, none⟩ = false ∧ w.frozen? ⟨N, 5, none⟩ = false := ⟨h.frozen 0, h.frozen 1, h.frozen 2, h.frozen 3, h.frozen 4, h.frozen 5⟩
theorem D6.set {w : World} {N : Nat} {v0 v1 v2 v3 v4 v5 : Value} {u0 u1 u2 u3 u4 u5 : Value} (h : D6 w N v0 v1 v2 v3 v4 v5) (i : Nat) (v : Value) (he : ([v0, v1, v2, v3, v4, v5] : List Value).set i v = [u0, u1, u2, u3, u4, u5]) : D6 (w.setCell ⟨N, i, none⟩ v) N u0 u1 u2 u3 u4 u5 := by
  show _ = _
  rw [setCell_eq_setRow w N i _ _ _ _ h, setRow_heap w N _ _ _ _ h]
  congr 2
  apply Array.ext'
  simp only [Array.toList_setIfInBounds]
  exact he
theorem D6.put {w : World} {N : Nat} {v0 v1 v2 v3 v4 v5 : Value} (h : D6 w N v0 v1 v2 v3 v4 v5) (u0 u1 u2 u3 u4 u5 : Value) : D6 (putD w N u0 u1 u2 u3 u4 u5) N u0 u1 u2 u3 u4 u5 :=
  (((((h.set 0 u0 rfl).set 1 u1 rfl).set 2 u2 rfl).set 3 u3 rfl).set 4 u4 rfl).set 5 u5 rfl
theorem putD_grown (w : World) (N : Nat) (u0 u1 u2 u3 u4 u5 : Value) : w.grownBy (putD w N u0 u1 u2 u3 u4 u5) (some N) :=
  (((((grown_set w N 0 u0).trans (grown_set _ N 1 u1)).trans (grown_set _ N 2 u2)).trans (grown_set _ N 3 u3)).trans (grown_set _ N 4 u4)).trans (grown_set _ N 5 u5)
theorem d6_results1 {fn : Func} {slot N : Nat} (h : fn.results = #[.cell slot 30]) {tmps : Array Value} (hs : tmps.getD slot undef = .pointer (some ⟨N, 0, none⟩)) {w : World} {v0 v1 v2 v3 v4 v5 : Value} (hb : D6 w N v0 v1 v2 v3 v4 v5) : (results fn tmps).run Tryz.prog w = .ok (.agg #[v0, v1, v2, v3, v4, v5]) w := by
  obtain ⟨j0, j1, j2, j3, j4, j5⟩ := hb.cells
  have hs' : tmps[slot]?.getD undef = .pointer (some ⟨N, 0, none⟩) := by simpa using hs
  simp [results, h, go_sem, hs', j0, j1, j2, j3, j4, j5]
theorem law_appS {w : World} {ops : Array Oper} {o : Oper} {a : Act} {K : Act → World → Prop} {Q : Exit → Act → World → Prop} {E : Prop} {i0 : TypeInfo} (hgd : o.guard = none) (s x : Operand)
    (ho : o.op = .call { callee := .builtin .append, args := #[s, x], argTypes := #[25, 25] }) (hi : Tryz.prog.info? 9 = some i0) (hz0 : i0.zero = some (.string { data := #[] })) (hz1 : i0.size = 1) (hz2 : i0.bytes = 16)
    (B : Nat) (v : Value) (r : List U) (hs : a.eval s = v) (hown : SOwn w B v [])
    (ao : Option Addr) (n c : Nat) (hn : n = r.length) (hx : a.eval x = .slice ao n c) (hr : SRow w ao r) (hsz : n * 16 ≤ 140737488355328) (hB : B ≤ w.heap.size)
    (h : ∀ fo fc w', SOwn w' B (.slice fo n fc) r → w.grownBy w' v.ownBlock → K (a.put o.dst (.slice fo n fc)) w') : if Region.wanted o (yielded ops a.tmps) = true then Oper.wp Tryz.prog o a w K Q else E := by
  rw [if_pos (by simp [Region.wanted, hgd])]
  obtain ⟨v', w', hrun, h1, h2⟩ := run_append_strs hi hz0 hz1 hz2 hown ao c hr (by rw [← hn]; simpa using hsz) hB o.type
  rw [List.nil_append] at h1
  obtain ⟨fo, fc, e, _⟩ := h1.shape
  rw [← hn] at e
  subst e
  subst hn
  unfold Oper.wp
  simp [execOp, ho, resolve, invoke, builtin, hs, hx, hrun, Result.andThen]
  exact h fo fc w' h1 h2
set_option maxHeartbeats 2000000 in
set_option maxRecDepth 100000 in
theorem ours_any (id secret url : ByteArray) (gr : Int) (pg : Bool) (l : List U) (so : Option Addr) (n cp : Nat) (w : World) (hn : n = l.length) (hl : n * 16 ≤ 140737488355328) (hr : SRow w so l) :
    Calls Tryz.prog 13 #[.agg #[.string id, .string secret, .int .i64 gr, .bool pg, .string url, .slice so n cp]] w fun e w' => True ∧ CpEnd w id secret gr pg url l e w' := by
  have HN : Hid (n = l.length) := hn
  have HR : Hid (SRow w so l) := hr
  obtain ⟨i0, hi, hz0, hz1, hz2⟩ := info_parts infoStr
  clear hn hr
  go_enter Tryz.func13, Tryz.ntmps13
  go_upto_region 1 with fail
  have HBX : Hid (Below w.heap.size w ((w.alloc (.cells #[.string id, .string secret, .int .i64 gr, .bool pg, .string url, .slice so n cp] 27)).alloc (.cells #[.string { data := #[] }, .string { data := #[] }, .int .i64 0, .bool false, .string { data := #[] }, .slice none 0 0] 30))) := (below_new w _).trans ((below_new _ _).mono (by simp))
  have HC : Hid (C6 ((w.alloc (.cells #[.string id, .string secret, .int .i64 gr, .bool pg, .string url, .slice so n cp] 27)).alloc (.cells #[.string { data := #[] }, .string { data := #[] }, .int .i64 0, .bool false, .string { data := #[] }, .slice none 0 0] 30)) w.heap.size (.string id) (.string secret) (.int .i64 gr) (.bool pg) (.string url) (.slice so n cp)) := C6.keep (heap_alloc_new w _) (below_new _ _) (by simp)
  have HZ : Hid (D6 ((w.alloc (.cells #[.string id, .string secret, .int .i64 gr, .bool pg, .string url, .slice so n cp] 27)).alloc (.cells #[.string { data := #[] }, .string { data := #[] }, .int .i64 0, .bool false, .string { data := #[] }, .slice none 0 0] 30)) (w.heap.size + 1) (.string { data := #[] }) (.string { data := #[] }) (.int .i64 0) (.bool false) (.string { data := #[] }) (.slice none 0 0)) := by
    have h := D6.new (w.alloc (.cells #[.string id, .string secret, .int .i64 gr, .bool pg, .string url, .slice so n cp] 27))
    rw [show (w.alloc (.cells #[.string id, .string secret, .int .i64 gr, .bool pg, .string url, .slice so n cp] 27)).heap.size = w.heap.size + 1 by simp] at h
    exact h
  generalize ((w.alloc (.cells #[.string id, .string secret, .int .i64 gr, .bool pg, .string url, .slice so n cp] 27)).alloc (.cells #[.string { data := #[] }, .string { data := #[] }, .int .i64 0, .bool false, .string { data := #[] }, .slice none 0 0] 30)) = w1 at *
  have hs1 := HZ.out.lt
  have hs0 := HBX.out.size
  obtain ⟨c0, c1, c2, c3, c4, c5⟩ := HC.out.cells
  have HBD : Hid (Below w1.heap.size w1 (w1.drew.alloc (.cells #[] 9))) := Below.alloc (below_drewN (Below.refl _ _) 1) (Nat.le_refl _) _
  have HRW : Hid (SRow (w1.drew.alloc (.cells #[] 9)) so l) := (HR.out.keep HBX.out).keep (Below.alloc (below_drewN (Below.refl _ _) 1) (Nat.le_refl _) _)
  go_region_held_law (fun W => W.cell? ⟨w.heap.size, 0, none⟩ = some (.string id) ∧ W.cell? ⟨w.heap.size, 1, none⟩ = some (.string secret) ∧ W.cell? ⟨w.heap.size, 2, none⟩ = some (.int .i64 gr) ∧ W.cell? ⟨w.heap.size, 3, none⟩ = some (.bool pg) ∧ W.cell? ⟨w.heap.size, 4, none⟩ = some (.string url) ∧ W.cell? ⟨w.heap.size, 5, none⟩ = some (.slice so n cp)) (go_keep) (first | (refine law_appS rfl (.tmp 13) (.tmp 15) rfl hi hz0 hz1 hz2 w1.heap.size _ l rfl (sown_new _ _ (Nat.le_refl _)) so n cp HN.out rfl HRW.out hl (by simp) ?_; intro fo fc w3 hown3 hgr3; have HO3 := hide hown3; have HB3 : Hid (Below w1.heap.size w1 w3) := HBD.out.grown hgr3 (by simp) (fun k hk => by have e : w1.heap.size = k := Option.some.inj hk; omega); clear hown3 hgr3; obtain ⟨k0, k1, k2, k3, k4, k5⟩ := (HC.out.keep HB3.out (by omega)).cells; have HZ3 := hide (HZ.out.keep HB3.out hs1); obtain ⟨m0, m1, m2, m3, m4, m5⟩ := HZ3.out.cells; obtain ⟨z0, z1, z2, z3, z4, z5⟩ := HZ3.out.thaw))
  go_wp2
  refine bodyPost_ret (d6_results1 rfl rfl (HZ3.out.put _ _ _ _ _ _)) rfl ?_
  have hs3 := HB3.out.size
  refine ⟨trivial, fo, n, fc, rfl, ?_, ?_, (HBX.out.trans (HB3.out.mono (by omega))).trans (below_of_grown (putD_grown _ _ _ _ _ _ _ _) (by omega) (by omega))⟩
  · have hso := HO3.out.grown (putD_grown w3 (w.heap.size + 1) (.string id) (.string secret) (.int .i64 gr) (.bool pg) (.string url) (.slice fo n fc)) (by omega)
    obtain ⟨a', c', e, hle, _, _⟩ := hso.shape
    cases e
    exact ⟨HN.out, by rw [HN.out]; exact hle, hso.row, hso.ty⟩
  · intro a ha
    obtain ⟨a', c', e, _, _, hb⟩ := HO3.out.shape
    cases e
    have := hb a ha
    omega
set_option maxHeartbeats 2000000 in
set_option maxRecDepth 100000 in
theorem theirs_any (id secret url : ByteArray) (gr : Int) (pg : Bool) (l : List U) (so : Option Addr) (n cp : Nat) (w : World) (hn : n = l.length) (hl : n * 16 ≤ 140737488355328) (hr : SRow w so l) :
    Calls Tryz.prog 12 #[.agg #[.string id, .string secret, .int .i64 gr, .bool pg, .string url, .slice so n cp]] w fun e w' => True ∧ CpEnd w id secret gr pg url l e w' := by
  have HN : Hid (n = l.length) := hn
  have HR : Hid (SRow w so l) := hr
  obtain ⟨i0, hi, hz0, hz1, hz2⟩ := info_parts infoStr
  clear hn hr
  go_enter Tryz.func12, Tryz.ntmps12
  go_upto_region 1 with fail
  have HBX : Hid (Below w.heap.size w ((w.alloc (.cells #[.string id, .string secret, .int .i64 gr, .bool pg, .string url, .slice so n cp] 30)).alloc (.cells #[.string { data := #[] }, .string { data := #[] }, .int .i64 0, .bool false, .string { data := #[] }, .slice none 0 0] 27))) := (below_new w _).trans ((below_new _ _).mono (by simp))
  have HC : Hid (D6 ((w.alloc (.cells #[.string id, .string secret, .int .i64 gr, .bool pg, .string url, .slice so n cp] 30)).alloc (.cells #[.string { data := #[] }, .string { data := #[] }, .int .i64 0, .bool false, .string { data := #[] }, .slice none 0 0] 27)) w.heap.size (.string id) (.string secret) (.int .i64 gr) (.bool pg) (.string url) (.slice so n cp)) := D6.keep (heap_alloc_new w _) (below_new _ _) (by simp)
  have HZ : Hid (C6 ((w.alloc (.cells #[.string id, .string secret, .int .i64 gr, .bool pg, .string url, .slice so n cp] 30)).alloc (.cells #[.string { data := #[] }, .string { data := #[] }, .int .i64 0, .bool false, .string { data := #[] }, .slice none 0 0] 27)) (w.heap.size + 1) (.string { data := #[] }) (.string { data := #[] }) (.int .i64 0) (.bool false) (.string { data := #[] }) (.slice none 0 0)) := by
    have h := C6.new (w.alloc (.cells #[.string id, .string secret, .int .i64 gr, .bool pg, .string url, .slice so n cp] 30))
    rw [show (w.alloc (.cells #[.string id, .string secret, .int .i64 gr, .bool pg, .string url, .slice so n cp] 30)).heap.size = w.heap.size + 1 by simp] at h
    exact h
  generalize ((w.alloc (.cells #[.string id, .string secret, .int .i64 gr, .bool pg, .string url, .slice so n cp] 30)).alloc (.cells #[.string { data := #[] }, .string { data := #[] }, .int .i64 0, .bool false, .string { data := #[] }, .slice none 0 0] 27)) = w1 at *
  have hs1 := HZ.out.lt
  have hs0 := HBX.out.size
  obtain ⟨c0, c1, c2, c3, c4, c5⟩ := HC.out.cells
  have HBD : Hid (Below w1.heap.size w1 (w1.drew.alloc (.cells #[] 9))) := Below.alloc (below_drewN (Below.refl _ _) 1) (Nat.le_refl _) _
  have HRW : Hid (SRow (w1.drew.alloc (.cells #[] 9)) so l) := (HR.out.keep HBX.out).keep (Below.alloc (below_drewN (Below.refl _ _) 1) (Nat.le_refl _) _)
  go_region_held_law (fun W => W.cell? ⟨w.heap.size, 0, none⟩ = some (.string id) ∧ W.cell? ⟨w.heap.size, 1, none⟩ = some (.string secret) ∧ W.cell? ⟨w.heap.size, 2, none⟩ = some (.int .i64 gr) ∧ W.cell? ⟨w.heap.size, 3, none⟩ = some (.bool pg) ∧ W.cell? ⟨w.heap.size, 4, none⟩ = some (.string url) ∧ W.cell? ⟨w.heap.size, 5, none⟩ = some (.slice so n cp)) (go_keep) (first | (refine law_appS rfl (.tmp 13) (.tmp 15) rfl hi hz0 hz1 hz2 w1.heap.size _ l rfl (sown_new _ _ (Nat.le_refl _)) so n cp HN.out rfl HRW.out hl (by simp) ?_; intro fo fc w3 hown3 hgr3; have HO3 := hide hown3; have HB3 : Hid (Below w1.heap.size w1 w3) := HBD.out.grown hgr3 (by simp) (fun k hk => by have e : w1.heap.size = k := Option.some.inj hk; omega); clear hown3 hgr3; obtain ⟨k0, k1, k2, k3, k4, k5⟩ := (HC.out.keep HB3.out (by omega)).cells; have HZ3 := hide (HZ.out.keep HB3.out hs1); obtain ⟨m0, m1, m2, m3, m4, m5⟩ := HZ3.out.cells; obtain ⟨z0, z1, z2, z3, z4, z5⟩ := HZ3.out.thaw))
  go_wp2
  refine bodyPost_ret (c6_results1 rfl rfl (HZ3.out.put _ _ _ _ _ _)) rfl ?_
  have hs3 := HB3.out.size
  refine ⟨trivial, fo, n, fc, rfl, ?_, ?_, (HBX.out.trans (HB3.out.mono (by omega))).trans (below_of_grown (putC_grown _ _ _ _ _ _ _ _) (by omega) (by omega))⟩
  · have hso := HO3.out.grown (putC_grown w3 (w.heap.size + 1) (.string id) (.string secret) (.int .i64 gr) (.bool pg) (.string url) (.slice fo n fc)) (by omega)
    obtain ⟨a', c', e, hle, _, _⟩ := hso.shape
    cases e
    exact ⟨HN.out, by rw [HN.out]; exact hle, hso.row, hso.ty⟩
  · intro a ha
    obtain ⟨a', c', e, _, _, hb⟩ := HO3.out.shape
    cases e
    have := hb a ha
    omega
end Go.Proofs.YtlhgjicichjbgaaGreatDoor
