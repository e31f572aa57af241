/- The law's ours and theirs: a client as the document has it, and back, in memory of its own. The law's all and copied: lists of clients as the document has them, and in memory of their own. The law's same and list, where both sides are one; the document's Find. The law's list, where both sides are one; the document's Find. The law's spoil, of one client whose list of scopes is its own. -/
import Derived.Test.YtjehbdekipmllaaGreatDoorLRow
import Derived.Test.YtjehbdekipmllaaGreatDoorXApp
import Derived.Deep.RegionHeldLaw
import Derived.BigQuiet
import Derived.Deep.RegionHeld3
namespace Go.Proofs.YtjehbdekipmllaaGreatDoor
open Go.RowKit

/-- Six cells in a block. -/
def D6 (w : World) (N : Nat) (v0 v1 v2 v3 v4 v5 : Value) : Prop := w.heap[N]? = some (.cells #[v0, v1, v2, v3, v4, v5] 50 (0, 0))
def putD (w : World) (N : Nat) (v0 v1 v2 v3 v4 v5 : Value) : World := (((((w.setCell ⟨N, 0, none⟩ v0).setCell ⟨N, 1, none⟩ v1).setCell ⟨N, 2, none⟩ v2).setCell ⟨N, 3, none⟩ v3).setCell ⟨N, 4, none⟩ v4).setCell ⟨N, 5, none⟩ v5
theorem D6.new (w : World) : D6 (w.alloc (.cells #[.string { data := #[] }, .string { data := #[] }, .int .i64 0, .bool false, .string { data := #[] }, .slice none 0 0] 50)) w.heap.size (.string { data := #[] }) (.string { data := #[] }) (.int .i64 0) (.bool false) (.string { data := #[] }) (.slice none 0 0) := heap_alloc_new w _
theorem D6.lt {w : World} {N : Nat} {v0 v1 v2 v3 v4 v5 : Value} (h : D6 w N v0 v1 v2 v3 v4 v5) : N < w.heap.size := (Array.getElem?_eq_some_iff.1 h).1
theorem D6.keep {w w' : World} {N B : Nat} {v0 v1 v2 v3 v4 v5 : Value} (h : D6 w N v0 v1 v2 v3 v4 v5) (hb : Below B w w') (hB : N < B) : D6 w' N v0 v1 v2 v3 v4 v5 := (hb.block N hB).trans h
theorem D6.cells {w : World} {N : Nat} {v0 v1 v2 v3 v4 v5 : Value} (h : D6 w N v0 v1 v2 v3 v4 v5) : w.cell? ⟨N, 0, none⟩ = some v0 ∧ w.cell? ⟨N, 1, none⟩ = some v1 ∧ w.cell? ⟨N, 2, none⟩ = some v2 ∧ w.cell? ⟨N, 3, none⟩ = some v3 ∧ w.cell? ⟨N, 4, none⟩ = some v4 ∧ w.cell? ⟨N, 5, none⟩ = some v5 := by
  refine ⟨?_, ?_, ?_, ?_, ?_, ?_⟩ <;> (rw [cell_of_row w N _ _ 50 (0, 0) h]; rfl)
theorem D6.frozen {w : World} {N : Nat} {v0 v1 v2 v3 v4 v5 : Value} (h : D6 w N v0 v1 v2 v3 v4 v5) (i : Nat) : w.frozen? ⟨N, i, none⟩ = false := by
  simp only [World.frozen?, show w.heap[N]? = _ from h]
  simp
theorem D6.thaw {w : World} {N : Nat} {v0 v1 v2 v3 v4 v5 : Value} (h : D6 w N v0 v1 v2 v3 v4 v5) : w.frozen? ⟨N, 0, none⟩ = false ∧ w.frozen? ⟨N, 1, none⟩ = false ∧ w.frozen? ⟨N, 2, none⟩ = false ∧ w.frozen? ⟨N, 3, none⟩ = false ∧ w.frozen? ⟨N, 4, none⟩ = false ∧ w.frozen? ⟨N, 5, none⟩ = false := ⟨h.frozen 0, h.frozen 1, h.frozen 2, h.frozen 3, h.frozen 4, h.frozen 5⟩
theorem D6.set {w : World} {N : Nat} {v0 v1 v2 v3 v4 v5 : Value} {u0 u1 u2 u3 u4 u5 : Value} (h : D6 w N v0 v1 v2 v3 v4 v5) (i : Nat) (v : Value) (he : ([v0, v1, v2, v3, v4, v5] : List Value).set i v = [u0, u1, u2, u3, u4, u5]) : D6 (w.setCell ⟨N, i, none⟩ v) N u0 u1 u2 u3 u4 u5 := by
  show _ = _
  rw [setCell_eq_setRow w N i _ _ _ _ h, setRow_heap w N _ _ _ _ h]
  congr 2
  apply Array.ext'
  simp only [Array.toList_setIfInBounds]
  exact he
theorem D6.put {w : World} {N : Nat} {v0 v1 v2 v3 v4 v5 : Value} (h : D6 w N v0 v1 v2 v3 v4 v5) (u0 u1 u2 u3 u4 u5 : Value) : D6 (putD w N u0 u1 u2 u3 u4 u5) N u0 u1 u2 u3 u4 u5 :=
  (((((h.set 0 u0 rfl).set 1 u1 rfl).set 2 u2 rfl).set 3 u3 rfl).set 4 u4 rfl).set 5 u5 rfl
theorem putD_grown (w : World) (N : Nat) (u0 u1 u2 u3 u4 u5 : Value) : w.grownBy (putD w N u0 u1 u2 u3 u4 u5) (some N) :=
  (((((grown_set w N 0 u0).trans (grown_set _ N 1 u1)).trans (grown_set _ N 2 u2)).trans (grown_set _ N 3 u3)).trans (grown_set _ N 4 u4)).trans (grown_set _ N 5 u5)
theorem d6_results1 {fn : Func} {slot N : Nat} (h : fn.results = #[.cell slot 50]) {tmps : Array Value} (hs : tmps.getD slot undef = .pointer (some ⟨N, 0, none⟩)) {w : World} {v0 v1 v2 v3 v4 v5 : Value} (hb : D6 w N v0 v1 v2 v3 v4 v5) : (results fn tmps).run Tryz.prog w = .ok (.agg #[v0, v1, v2, v3, v4, v5]) w := by
  obtain ⟨j0, j1, j2, j3, j4, j5⟩ := hb.cells
  have hs' : tmps[slot]?.getD undef = .pointer (some ⟨N, 0, none⟩) := by simpa using hs
  simp [results, h, go_sem, hs', j0, j1, j2, j3, j4, j5]
theorem law_appS {w : World} {ops : Array Oper} {o : Oper} {a : Act} {K : Act → World → Prop} {Q : Exit → Act → World → Prop} {E : Prop} {i0 : TypeInfo} (hgd : o.guard = none) (s x : Operand)
    (ho : o.op = .call { callee := .builtin .append, args := #[s, x], argTypes := #[44, 44] }) (hi : Tryz.prog.info? 9 = some i0) (hz0 : i0.zero = some (.string { data := #[] })) (hz1 : i0.size = 1) (hz2 : i0.bytes = 16)
    (B : Nat) (v : Value) (r : List U) (hs : a.eval s = v) (hown : SOwn w B v [])
    (ao : Option Addr) (n c : Nat) (hn : n = r.length) (hx : a.eval x = .slice ao n c) (hr : SRow w ao r) (hsz : n * 16 ≤ 140737488355328) (hB : B ≤ w.heap.size)
    (h : ∀ fo fc w', SOwn w' B (.slice fo n fc) r → w.grownBy w' v.ownBlock → K (a.put o.dst (.slice fo n fc)) w') : if Region.wanted o (yielded ops a.tmps) = true then Oper.wp Tryz.prog o a w K Q else E := by
  rw [if_pos (by simp [Region.wanted, hgd])]
  obtain ⟨v', w', hrun, h1, h2⟩ := run_append_strs hi hz0 hz1 hz2 hown ao c hr (by rw [← hn]; simpa using hsz) hB o.type
  rw [List.nil_append] at h1
  obtain ⟨fo, fc, e, _⟩ := h1.shape
  rw [← hn] at e
  subst e
  subst hn
  unfold Oper.wp
  simp [execOp, ho, resolve, invoke, builtin, hs, hx, hrun, Result.andThen]
  exact h fo fc w' h1 h2
set_option maxHeartbeats 2000000 in
set_option maxRecDepth 100000 in
theorem ours_any (id secret url : ByteArray) (gr : Int) (pg : Bool) (l : List U) (so : Option Addr) (n cp : Nat) (w : World) (hn : n = l.length) (hl : n * 16 ≤ 140737488355328) (hr : SRow w so l) :
    Calls Tryz.prog 26 #[.agg #[.string id, .string secret, .int .i64 gr, .bool pg, .string url, .slice so n cp]] w fun e w' => True ∧ CpEnd w id secret gr pg url l e w' := by
  have HN : Hid (n = l.length) := hn
  have HR : Hid (SRow w so l) := hr
  obtain ⟨i0, hi, hz0, hz1, hz2⟩ := info_parts infoStr
  clear hn hr
  go_enter Tryz.func26, Tryz.ntmps26
  go_upto_region 1 with fail
  have HBX : Hid (Below w.heap.size w ((w.alloc (.cells #[.string id, .string secret, .int .i64 gr, .bool pg, .string url, .slice so n cp] 47)).alloc (.cells #[.string { data := #[] }, .string { data := #[] }, .int .i64 0, .bool false, .string { data := #[] }, .slice none 0 0] 50))) := (below_new w _).trans ((below_new _ _).mono (by simp))
  have HC : Hid (C6 ((w.alloc (.cells #[.string id, .string secret, .int .i64 gr, .bool pg, .string url, .slice so n cp] 47)).alloc (.cells #[.string { data := #[] }, .string { data := #[] }, .int .i64 0, .bool false, .string { data := #[] }, .slice none 0 0] 50)) w.heap.size (.string id) (.string secret) (.int .i64 gr) (.bool pg) (.string url) (.slice so n cp)) := C6.keep (heap_alloc_new w _) (below_new _ _) (by simp)
  have HZ : Hid (D6 ((w.alloc (.cells #[.string id, .string secret, .int .i64 gr, .bool pg, .string url, .slice so n cp] 47)).alloc (.cells #[.string { data := #[] }, .string { data := #[] }, .int .i64 0, .bool false, .string { data := #[] }, .slice none 0 0] 50)) (w.heap.size + 1) (.string { data := #[] }) (.string { data := #[] }) (.int .i64 0) (.bool false) (.string { data := #[] }) (.slice none 0 0)) := by
    have h := D6.new (w.alloc (.cells #[.string id, .string secret, .int .i64 gr, .bool pg, .string url, .slice so n cp] 47))
    rw [show (w.alloc (.cells #[.string id, .string secret, .int .i64 gr, .bool pg, .string url, .slice so n cp] 47)).heap.size = w.heap.size + 1 by simp] at h
    exact h
  generalize ((w.alloc (.cells #[.string id, .string secret, .int .i64 gr, .bool pg, .string url, .slice so n cp] 47)).alloc (.cells #[.string { data := #[] }, .string { data := #[] }, .int .i64 0, .bool false, .string { data := #[] }, .slice none 0 0] 50)) = w1 at *
  have hs1 := HZ.out.lt
  have hs0 := HBX.out.size
  obtain ⟨c0, c1, c2, c3, c4, c5⟩ := HC.out.cells
  have HBD : Hid (Below w1.heap.size w1 (w1.drew.alloc (.cells #[] 9))) := Below.alloc (below_drewN (Below.refl _ _) 1) (Nat.le_refl _) _
  have HRW : Hid (SRow (w1.drew.alloc (.cells #[] 9)) so l) := (HR.out.keep HBX.out).keep (Below.alloc (below_drewN (Below.refl _ _) 1) (Nat.le_refl _) _)
  go_region_held_law (fun W => W.cell? ⟨w.heap.size, 0, none⟩ = some (.string id) ∧ W.cell? ⟨w.heap.size, 1, none⟩ = some (.string secret) ∧ W.cell? ⟨w.heap.size, 2, none⟩ = some (.int .i64 gr) ∧ W.cell? ⟨w.heap.size, 3, none⟩ = some (.bool pg) ∧ W.cell? ⟨w.heap.size, 4, none⟩ = some (.string url) ∧ W.cell? ⟨w.heap.size, 5, none⟩ = some (.slice so n cp)) (go_keep) (first | (refine law_appS rfl (.tmp 13) (.tmp 15) rfl hi hz0 hz1 hz2 w1.heap.size _ l rfl (sown_new _ _ (Nat.le_refl _)) so n cp HN.out rfl HRW.out hl (by simp) ?_; intro fo fc w3 hown3 hgr3; have HO3 := hide hown3; have HB3 : Hid (Below w1.heap.size w1 w3) := HBD.out.grown hgr3 (by simp) (fun k hk => by have e : w1.heap.size = k := Option.some.inj hk; omega); clear hown3 hgr3; obtain ⟨k0, k1, k2, k3, k4, k5⟩ := (HC.out.keep HB3.out (by omega)).cells; have HZ3 := hide (HZ.out.keep HB3.out hs1); obtain ⟨m0, m1, m2, m3, m4, m5⟩ := HZ3.out.cells; obtain ⟨z0, z1, z2, z3, z4, z5⟩ := HZ3.out.thaw))
  go_wp2
  refine bodyPost_ret (d6_results1 rfl rfl (HZ3.out.put _ _ _ _ _ _)) rfl ?_
  have hs3 := HB3.out.size
  refine ⟨trivial, fo, n, fc, rfl, ?_, ?_, (HBX.out.trans (HB3.out.mono (by omega))).trans (below_of_grown (putD_grown _ _ _ _ _ _ _ _) (by omega) (by omega))⟩
  · have hso := HO3.out.grown (putD_grown w3 (w.heap.size + 1) (.string id) (.string secret) (.int .i64 gr) (.bool pg) (.string url) (.slice fo n fc)) (by omega)
    obtain ⟨a', c', e, hle, _, _⟩ := hso.shape
    cases e
    exact ⟨HN.out, by rw [HN.out]; exact hle, hso.row, hso.ty⟩
  · intro a ha
    obtain ⟨a', c', e, _, _, hb⟩ := HO3.out.shape
    cases e
    have := hb a ha
    omega
set_option maxHeartbeats 2000000 in
set_option maxRecDepth 100000 in
theorem theirs_any (id secret url : ByteArray) (gr : Int) (pg : Bool) (l : List U) (so : Option Addr) (n cp : Nat) (w : World) (hn : n = l.length) (hl : n * 16 ≤ 140737488355328) (hr : SRow w so l) :
    Calls Tryz.prog 25 #[.agg #[.string id, .string secret, .int .i64 gr, .bool pg, .string url, .slice so n cp]] w fun e w' => True ∧ CpEnd w id secret gr pg url l e w' := by
  have HN : Hid (n = l.length) := hn
  have HR : Hid (SRow w so l) := hr
  obtain ⟨i0, hi, hz0, hz1, hz2⟩ := info_parts infoStr
  clear hn hr
  go_enter Tryz.func25, Tryz.ntmps25
  go_upto_region 1 with fail
  have HBX : Hid (Below w.heap.size w ((w.alloc (.cells #[.string id, .string secret, .int .i64 gr, .bool pg, .string url, .slice so n cp] 50)).alloc (.cells #[.string { data := #[] }, .string { data := #[] }, .int .i64 0, .bool false, .string { data := #[] }, .slice none 0 0] 47))) := (below_new w _).trans ((below_new _ _).mono (by simp))
  have HC : Hid (D6 ((w.alloc (.cells #[.string id, .string secret, .int .i64 gr, .bool pg, .string url, .slice so n cp] 50)).alloc (.cells #[.string { data := #[] }, .string { data := #[] }, .int .i64 0, .bool false, .string { data := #[] }, .slice none 0 0] 47)) w.heap.size (.string id) (.string secret) (.int .i64 gr) (.bool pg) (.string url) (.slice so n cp)) := D6.keep (heap_alloc_new w _) (below_new _ _) (by simp)
  have HZ : Hid (C6 ((w.alloc (.cells #[.string id, .string secret, .int .i64 gr, .bool pg, .string url, .slice so n cp] 50)).alloc (.cells #[.string { data := #[] }, .string { data := #[] }, .int .i64 0, .bool false, .string { data := #[] }, .slice none 0 0] 47)) (w.heap.size + 1) (.string { data := #[] }) (.string { data := #[] }) (.int .i64 0) (.bool false) (.string { data := #[] }) (.slice none 0 0)) := by
    have h := C6.new (w.alloc (.cells #[.string id, .string secret, .int .i64 gr, .bool pg, .string url, .slice so n cp] 50))
    rw [show (w.alloc (.cells #[.string id, .string secret, .int .i64 gr, .bool pg, .string url, .slice so n cp] 50)).heap.size = w.heap.size + 1 by simp] at h
    exact h
  generalize ((w.alloc (.cells #[.string id, .string secret, .int .i64 gr, .bool pg, .string url, .slice so n cp] 50)).alloc (.cells #[.string { data := #[] }, .string { data := #[] }, .int .i64 0, .bool false, .string { data := #[] }, .slice none 0 0] 47)) = w1 at *
  have hs1 := HZ.out.lt
  have hs0 := HBX.out.size
  obtain ⟨c0, c1, c2, c3, c4, c5⟩ := HC.out.cells
  have HBD : Hid (Below w1.heap.size w1 (w1.drew.alloc (.cells #[] 9))) := Below.alloc (below_drewN (Below.refl _ _) 1) (Nat.le_refl _) _
  have HRW : Hid (SRow (w1.drew.alloc (.cells #[] 9)) so l) := (HR.out.keep HBX.out).keep (Below.alloc (below_drewN (Below.refl _ _) 1) (Nat.le_refl _) _)
  go_region_held_law (fun W => W.cell? ⟨w.heap.size, 0, none⟩ = some (.string id) ∧ W.cell? ⟨w.heap.size, 1, none⟩ = some (.string secret) ∧ W.cell? ⟨w.heap.size, 2, none⟩ = some (.int .i64 gr) ∧ W.cell? ⟨w.heap.size, 3, none⟩ = some (.bool pg) ∧ W.cell? ⟨w.heap.size, 4, none⟩ = some (.string url) ∧ W.cell? ⟨w.heap.size, 5, none⟩ = some (.slice so n cp)) (go_keep) (first | (refine law_appS rfl (.tmp 13) (.tmp 15) rfl hi hz0 hz1 hz2 w1.heap.size _ l rfl (sown_new _ _ (Nat.le_refl _)) so n cp HN.out rfl HRW.out hl (by simp) ?_; intro fo fc w3 hown3 hgr3; have HO3 := hide hown3; have HB3 : Hid (Below w1.heap.size w1 w3) := HBD.out.grown hgr3 (by simp) (fun k hk => by have e : w1.heap.size = k := Option.some.inj hk; omega); clear hown3 hgr3; obtain ⟨k0, k1, k2, k3, k4, k5⟩ := (HC.out.keep HB3.out (by omega)).cells; have HZ3 := hide (HZ.out.keep HB3.out hs1); obtain ⟨m0, m1, m2, m3, m4, m5⟩ := HZ3.out.cells; obtain ⟨z0, z1, z2, z3, z4, z5⟩ := HZ3.out.thaw))
  go_wp2
  refine bodyPost_ret (c6_results1 rfl rfl (HZ3.out.put _ _ _ _ _ _)) rfl ?_
  have hs3 := HB3.out.size
  refine ⟨trivial, fo, n, fc, rfl, ?_, ?_, (HBX.out.trans (HB3.out.mono (by omega))).trans (below_of_grown (putC_grown _ _ _ _ _ _ _ _) (by omega) (by omega))⟩
  · have hso := HO3.out.grown (putC_grown w3 (w.heap.size + 1) (.string id) (.string secret) (.int .i64 gr) (.bool pg) (.string url) (.slice fo n fc)) (by omega)
    obtain ⟨a', c', e, hle, _, _⟩ := hso.shape
    cases e
    exact ⟨HN.out, by rw [HN.out]; exact hle, hso.row, hso.ty⟩
  · intro a ha
    obtain ⟨a', c', e, _, _, hb⟩ := HO3.out.shape
    cases e
    have := hb a ha
    omega
end Go.Proofs.YtjehbdekipmllaaGreatDoor
namespace Go.Proofs.YtjehbdekipmllaaGreatDoor
open Go.RowKit

theorem infoR : (Tryz.prog.info? 50).map (fun i => (i.zero, i.size, i.bytes)) = some (some (.agg #[.string { data := #[] }, .string { data := #[] }, .int .i64 0, .bool false, .string { data := #[] }, .slice none 0 0]), 6, 88) := by kernel_rfl
def DOwn (w : World) (B : Nat) (v : Value) (l : List Cl) : Prop := ∃ cs, w.ownsRow B 50 6 v l.length cs ∧ Flat w cs l
theorem down_nil (w : World) (B : Nat) : DOwn w B (.slice none 0 0) [] := ⟨[], World.ownsRow_nil _ _ _ _, flat_nil w⟩
theorem DOwn.keep {w w' : World} {B : Nat} {v : Value} {l : List Cl} (h : DOwn w B v l) (hb : Below w.heap.size w w') : DOwn w' B v l := by
  obtain ⟨cs, ho, hf⟩ := h
  refine ⟨cs, ⟨ho.1, ?_⟩, hf.sats fun _ _ _ _ h => h.keep hb⟩
  rcases ho.2 with h2 | ⟨g, cap, cur, e, hg, hh, r⟩
  · exact .inl h2
  · exact .inr ⟨g, cap, cur, e, hg, (hb.block g (Array.getElem?_eq_some_iff.1 hh).1).trans hh, r⟩
theorem DOwn.shape {w : World} {B : Nat} {v : Value} {l : List Cl} (h : DOwn w B v l) : ∃ ao cap, v = .slice ao l.length cap ∧ l.length ≤ cap ∧ CRow w ao l ∧ (∀ a, ao = some a → B ≤ a.block) := by
  obtain ⟨cs, ho, hf⟩ := h
  rcases ho.2 with ⟨rfl, hn⟩ | ⟨g, cap, cur, rfl, hb, hg, hle, _, _, ht⟩
  · exact ⟨none, 0, by rw [hn], by omega, .inl (List.length_eq_zero_iff.1 hn), fun a ha => by cases ha⟩
  · refine ⟨_, cap, rfl, hle, .inr ⟨g, 0, rfl, fun i c hi => ?_⟩, fun a ha => by cases ha; exact hb⟩
    obtain ⟨so, n, cp, h1, h2⟩ := hf.2.1 i c hi
    have hc : ∀ j v, (clCells c so n cp)[j]? = some v → w.cell? ⟨g, 0 + i * 6 + j, none⟩ = some v := by
      intro j v hj
      have := World.ownsRow.cells ho (g := g) rfl (i * 6 + j) v (h1 j v hj)
      rw [add_none, ← Nat.add_assoc] at this
      exact this
    exact ⟨so, n, cp, hc 0 _ rfl, hc 1 _ rfl, hc 2 _ rfl, hc 3 _ rfl, hc 4 _ rfl, hc 5 _ rfl, h2⟩
/-- A list of texts stays as it is while a row of clients grows. -/
theorem SAt.offR {w w' : World} {B m : Nat} {v : Value} {cs : List Value} {so : Option Addr} {n cp : Nat} {l : List U} (h : SAt w so n cp l) (ho : w.ownsRow B 50 6 v m cs) (hg : w.grownBy w' v.ownBlock) : SAt w' so n cp l := by
  have hne : ∀ a, so = some a → l ≠ [] → some a.block ≠ v.ownBlock := by
    intro a ha h0 e
    rcases h.2.2.2 with h2 | h2
    · exact h0 h2
    · obtain ⟨xs, fz, hx⟩ := h2 a ha
      rcases ho.2 with ⟨rfl, _⟩ | ⟨g, cap, cur, rfl, _, hh, _⟩
      · simp [Value.ownBlock] at e
      · simp only [Value.ownBlock, Option.some.injEq] at e
        rw [e, hh] at hx
        simp at hx
  exact ⟨h.1, h.2.1, h.2.2.1.grownR hg hne, h.2.2.2.grown hg hne⟩
theorem wpList_append_rclient {w : World} {ops : Array Oper} {rest : List Oper} {o : Oper} {a : Act} {Q : Exit → Act → World → Prop} {i0 : TypeInfo} (hgd : o.guard = none) (s x : Operand)
    (ho : o.op = .call { callee := .builtin .append, args := #[s, x], argTypes := #[26, 26] }) (hi : Tryz.prog.info? 50 = some i0) (hz0 : i0.zero = some (.agg #[.string { data := #[] }, .string { data := #[] }, .int .i64 0, .bool false, .string { data := #[] }, .slice none 0 0])) (hz1 : i0.size = 6) (hz2 : i0.bytes = 88)
    (B : Nat) (v : Value) (l : List Cl) (c : Cl) (so : Option Addr) (n cp : Nat) (hs : a.eval s = v) (hown : DOwn w B v l)
    (N : Nat) (hx : a.eval x = .slice (some ⟨N, 0, none⟩) 1 1) (hr : D6 w N (.string c.id) (.string c.secret) (.int .i64 c.grants) (.bool c.ping) (.string c.url) (.slice so n cp)) (hsat : SAt w so n cp c.scopes)
    (hsz : (l.length + 1) * 88 ≤ 140737488355328) (hB : B ≤ w.heap.size)
    (h : ∀ v' w', DOwn w' B v' (l ++ [c]) → w.grownBy w' v.ownBlock → wpList Tryz.prog ops Q rest (a.put o.dst v') w') : wpList Tryz.prog ops Q (o :: rest) a w := by
  refine wpList_plain hgd fun K hK => ?_
  obtain ⟨cs, ho1, hf⟩ := hown
  obtain ⟨v', w', hrun, h1, h2, _⟩ := run_append_own (P := Tryz.prog) w B 26 o.type 50 i0 (.agg #[.string { data := #[] }, .string { data := #[] }, .int .i64 0, .bool false, .string { data := #[] }, .slice none 0 0]) 6 88 Tryz.underlying26 hi hz0 hz1 hz2 rfl (by decide) v l.length cs ho1 ⟨N, 0, none⟩ 1 1 (clCells c so n cp) (by simp [clCells])
    (by
      intro j u hj
      rw [add_none, Nat.zero_add, cell_of_row w N j _ 50 (0, 0) hr, ← Array.getElem?_toList]
      exact hj)
    (by
      intro u hu
      simp only [clCells, List.mem_cons, List.not_mem_nil, or_false] at hu
      rcases hu with rfl | rfl | rfl | rfl | rfl | rfl <;> rfl) (by unfold maxLen; omega) (by omega) hB
  unfold Oper.wp
  simp [execOp, ho, resolve, invoke, builtin, hs, hx, hrun, Result.andThen]
  refine hK _ _ (h v' w' ⟨_, by rw [List.length_append]; exact h1, (hf.snoc hsat).sats fun _ _ _ _ hq => hq.offR ho1 h2⟩ h2)
def COwnEnd (w : World) (n : Nat) (L : List Cl) (e : Ending) (w' : World) : Prop := ∃ fo fc, e = .returned (.slice fo n fc) ∧ COwn w' w.heap.size (.slice fo n fc) L ∧ Below w.heap.size w w'
def DOwnEnd (w : World) (n : Nat) (L : List Cl) (e : Ending) (w' : World) : Prop := ∃ fo fc, e = .returned (.slice fo n fc) ∧ DOwn w' w.heap.size (.slice fo n fc) L ∧ Below w.heap.size w w'
set_option maxHeartbeats 2000000 in
set_option maxRecDepth 100000 in
theorem all_any (n c : Nat) (ao : Option Addr) (L : List Cl) (w : World) (hn : n = L.length) (hl : n * 88 ≤ 140737488355328) (hz : ∀ c ∈ L, c.scopes.length * 16 ≤ 140737488355328) (hr : CRow0 w ao L) :
    Calls Tryz.prog 15 #[.slice ao n c] w fun e w' => True ∧ DOwnEnd w n L e w' := by
  have HN : Hid (n = L.length) := hn
  have HR : Hid (CRow0 w ao L) := hr
  have HZ : Hid (∀ c ∈ L, c.scopes.length * 16 ≤ 140737488355328) := hz
  obtain ⟨i0, hi, hz0, hz1, hz2⟩ := info_parts infoR
  clear hn hr hz
  go_enter Tryz.func15, Tryz.ntmps15
  go_wp2
  go_loopw [3, 4] (fun v i wr => ∃ (k : Nat) (fo : Option Addr) (fc : Nat), k ≤ n ∧ v = .slice fo k fc ∧ i = .int .i64 (k : Int) ∧ Hid (DOwn wr w.heap.size (.slice fo k fc) (L.take k)) ∧ Hid (Below w.heap.size w wr)) (fun _ i _ => n - (intOf i).toNat)
  case atStart => exact ⟨0, none, 0, Nat.zero_le _, rfl, rfl, down_nil _ _, Below.refl _ _⟩
  case round =>
    obtain ⟨k, fo, fc, hk, rfl, rfl, HOW, HBW⟩ := hrel
    have hsr := HBW.out.size
    by_cases hlt : k < n
    · obtain ⟨b, off, rfl⟩ := HR.out.form (by rw [← HN.out]; omega)
      obtain ⟨q, hq⟩ : ∃ q, L[k]? = some q := ⟨_, List.getElem?_eq_getElem (by rw [← HN.out]; exact hlt)⟩
      obtain ⟨so, m, cp, d0, d1, d2, d3, d4, d5, hsa1, hsa2, hsa3⟩ := (HR.out.keep HBW.out).cell hq
      have htk : L.take (k + 1) = L.take k ++ [q] := by rw [List.take_add_one, hq]; rfl
      have HTK := hide htk
      have hsc := HZ.out q (List.mem_of_getElem? hq)
      have HOU := ours_any q.id q.secret q.url q.grants q.ping q.scopes so m cp wr hsa1 (by rw [hsa1]; exact hsc) hsa3
      have htl : (L.take k).length = k := by rw [List.length_take, ← HN.out]; omega
      have HTL := hide htl
      clear hq htk hsa1 hsa2 hsa3 htl
      go_wp2_with fail
      refine HOU.mono ?_
      rintro e w3 ⟨-, s2, k2, c2, rfl, hs, -, hb⟩
      have HB3 : Hid (Below w.heap.size w w3) := HBW.out.trans (hb.mono hsr)
      have HS3 := hide hs
      have HO3 := hide (HOW.out.keep hb)
      clear hs hb HOU
      have hs3 := HB3.out.size
      have HBX : Hid (Below w3.heap.size w3 (w3.alloc (.cells #[.string q.id, .string q.secret, .int .i64 q.grants, .bool q.ping, .string q.url, .slice s2 k2 c2] 50))) := below_new w3 _
      have HC6 : Hid (D6 (w3.alloc (.cells #[.string q.id, .string q.secret, .int .i64 q.grants, .bool q.ping, .string q.url, .slice s2 k2 c2] 50)) w3.heap.size (.string q.id) (.string q.secret) (.int .i64 q.grants) (.bool q.ping) (.string q.url) (.slice s2 k2 c2)) := heap_alloc_new w3 _
      have hsx := HBX.out.size
      go_wp2_with (first | (at_builtin; refine wpList_append_rclient (i0 := i0) rfl (.tmp 11) (.tmp 17) rfl hi hz0 hz1 hz2 w.heap.size _ (L.take k) q s2 k2 c2 rfl (HO3.out.keep HBX.out) w3.heap.size rfl HC6.out (HS3.out.keep HBX.out) (by rw [HTL.out]; omega) (by omega) ?_))
      intro v' w5 hown5 hgr5
      obtain ⟨ao', cap', hv', _, _, _⟩ := hown5.shape
      have hlen : (L.take k ++ [q]).length = k + 1 := by rw [List.length_append, HTL.out]; rfl
      rw [hlen] at hv'
      subst hv'
      have HO5 : Hid (DOwn w5 w.heap.size (.slice ao' (k + 1) cap') (L.take (k + 1))) := by rw [HTK.out]; exact hown5
      have HB5 : Hid (Below w.heap.size w w5) := (HB3.out.trans (HBX.out.mono (by omega))).grown hgr5 (by omega) (fun x hx => by
        obtain ⟨_, ho, _⟩ := HOW.out
        exact (World.ownsRow.lt ho x hx).1)
      clear hown5 hgr5 hlen
      go_wp2
      go_roundw
      case rel => exact ⟨k + 1, ao', cap', by omega, rfl, by go_num, HO5, HB5⟩
      case measure => simp [intOf]; omega
    · obtain rfl : k = n := by omega
      have HOE : Hid (DOwn wr w.heap.size (.slice fo k fc) L) := by
        have h := HOW.out
        rw [List.take_of_length_le (by rw [← HN.out]; omega)] at h
        exact h
      go_wp2
      go_ret
      refine (fun h => by first | exact ⟨trivial, h⟩ | exact h) (?_ : DOwnEnd w k L _ _)
      exact ⟨fo, fc, rfl, HOE.out, HBW.out⟩
set_option maxHeartbeats 2000000 in
set_option maxRecDepth 100000 in
theorem lcopied_any (n c : Nat) (ao : Option Addr) (L : List Cl) (w : World) (hn : n = L.length) (hl : n * 88 ≤ 140737488355328) (hz : ∀ c ∈ L, c.scopes.length * 16 ≤ 140737488355328) (hr : CRow0 w ao L) :
    Calls Tryz.prog 12 #[.slice ao n c] w fun e w' => True ∧ COwnEnd w n L e w' := by
  have HN : Hid (n = L.length) := hn
  have HR : Hid (CRow0 w ao L) := hr
  have HZ : Hid (∀ c ∈ L, c.scopes.length * 16 ≤ 140737488355328) := hz
  obtain ⟨i0, hi, hz0, hz1, hz2⟩ := info_parts infoClient
  clear hn hr hz
  go_enter Tryz.func12, Tryz.ntmps12
  go_wp2
  go_loopw [3, 4] (fun v i wr => ∃ (k : Nat) (fo : Option Addr) (fc : Nat), k ≤ n ∧ v = .slice fo k fc ∧ i = .int .i64 (k : Int) ∧ Hid (COwn wr w.heap.size (.slice fo k fc) (L.take k)) ∧ Hid (Below w.heap.size w wr)) (fun _ i _ => n - (intOf i).toNat)
  case atStart => exact ⟨0, none, 0, Nat.zero_le _, rfl, rfl, cown_nil _ _, Below.refl _ _⟩
  case round =>
    obtain ⟨k, fo, fc, hk, rfl, rfl, HOW, HBW⟩ := hrel
    have hsr := HBW.out.size
    by_cases hlt : k < n
    · obtain ⟨b, off, rfl⟩ := HR.out.form (by rw [← HN.out]; omega)
      obtain ⟨q, hq⟩ : ∃ q, L[k]? = some q := ⟨_, List.getElem?_eq_getElem (by rw [← HN.out]; exact hlt)⟩
      obtain ⟨so, m, cp, d0, d1, d2, d3, d4, d5, hsa1, hsa2, hsa3⟩ := (HR.out.keep HBW.out).cell hq
      have htk : L.take (k + 1) = L.take k ++ [q] := by rw [List.take_add_one, hq]; rfl
      have HTK := hide htk
      have hsc := HZ.out q (List.mem_of_getElem? hq)
      have HOU := ours_any q.id q.secret q.url q.grants q.ping q.scopes so m cp wr hsa1 (by rw [hsa1]; exact hsc) hsa3
      have htl : (L.take k).length = k := by rw [List.length_take, ← HN.out]; omega
      have HTL := hide htl
      clear hq htk hsa1 hsa2 hsa3 htl
      go_wp2_with fail
      refine HOU.mono ?_
      rintro e w2 ⟨-, s1, k1, c1, rfl, hs1, -, hb1⟩
      have HB2 : Hid (Below w.heap.size w w2) := HBW.out.trans (hb1.mono hsr)
      have HO2 := hide (HOW.out.keep hb1)
      have hs2 := HB2.out.size
      have HTH := theirs_any q.id q.secret q.url q.grants q.ping q.scopes s1 k1 c1 w2 hs1.1 (by rw [hs1.1]; exact hsc) hs1.2.2.1
      clear hs1 hb1 HOU
      go_wp2_with fail
      refine HTH.mono ?_
      rintro e w3 ⟨-, s2, k2, c2, rfl, hs, -, hb⟩
      have HB3 : Hid (Below w.heap.size w w3) := HB2.out.trans (hb.mono hs2)
      have HS3 := hide hs
      have HO3 := hide (HO2.out.keep hb)
      clear hs hb HTH
      have hs3 := HB3.out.size
      have HBX : Hid (Below w3.heap.size w3 (w3.alloc (.cells #[.string q.id, .string q.secret, .int .i64 q.grants, .bool q.ping, .string q.url, .slice s2 k2 c2] 47))) := below_new w3 _
      have HC6 : Hid (C6 (w3.alloc (.cells #[.string q.id, .string q.secret, .int .i64 q.grants, .bool q.ping, .string q.url, .slice s2 k2 c2] 47)) w3.heap.size (.string q.id) (.string q.secret) (.int .i64 q.grants) (.bool q.ping) (.string q.url) (.slice s2 k2 c2)) := heap_alloc_new w3 _
      have hsx := HBX.out.size
      go_wp2_with (first | (at_builtin; refine wpList_append_client (i0 := i0) rfl (.tmp 11) (.tmp 18) rfl hi hz0 hz1 hz2 w.heap.size _ (L.take k) q s2 k2 c2 rfl (HO3.out.keep HBX.out) w3.heap.size rfl HC6.out (HS3.out.keep HBX.out) (by rw [HTL.out]; omega) (by omega) ?_))
      intro v' w5 hown5 hgr5
      obtain ⟨ao', cap', hv', _, _, _⟩ := hown5.shape
      have hlen : (L.take k ++ [q]).length = k + 1 := by rw [List.length_append, HTL.out]; rfl
      rw [hlen] at hv'
      subst hv'
      have HO5 : Hid (COwn w5 w.heap.size (.slice ao' (k + 1) cap') (L.take (k + 1))) := by rw [HTK.out]; exact hown5
      have HB5 : Hid (Below w.heap.size w w5) := (HB3.out.trans (HBX.out.mono (by omega))).grown hgr5 (by omega) (fun x hx => by
        obtain ⟨_, ho, _⟩ := HOW.out
        exact (World.ownsRow.lt ho x hx).1)
      clear hown5 hgr5 hlen
      go_wp2
      go_roundw
      case rel => exact ⟨k + 1, ao', cap', by omega, rfl, by go_num, HO5, HB5⟩
      case measure => simp [intOf]; omega
    · obtain rfl : k = n := by omega
      have HOE : Hid (COwn wr w.heap.size (.slice fo k fc) L) := by
        have h := HOW.out
        rw [List.take_of_length_le (by rw [← HN.out]; omega)] at h
        exact h
      go_wp2
      go_ret
      refine (fun h => by first | exact ⟨trivial, h⟩ | exact h) (?_ : COwnEnd w k L _ _)
      exact ⟨fo, fc, rfl, HOE.out, HBW.out⟩
end Go.Proofs.YtjehbdekipmllaaGreatDoor
namespace Go.Proofs.YtjehbdekipmllaaGreatDoor
open Go.RowKit

set_option maxHeartbeats 2000000 in
set_option maxRecDepth 100000 in
theorem same_true (id secret url : ByteArray) (gr : Int) (pg : Bool) (l : List U) (sa sb : Option Addr) (n ca cb : Nat) (w : World) (hn : n = l.length) (hl : n ≤ 140737488355328) (ha : SRow w sa l) (hb : SRow w sb l) :
    Calls Tryz.prog 22 #[.agg #[.string id, .string secret, .int .i64 gr, .bool pg, .string url, .slice sa n ca], .agg #[.string id, .string secret, .int .i64 gr, .bool pg, .string url, .slice sb n cb]] w fun e w' => e = .returned (.bool true) ∧ Below w.heap.size w w' := by
  have HN : Hid (n = l.length) := hn
  have HA : Hid (SRow w sa l) := ha
  have HB : Hid (SRow w sb l) := hb
  clear hn ha hb
  go_enter Tryz.func22, Tryz.ntmps22
  go_upto_region 1 with fail
  have HBX : Hid (Below w.heap.size w ((w.alloc (.cells #[.string id, .string secret, .int .i64 gr, .bool pg, .string url, .slice sa n ca] 47)).alloc (.cells #[.string id, .string secret, .int .i64 gr, .bool pg, .string url, .slice sb n cb] 50))) := (below_new w _).trans ((below_new _ _).mono (by simp))
  have HC : Hid (C6 ((w.alloc (.cells #[.string id, .string secret, .int .i64 gr, .bool pg, .string url, .slice sa n ca] 47)).alloc (.cells #[.string id, .string secret, .int .i64 gr, .bool pg, .string url, .slice sb n cb] 50)) w.heap.size (.string id) (.string secret) (.int .i64 gr) (.bool pg) (.string url) (.slice sa n ca)) := C6.keep (heap_alloc_new w _) (below_new _ _) (by simp)
  have HD : Hid (D6 ((w.alloc (.cells #[.string id, .string secret, .int .i64 gr, .bool pg, .string url, .slice sa n ca] 47)).alloc (.cells #[.string id, .string secret, .int .i64 gr, .bool pg, .string url, .slice sb n cb] 50)) (w.heap.size + 1) (.string id) (.string secret) (.int .i64 gr) (.bool pg) (.string url) (.slice sb n cb)) := by
    have h := heap_alloc_new (w.alloc (.cells #[.string id, .string secret, .int .i64 gr, .bool pg, .string url, .slice sa n ca] 47)) (.cells #[.string id, .string secret, .int .i64 gr, .bool pg, .string url, .slice sb n cb] 50)
    rw [show (w.alloc (.cells #[.string id, .string secret, .int .i64 gr, .bool pg, .string url, .slice sa n ca] 47)).heap.size = w.heap.size + 1 by simp] at h
    exact h
  generalize ((w.alloc (.cells #[.string id, .string secret, .int .i64 gr, .bool pg, .string url, .slice sa n ca] 47)).alloc (.cells #[.string id, .string secret, .int .i64 gr, .bool pg, .string url, .slice sb n cb] 50)) = w1 at *
  obtain ⟨c0, c1, c2, c3, c4, c5⟩ := HC.out.cells
  obtain ⟨d0, d1, d2, d3, d4, d5⟩ := HD.out.cells
  have HA1 := hide (HA.out.keep HBX.out)
  have HB1 := hide (HB.out.keep HBX.out)
  go_wp2
  go_loopw [5] (fun i wr => ∃ k : Nat, k ≤ n ∧ i = .int .i64 (k : Int) ∧ ∃ q, wr = w1.drewN q) (fun i _ => n - (intOf i).toNat)
  case atStart => exact ⟨0, Nat.zero_le _, rfl, 0, rfl⟩
  case round =>
    obtain ⟨k, hk, rfl, q, rfl⟩ := hrel
    by_cases hlt : k < n
    · obtain ⟨b1, o1, rfl⟩ := HA1.out.form (by rw [← HN.out]; omega)
      obtain ⟨b2, o2, rfl⟩ := HB1.out.form (by rw [← HN.out]; omega)
      obtain ⟨x, hxx⟩ : ∃ x, l[k]? = some x := ⟨_, List.getElem?_eq_getElem (by rw [← HN.out]; exact hlt)⟩
      obtain ⟨xb, HXB⟩ : ∃ xb : ByteArray, Hid (xb = ⟨x.toArray⟩) := ⟨_, hide rfl⟩
      have e0 : w1.cell? ⟨b1, o1 + k, none⟩ = some (.string xb) := by rw [HXB.out]; exact HA1.out.cell hxx
      have e1 : w1.cell? ⟨b2, o2 + k, none⟩ = some (.string xb) := by rw [HXB.out]; exact HB1.out.cell hxx
      have hit : (k : Int) < (n : Int) := by omega
      clear hxx
      go_wp2
      go_quiet (fail)
      go_wp2
      go_roundw
      case rel => exact ⟨k + 1, by omega, by go_num, q + nq, by simp [World.drewN]⟩
      case measure => simp [intOf]; omega
    · go_wp2
      go_ret
      exact ⟨rfl, below_drewN HBX.out _⟩
end Go.Proofs.YtjehbdekipmllaaGreatDoor
namespace Go.Proofs.YtjehbdekipmllaaGreatDoor
open Go.RowKit

set_option maxHeartbeats 2000000 in
set_option maxRecDepth 100000 in
theorem list_true (n c d : Nat) (ao bo : Option Addr) (L : List Cl) (w : World) (hn : n = L.length) (hl : n ≤ 140737488355328) (hz : ∀ c ∈ L, c.scopes.length ≤ 140737488355328) (ha : CRow w ao L) (hb : CRow w bo L) :
    Calls Tryz.prog 9 #[.slice ao n c, .slice bo n d] w fun e w' => e = .returned (.bool true) ∧ Below w.heap.size w w' := by
  have HN : Hid (n = L.length) := hn
  have HA : Hid (CRow w ao L) := ha
  have HB : Hid (CRow w bo L) := hb
  have HZ : Hid (∀ c ∈ L, c.scopes.length ≤ 140737488355328) := hz
  clear hn ha hb hz
  go_enter Tryz.func9, Tryz.ntmps9
  go_wp2
  go_loopw [5] (fun i wr => ∃ k : Nat, k ≤ n ∧ i = .int .i64 (k : Int) ∧ Hid (Below w.heap.size w wr)) (fun i _ => n - (intOf i).toNat)
  case atStart => exact ⟨0, Nat.zero_le _, rfl, Below.refl _ _⟩
  case round =>
    obtain ⟨k, hk, rfl, HBW⟩ := hrel
    have hsr := HBW.out.size
    by_cases hlt : k < n
    · obtain ⟨b1, o1, rfl⟩ := HA.out.form (by rw [← HN.out]; omega)
      obtain ⟨b2, o2, rfl⟩ := HB.out.form (by rw [← HN.out]; omega)
      obtain ⟨q, hq⟩ : ∃ q, L[k]? = some q := ⟨_, List.getElem?_eq_getElem (by rw [← HN.out]; exact hlt)⟩
      have hqz := HZ.out q (List.mem_of_getElem? hq)
      obtain ⟨s1, n1, c1, x0, x1, x2, x3, x4, x5, hsa⟩ := (HA.out.keep HBW.out).cell hq
      obtain ⟨s2, n2, c2, y0, y1, y2, y3, y4, y5, hsb⟩ := (HB.out.keep HBW.out).cell hq
      obtain rfl : n2 = n1 := by rw [hsb.1, hsa.1]
      have HSM : ∀ W, Below wr.heap.size wr W → _ := fun W hW => same_true q.id q.secret q.url q.grants q.ping q.scopes s1 s2 n2 c1 c2 W hsa.1 (by rw [hsa.1]; exact hqz) (hsa.keep hW).2.2.1 (hsb.keep hW).2.2.1
      have hit : (k : Int) < (n : Int) := by omega
      clear hq
      go_wp2
      go_region_held3 (fun W => W.cell? ⟨b1, o1 + k * 6, none⟩ = some (.string q.id) ∧ W.cell? ⟨b1, o1 + k * 6 + 1, none⟩ = some (.string q.secret) ∧ W.cell? ⟨b1, o1 + k * 6 + 2, none⟩ = some (.int .i64 q.grants) ∧ W.cell? ⟨b1, o1 + k * 6 + 3, none⟩ = some (.bool q.ping) ∧ W.cell? ⟨b1, o1 + k * 6 + 4, none⟩ = some (.string q.url) ∧ W.cell? ⟨b1, o1 + k * 6 + 5, none⟩ = some (.slice s1 n2 c1) ∧ W.cell? ⟨b2, o2 + k * 6, none⟩ = some (.string q.id) ∧ W.cell? ⟨b2, o2 + k * 6 + 1, none⟩ = some (.string q.secret) ∧ W.cell? ⟨b2, o2 + k * 6 + 2, none⟩ = some (.int .i64 q.grants) ∧ W.cell? ⟨b2, o2 + k * 6 + 3, none⟩ = some (.bool q.ping) ∧ W.cell? ⟨b2, o2 + k * 6 + 4, none⟩ = some (.string q.url) ∧ W.cell? ⟨b2, o2 + k * 6 + 5, none⟩ = some (.slice s2 n2 c2)) (go_keep) (first | (go_at_call 22; refine (HSM _ (below_drewN (Below.refl _ _) 1)).mono ?_; rintro e wx ⟨rfl, hbx⟩; have hbx' := below_undrewN1 hbx; have HBX := hide hbx'; have z0 := cell_kept x0 hbx'; have z1 := cell_kept x1 hbx'; have z2 := cell_kept x2 hbx'; have z3 := cell_kept x3 hbx'; have z4 := cell_kept x4 hbx'; have z5 := cell_kept x5 hbx'; have v0 := cell_kept y0 hbx'; have v1 := cell_kept y1 hbx'; have v2 := cell_kept y2 hbx'; have v3 := cell_kept y3 hbx'; have v4 := cell_kept y4 hbx'; have v5 := cell_kept y5 hbx'; clear hbx hbx'))
      have HBN : Hid (Below w.heap.size w wx) := HBW.out.trans (HBX.out.mono hsr)
      go_wp2
      go_roundw
      case rel => exact ⟨k + 1, by omega, by go_num, HBN⟩
      case measure => simp [intOf]; omega
    · go_wp2
      go_ret
      exact ⟨rfl, HBW.out⟩
theorem d6_results2 {fn : Func} {slot s2 N : Nat} (h : fn.results = #[.cell slot 50, .tmp s2]) {tmps : Array Value} (hs : tmps.getD slot undef = .pointer (some ⟨N, 0, none⟩)) {x : Value} (hx : tmps.getD s2 undef = x) {w : World} {v0 v1 v2 v3 v4 v5 : Value} (hb : D6 w N v0 v1 v2 v3 v4 v5) : (results fn tmps).run Tryz.prog w = .ok (.tuple #[.agg #[v0, v1, v2, v3, v4, v5], x]) w := by
  obtain ⟨j0, j1, j2, j3, j4, j5⟩ := hb.cells
  have hs' : tmps[slot]?.getD undef = .pointer (some ⟨N, 0, none⟩) := by simpa using hs
  have hx' : tmps[s2]?.getD undef = x := by simpa using hx
  simp [results, h, go_sem, hs', hx', j0, j1, j2, j3, j4, j5]
def RFdEnd (w : World) (R : Option Cl) (e : Ending) (w' : World) : Prop := ∃ (c : Cl) (so : Option Addr) (n cp : Nat), e = .returned (.tuple #[.agg #[.string c.id, .string c.secret, .int .i64 c.grants, .bool c.ping, .string c.url, .slice so n cp], .bool R.isSome]) ∧ R.getD zeroCl = c ∧ SAt w' so n cp c.scopes ∧ Below w.heap.size w w'
set_option maxHeartbeats 1000000 in
set_option maxRecDepth 100000 in
theorem rfind_any (n c : Nat) (ao : Option Addr) (L : List Cl) (x : ByteArray) (w : World) (hn : n = L.length) (hl : n ≤ 4398046511104) (hr : CRow w ao L) :
    Calls Tryz.prog 21 #[.slice ao n c, .string x] w fun e w' => True ∧ RFdEnd w (findR L x) e w' := by
  have HN : Hid (n = L.length) := hn
  have HR : Hid (CRow w ao L) := hr
  have HBA : Hid (Below w.heap.size w (w.alloc (.cells #[.string { data := #[] }, .string { data := #[] }, .int .i64 0, .bool false, .string { data := #[] }, .slice none 0 0] 50))) := below_new w _
  have HD0 := hide (D6.new w)
  obtain ⟨R, HRR⟩ : ∃ R, Hid (R = findR L x) := ⟨_, hide rfl⟩
  rw [← HRR.out]
  clear hn hr
  go_enter Tryz.func21, Tryz.ntmps21
  go_upto_region 1 with fail
  generalize (w.alloc (.cells #[.string { data := #[] }, .string { data := #[] }, .int .i64 0, .bool false, .string { data := #[] }, .slice none 0 0] 50)) = w1 at *
  have hs1 := HD0.out.lt
  obtain ⟨d0, d1, d2, d3, d4, d5⟩ := HD0.out.cells
  obtain ⟨f0, f1, f2, f3, f4, f5⟩ := HD0.out.thaw
  go_wp2
  go_loop [6] (fun i => ∃ k : Nat, k ≤ n ∧ i = .int .i64 (k : Int) ∧ Hid (∀ c ∈ L.take k, c.id ≠ x)) (fun i => n - (intOf i).toNat)
  case atStart => exact ⟨0, Nat.zero_le _, rfl, by intro c hc; simp at hc⟩
  case round =>
    obtain ⟨k, hk, rfl, HA⟩ := hrel
    by_cases hlt : k < n
    · obtain ⟨b, off, rfl⟩ := HR.out.form (by rw [← HN.out]; omega)
      obtain ⟨q, hq⟩ : ∃ q, L[k]? = some q := ⟨_, List.getElem?_eq_getElem (by rw [← HN.out]; exact hlt)⟩
      obtain ⟨so, m, cp, c0, c1, c2, c3, c4, c5, hsa⟩ := (HR.out.keep HBA.out).cell hq
      have HQ := hide hq
      have HSA := hide hsa
      have hit : (k : Int) < (n : Int) := by omega
      have hq1 : (q.id.toList == x.toList) = decide (q.id = x) := str_eq q.id x
      clear hq hsa
      by_cases he : q.id = x
      · have hb : (q.id.toList == x.toList) = true := by rw [hq1, decide_eq_true he]
        have HRS : Hid (R = some q) := by show _ = _; rw [HRR.out]; unfold findR; rw [posOf_at HA.out HQ.out he]; exact HQ.out
        clear he hq1
        go_wp2
        refine bodyPost_ret (d6_results2 rfl rfl rfl (HD0.out.put _ _ _ _ _ _)) rfl ?_
        refine (fun h => by first | exact ⟨trivial, h⟩ | exact h) (?_ : RFdEnd w R _ _)
        rw [HRS.out]
        refine ⟨q, so, m, cp, rfl, rfl, ?_, HBA.out.trans (below_of_grown (putD_grown _ _ _ _ _ _ _ _) (Nat.le_refl _) (by omega))⟩
        have hne : ∀ a, so = some a → q.scopes ≠ [] → some a.block ≠ some w.heap.size := by
          intro a ha h0 e
          rcases HSA.out.2.2.2 with h2 | h2
          · exact h0 h2
          · obtain ⟨cs, fz, hh⟩ := h2 a ha
            have h3 : w1.heap[w.heap.size]? = _ := HD0.out
            rw [Option.some.inj e, h3] at hh
            simp at hh
        exact ⟨HSA.out.1, HSA.out.2.1, HSA.out.2.2.1.grownR (putD_grown _ _ _ _ _ _ _ _) hne, HSA.out.2.2.2.grown (putD_grown _ _ _ _ _ _ _ _) hne⟩
      · have hb : (q.id.toList == x.toList) = false := by rw [hq1, decide_eq_false he]
        have HA2 : Hid (∀ c ∈ L.take (k + 1), c.id ≠ x) := by
          intro c hc
          rw [List.take_add_one, HQ.out] at hc
          rcases List.mem_append.1 hc with hc | hc
          · exact HA.out c hc
          · simp at hc; subst hc; exact he
        clear he hq1
        go_wp2
        go_round
        case rel => exact ⟨k + 1, by omega, by go_num, HA2⟩
        case measure => simp [intOf]; omega
    · have HRN : Hid (R = none) := by
        show _ = _
        have := HA.out
        rw [List.take_of_length_le (by rw [← HN.out]; omega)] at this
        rw [HRR.out]; unfold findR; rw [posOf_none this]; rfl
      go_wp2
      refine bodyPost_ret (d6_results2 rfl rfl rfl (HD0.out.put _ _ _ _ _ _)) rfl ?_
      refine (fun h => by first | exact ⟨trivial, h⟩ | exact h) (?_ : RFdEnd w R _ _)
      rw [HRN.out]
      exact ⟨zeroCl, none, 0, 0, rfl, rfl, sat_nil _, HBA.out.trans (below_of_grown (putD_grown _ _ _ _ _ _ _ _) (Nat.le_refl _) (by omega))⟩
end Go.Proofs.YtjehbdekipmllaaGreatDoor
namespace Go.Proofs.YtjehbdekipmllaaGreatDoor
open Go.RowKit

theorem SOwn.put {w : World} {B n c k g : Nat} {l : List U} {u : U} (h : SOwn w B (.slice (some ⟨g, 0, none⟩) n c) l) : SOwn (w.setCell ⟨g, k, none⟩ (encStr u)) B (.slice (some ⟨g, 0, none⟩) n c) (l.set k u) := by
  rcases h.2 with ⟨e, _⟩ | ⟨g', cap, cur, e, hb, hh, hle, hm, hsz, ht⟩
  · cases e
  · cases e
    refine ⟨by simp, .inr ⟨g, _, cur.setIfInBounds k (encStr u), by simp, hb, ?_, by simpa using hle, hm, by simpa using hsz, ?_⟩⟩
    · rw [setCell_eq_setRow w g k _ _ _ _ hh, setRow_heap w g _ _ _ _ hh]
    · rw [Array.toList_setIfInBounds, List.length_set, List.map_set, ← ht, List.take_set]
theorem C6.off {w : World} {B m c N g : Nat} {l : List U} {v0 v1 v2 v3 v4 v5 : Value} (h : C6 w N v0 v1 v2 v3 v4 v5) (ho : SOwn w B (.slice (some ⟨g, 0, none⟩) m c) l) : N ≠ g := by
  rintro rfl
  rcases ho.2 with ⟨e, _⟩ | ⟨g', cap, cur, e, hb, hh, _⟩
  · cases e
  · cases e
    have h3 : w.heap[N]? = _ := h
    rw [h3] at hh
    simp at hh
theorem C6.offO {w : World} {B N : Nat} {v : Value} {l : List U} {v0 v1 v2 v3 v4 v5 : Value} (h : C6 w N v0 v1 v2 v3 v4 v5) (ho : SOwn w B v l) : some N ≠ v.ownBlock := by
  rcases ho.2 with ⟨rfl, _⟩ | ⟨g', cap, cur, rfl, hb, hh, _⟩
  · simp [Value.ownBlock]
  · intro e
    simp only [Value.ownBlock, Option.some.injEq] at e
    have h3 : w.heap[N]? = _ := h
    rw [e, hh] at h3
    simp at h3
set_option maxHeartbeats 2000000 in
set_option maxRecDepth 100000 in
theorem spoil_one (N B n cp : Nat) (so : Option Addr) (l : List U) (v0 v1 v2 v3 v4 : Value) (w : World) (hC : C6 w N v0 v1 v2 v3 v4 (.slice so n cp)) (hn : n = l.length) (hl : (n + 16) * 16 ≤ 140737488355328) (hO : SOwn w B (.slice so n cp) l) (hB : B ≤ N) :
    Calls Tryz.prog 10 #[.slice (some ⟨N, 0, none⟩) 1 1] w fun e w' => e = .returned (.tuple #[]) ∧ Below B w w' := by
  have HC : Hid (C6 w N v0 v1 v2 v3 v4 (.slice so n cp)) := hC
  have HO : Hid (SOwn w B (.slice so n cp) l) := hO
  have HN : Hid (n = l.length) := hn
  obtain ⟨i0, hi, hz0, hz1, hz2⟩ := info_parts infoStr
  have hNw := hC.lt
  clear hC hO hn
  go_enter Tryz.func10, Tryz.ntmps10
  go_wp2
  go_loopw [2] (fun i wr => ∃ j : Nat, j ≤ 1 ∧ i = .int .i64 (j : Int) ∧ ∃ l', Hid (l'.length = n ∧ SOwn wr B (.slice so n cp) l' ∧ C6 wr N v0 v1 v2 v3 v4 (.slice so n cp) ∧ Below B w wr)) (fun i _ => 1 - (intOf i).toNat)
  case atStart => exact ⟨0, by omega, rfl, l, HN.out.symm, HO.out, HC.out, Below.refl _ _⟩
  case round =>
    obtain ⟨j, hj, rfl, l1, HS⟩ := hrel
    by_cases hj0 : j = 0
    · subst hj0
      go_wp2
      generalize wr = wa at *
      go_loopw [3] (fun i wr => ∃ k : Nat, k ≤ n ∧ i = .int .i64 (k : Int) ∧ ∃ l', Hid (l'.length = n ∧ SOwn wr B (.slice so n cp) l' ∧ C6 wr N v0 v1 v2 v3 v4 (.slice so n cp) ∧ Below B w wr)) (fun i _ => n - (intOf i).toNat)
      case atStart => exact ⟨0, by omega, rfl, l1, HS⟩
      case round =>
        obtain ⟨k, hk, rfl, l2, HS2⟩ := hrel
        have c5 := HS2.out.2.2.1.cells.2.2.2.2.2
        by_cases hlt : k < n
        · obtain ⟨u, hu⟩ : ∃ u, l2[k]? = some u := ⟨_, List.getElem?_eq_getElem (by rw [HS2.out.1]; exact hlt)⟩
          obtain ⟨g, rfl, hgb, e0, e1, -⟩ := HS2.out.2.1.at hu
          have HS3 : Hid ((l2.set k [63]).length = n ∧ SOwn (wr.setCell ⟨g, k, none⟩ (.string { data := #[63] })) B (.slice (some ⟨g, 0, none⟩) n cp) (l2.set k [63]) ∧ C6 (wr.setCell ⟨g, k, none⟩ (.string { data := #[63] })) N v0 v1 v2 v3 v4 (.slice (some ⟨g, 0, none⟩) n cp) ∧ Below B w (wr.setCell ⟨g, k, none⟩ (.string { data := #[63] }))) := by
            have hne := HS2.out.2.2.1.off HS2.out.2.1
            refine ⟨by rw [List.length_set]; exact HS2.out.1, HS2.out.2.1.put (u := [63]), ?_, HS2.out.2.2.2.trans (below_of_grown (grown_set _ _ _ _) hgb (by have := HS2.out.2.2.1.lt; omega))⟩
            exact ((grown_set wr g k (.string { data := #[63] })).block N HS2.out.2.2.1.lt (fun e => hne (Option.some.inj e))).trans HS2.out.2.2.1
          clear hu
          go_wp2
          go_roundw
          case rel => exact ⟨k + 1, by omega, by go_num, _, HS3⟩
          case measure => simp [intOf]; omega
        · go_wp2
          go_roundw
          case rel => exact ⟨1, by omega, rfl, l2, HS2⟩
          case measure => simp [intOf]
    · obtain rfl : j = 1 := by omega
      go_wp2
      generalize wr = wa at *
      go_loopw [4] (fun i wr => ∃ j : Nat, j ≤ 1 ∧ i = .int .i64 (j : Int) ∧ Hid (Below B w wr ∧ (j = 0 → ∃ l', l'.length = n ∧ SOwn wr B (.slice so n cp) l' ∧ C6 wr N v0 v1 v2 v3 v4 (.slice so n cp)))) (fun i _ => 1 - (intOf i).toNat)
      case atStart => exact ⟨0, by omega, rfl, HS.out.2.2.2, fun _ => ⟨l1, HS.out.1, HS.out.2.1, HS.out.2.2.1⟩⟩
      case round =>
        obtain ⟨j, hj, rfl, HT⟩ := hrel
        by_cases hj0 : j = 0
        · subst hj0
          obtain ⟨l3, hl3, ho3, hc3⟩ := HT.out.2 rfl
          have c5 := hc3.cells.2.2.2.2.2
          have HL3 := hide hl3
          have HO3 := hide ho3
          have HC3 := hide hc3
          have HB3 := hide HT.out.1
          clear hl3 ho3 hc3 HT HS
          go_wp2
          generalize wr = wb at *
          go_loopw [5, 6] (fun v i wr => ∃ (k m fc : Nat) (fo : Option Addr), k ≤ 16 ∧ v = .slice fo m fc ∧ i = .int .i64 (k : Int) ∧ ∃ l', Hid (m = l'.length ∧ m = n + k ∧ SOwn wr B (.slice fo m fc) l' ∧ C6 wr N v0 v1 v2 v3 v4 (.slice so n cp) ∧ Below B w wr)) (fun _ i _ => 16 - (intOf i).toNat)
          case atStart => exact ⟨0, n, cp, so, by omega, rfl, rfl, l3, HL3.out.symm, rfl, HO3.out, HC3.out, HB3.out⟩
          case round =>
            obtain ⟨k, m, fc, fo, hk, rfl, rfl, l4, HS4⟩ := hrel
            by_cases hlt : k < 16
            · have hki : (k : Int) < 16 := by omega
              have hkd : decide ((k : Int) < 16) = true := decide_eq_true hki
              have HBX : Hid (Below wr.heap.size wr (wr.alloc (.cells #[.string { data := #[63, 63] }] 9))) := below_new wr _
              have hsx := HBX.out.size
              have hcl := HS4.out.2.2.2.1.lt
              have HR : Hid (SRow (wr.alloc (.cells #[.string { data := #[63, 63] }] 9)) (some ⟨wr.heap.size, 0, none⟩) [[63, 63]]) := by
                refine .inr ⟨_, _, rfl, fun i u hi => ?_⟩
                match i, hi with
                | 0, hi => simp at hi; subst hi; simp
              go_wp2_with (first | (at_builtin; refine wpList_append_strs (i0 := i0) rfl (.tmp 45) (.tmp 46) rfl hi hz0 hz1 hz2 B _ l4 [[63, 63]] rfl (HS4.out.2.2.1.keep HBX.out) (some ⟨wr.heap.size, 0, none⟩) 1 1 rfl rfl HR.out (by have h1 := HS4.out.1; have h2 := HS4.out.2.1; rw [← h1]; simp; omega) (by omega) ?_))
              intro v' w5 hown5 hgr5
              obtain ⟨ao', cap', hv', _, _, _⟩ := hown5.shape
              have hlen : (l4 ++ [[63, 63]]).length = m + 1 := by rw [List.length_append, ← HS4.out.1]; rfl
              rw [hlen] at hv'
              subst hv'
              have HS5 : Hid (m + 1 = (l4 ++ [[63, 63]]).length ∧ m + 1 = n + (k + 1) ∧ SOwn w5 B (.slice ao' (m + 1) cap') (l4 ++ [[63, 63]]) ∧ C6 w5 N v0 v1 v2 v3 v4 (.slice so n cp) ∧ Below B w w5) := by
                have hcx := HS4.out.2.2.2.1.keep HBX.out hcl
                refine ⟨hlen.symm, by have := HS4.out.2.1; omega, hown5, ?_, ?_⟩
                · exact (hgr5.block N hcx.lt (hcx.offO (HS4.out.2.2.1.keep HBX.out))).trans hcx
                · exact (HS4.out.2.2.2.2.trans (HBX.out.mono (by omega))).grown hgr5 (by omega) (fun x hx => (World.ownsRow.lt HS4.out.2.2.1 x hx).1)
              clear hown5 hgr5 hlen
              go_wp2
              go_roundw
              case rel => exact ⟨_, _, _, _, _, _, _, _, _, ⟨k + 1, m + 1, cap', ao', by omega, rfl, rfl, _, HS5⟩, rfl⟩
              case measure => simp [intOf]; omega
            · have hki : ¬ (k : Int) < 16 := by omega
              have hkd : decide ((k : Int) < 16) = false := decide_eq_false hki
              have HC4 := hide HS4.out.2.2.2.1
              obtain ⟨q0, q1, q2, q3, q4, q5⟩ := HC4.out.cells
              obtain ⟨z0, z1, z2, z3, z4, z5⟩ := HC4.out.thaw
              have HBF : ∀ x0 x1 x2 x3 x4 x5, Below B w (putC wr N x0 x1 x2 x3 x4 x5) := fun _ _ _ _ _ _ => HS4.out.2.2.2.2.trans (below_of_grown (putC_grown _ _ _ _ _ _ _ _) hB (by have := HC4.out.lt; omega))
              have HBF' := hide HBF
              clear HBF
              go_wp2
              go_roundw
              case rel => exact ⟨1, by omega, rfl, HBF'.out _ _ _ _ _ _, fun h => absurd h (by decide)⟩
              case measure => simp [intOf]
        · obtain rfl : j = 1 := by omega
          go_wp2
          first | go_end0 | ((try simp only [Exit.inBlock, Exit.then]); refine bodyPost_ret (results_none rfl _ _ _) rfl ?_)
          exact ⟨rfl, HT.out.1⟩
end Go.Proofs.YtjehbdekipmllaaGreatDoor
