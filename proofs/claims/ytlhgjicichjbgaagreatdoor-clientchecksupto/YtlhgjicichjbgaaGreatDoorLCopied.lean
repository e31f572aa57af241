/- The program's copied: a client in memory of its own. -/
import Derived.Test.YtlhgjicichjbgaaGreatDoorLRow
import Derived.Test.YtlhgjicichjbgaaGreatDoorScopeFn
import Derived.Shelf.Slices.Clone
import Derived.Deep.RegionHeld3
namespace Go.Proofs.YtlhgjicichjbgaaGreatDoor
open Go.RowKit

theorem setCell_self {w : World} {g i : Nat} {cs : Array Value} {t : TypeId} {fz : Nat × Nat} {v : Value} (h : w.heap[g]? = some (.cells cs t fz)) (hv : cs[i]? = some v) : w.setCell ⟨g, i, none⟩ v = w := by
  have hh : ∀ k : Nat, (w.setCell ⟨g, i, none⟩ v).heap[k]? = w.heap[k]? := by
    intro k
    by_cases hk : k = g
    · subst hk
      rw [setCell_eq_setRow w k i _ _ _ _ h, setRow_heap w k _ _ _ _ h, h]
      congr 2
      apply Array.ext_getElem?
      intro j
      rw [Array.getElem?_setIfInBounds]
      by_cases hj : i = j
      · subst hj
        rw [if_pos rfl, hv]
        have := (Array.getElem?_eq_some_iff.1 hv).1
        rw [if_pos this]
      · rw [if_neg hj]
    · exact Below.heap_setCell _ _ _ _ hk
  have e : (w.setCell ⟨g, i, none⟩ v).heap = w.heap := Array.ext_getElem? hh
  show World.mk (w.setCell ⟨g, i, none⟩ v).heap w.tape w.drawn w.os w.output = w
  rw [e]
theorem cloneS_any (n cp : Nat) (so : Option Addr) (l : List U) (w : World) (hn : n = l.length) (hl : n * 16 ≤ 140737488355328) (hr : SRow w so l) :
    Calls Tryz.prog 94 #[.slice so n cp] w fun e w' => ∃ fo fc, e = .returned (.slice fo n fc) ∧ Hid (SOwn w' w.heap.size (.slice fo n fc) l ∧ Below w.heap.size w w') := by
  have fin : ∀ (w' : World) (v : Value), w'.ownsRow w.heap.size 9 1 v n (l.map encStr) → ∃ fo fc, v = .slice fo n fc ∧ SOwn w' w.heap.size (.slice fo n fc) l := by
    intro w' v h
    have h2 : SOwn w' w.heap.size v l := by unfold SOwn; rw [← hn]; exact h
    obtain ⟨fo, fc, e, _⟩ := h2.shape
    rw [← hn] at e
    subst e
    exact ⟨fo, fc, rfl, h2⟩
  cases so with
  | none =>
    have h0 : l = [] := by
      rcases hr with h | ⟨b, off, h, _⟩
      · exact h
      · cases h
    subst h0
    have hn0 : n = 0 := hn
    subst hn0
    refine (Any.slices_Clone_string_nil laysNm216 0 cp w).mono ?_
    rintro e w' ⟨rfl, rfl⟩
    exact ⟨none, 0, rfl, sown_nil _ _, Below.refl _ _⟩
  | some a =>
    by_cases h0 : n = 0
    · subst h0
      have hl0 : l = [] := List.length_eq_zero_iff.1 hn.symm
      subst hl0
      refine (Any.slices_Clone_string_zero laysNm216 a cp w).mono ?_
      rintro e w' ⟨v, rfl, ho, _, hb⟩
      obtain ⟨fo, fc, rfl, h⟩ := fin w' v ho
      exact ⟨fo, fc, rfl, h, hb⟩
    · rcases hr with rfl | ⟨b, off, ha, hc⟩
      · exact absurd hn h0
      · cases ha
        refine (Any.slices_Clone_string laysNm216 b off n cp (l.map fun u => ⟨u.toArray⟩) w (by simp; omega) hl ?_).mono ?_
        · intro j hj
          rw [List.length_map] at hj
          rw [hc j l[j] (List.getElem?_eq_getElem hj)]
          simp [hj]
        · rintro e w' ⟨v, rfl, ho, _, hb⟩
          rw [List.take_of_length_le (by simp; omega), List.map_map] at ho
          obtain ⟨fo, fc, rfl, h⟩ := fin w' v ho
          exact ⟨fo, fc, rfl, h, hb⟩
/-- A client's box, and what was there before. -/
def Acc (w : World) (N : Nat) (v0 v1 v2 v3 v4 v5 : Value) (W : World) : Prop := Below w.heap.size w W ∧ Below N w W ∧ C6 W N v0 v1 v2 v3 v4 v5
theorem C6.self {w : World} {N : Nat} {v0 v1 v2 v3 v4 v5 : Value} (h : C6 w N v0 v1 v2 v3 v4 v5) : w.setCell ⟨N, 0, none⟩ v0 = w ∧ w.setCell ⟨N, 1, none⟩ v1 = w ∧ w.setCell ⟨N, 4, none⟩ v4 = w := ⟨setCell_self h rfl, setCell_self h rfl, setCell_self h rfl⟩
theorem acc_step {w1 W wx : World} (h : Below w1.heap.size w1 W) (hb : Below W.heap.size W wx) : Below w1.heap.size w1 wx := h.trans (hb.mono h.size)
theorem acc_drew {w1 W wx : World} (h : Below w1.heap.size w1 W) (hb : Below W.drew.heap.size W.drew wx) : Below w1.heap.size w1 wx := acc_step h (below_undrewN1 hb)
/-- What copied leaves. -/
def CpEnd (w : World) (id secret : ByteArray) (gr : Int) (pg : Bool) (url : ByteArray) (l : List U) (e : Ending) (w' : World) : Prop := ∃ so n cp, e = .returned (.agg #[.string id, .string secret, .int .i64 gr, .bool pg, .string url, .slice so n cp]) ∧ SAt w' so n cp l ∧ (∀ a, so = some a → w.heap.size ≤ a.block) ∧ Below w.heap.size w w'
theorem c6_results1 {fn : Func} {slot N : Nat} (h : fn.results = #[.cell slot 27]) {tmps : Array Value} (hs : tmps.getD slot undef = .pointer (some ⟨N, 0, none⟩)) {w : World} {v0 v1 v2 v3 v4 v5 : Value} (hb : C6 w N v0 v1 v2 v3 v4 v5) : (results fn tmps).run Tryz.prog w = .ok (.agg #[v0, v1, v2, v3, v4, v5]) w := by
  obtain ⟨j0, j1, j2, j3, j4, j5⟩ := hb.cells
  have hs' : tmps[slot]?.getD undef = .pointer (some ⟨N, 0, none⟩) := by simpa using hs
  simp [results, h, go_sem, hs', j0, j1, j2, j3, j4, j5]
theorem SOwn.grown {w w' : World} {B N : Nat} {v : Value} {l : List U} (h : SOwn w B v l) (hg : w.grownBy w' (some N)) (hN : N < B) : SOwn w' B v l := by
  refine ⟨h.1, ?_⟩
  rcases h.2 with h2 | ⟨g, cap, cur, e, hb, hh, r⟩
  · exact .inl h2
  · exact .inr ⟨g, cap, cur, e, hb, (hg.block g (Array.getElem?_eq_some_iff.1 hh).1 (fun e => by simp only [Option.some.injEq] at e; omega)).trans hh, r⟩
theorem SOwn.at {w : World} {B n c k : Nat} {ao : Option Addr} {l : List U} {u : U} (h : SOwn w B (.slice ao n c) l) (hk : l[k]? = some u) : ∃ g, ao = some ⟨g, 0, none⟩ ∧ B ≤ g ∧ w.cell? ⟨g, k, none⟩ = some (encStr u) ∧ w.frozen? ⟨g, k, none⟩ = false ∧ w.setCell ⟨g, k, none⟩ (encStr u) = w := by
  have hkl := (List.getElem?_eq_some_iff.1 hk).1
  rcases h.2 with ⟨_, h2⟩ | ⟨g, cap, cur, e, hb, hh, hle, _, hsz, ht⟩
  · omega
  · cases e
    have hc : cur[k]? = some (encStr u) := by
      have h3 : (cur.toList.take (l.length * 1))[k]? = some (encStr u) := by rw [ht, List.getElem?_map, hk]; rfl
      rw [List.getElem?_take, if_pos (by omega)] at h3
      rw [← Array.getElem?_toList]
      exact h3
    refine ⟨g, rfl, hb, ?_, ?_, setCell_self hh hc⟩
    · rw [cell_of_row w g k _ _ _ hh]; exact hc
    · simp only [World.frozen?, hh]; simp
set_option maxHeartbeats 2000000 in
set_option maxRecDepth 100000 in
theorem copied_any (id secret url : ByteArray) (gr : Int) (pg : Bool) (l : List U) (so : Option Addr) (n cp : Nat) (w : World) (hn : n = l.length) (hl : n * 16 ≤ 140737488355328) (hr : SRow w so l)
    (hi : id.size ≤ 281474976710656) (hse : secret.size ≤ 281474976710656) (hu : url.size ≤ 281474976710656) (hls : ∀ u ∈ l, u.length ≤ 281474976710656) :
    Calls Tryz.prog 52 #[.agg #[.string id, .string secret, .int .i64 gr, .bool pg, .string url, .slice so n cp]] w fun e w' => True ∧ CpEnd w id secret gr pg url l e w' := by
  have HN : Hid (n = l.length) := hn
  have HR : Hid (SRow w so l) := hr
  have HLS : Hid (∀ u ∈ l, u.length ≤ 281474976710656) := hls
  clear hn hr hls
  go_enter Tryz.func52, Tryz.ntmps52
  go_upto_region 1 with fail
  have HBX : Hid (Below w.heap.size w ((w.alloc (.cells #[.string id, .string secret, .int .i64 gr, .bool pg, .string url, .slice so n cp] 27)).alloc (.cells #[.string { data := #[] }, .string { data := #[] }, .int .i64 0, .bool false, .string { data := #[] }, .slice none 0 0] 27))) := (below_new w _).trans ((below_new _ _).mono (by simp))
  have HC : Hid (C6 ((w.alloc (.cells #[.string id, .string secret, .int .i64 gr, .bool pg, .string url, .slice so n cp] 27)).alloc (.cells #[.string { data := #[] }, .string { data := #[] }, .int .i64 0, .bool false, .string { data := #[] }, .slice none 0 0] 27)) w.heap.size (.string id) (.string secret) (.int .i64 gr) (.bool pg) (.string url) (.slice so n cp)) := C6.keep (heap_alloc_new w _) (below_new _ _) (by simp)
  have HZ : Hid (C6 ((w.alloc (.cells #[.string id, .string secret, .int .i64 gr, .bool pg, .string url, .slice so n cp] 27)).alloc (.cells #[.string { data := #[] }, .string { data := #[] }, .int .i64 0, .bool false, .string { data := #[] }, .slice none 0 0] 27)) (w.heap.size + 1) (.string { data := #[] }) (.string { data := #[] }) (.int .i64 0) (.bool false) (.string { data := #[] }) (.slice none 0 0)) := by
    have h := C6.new (w.alloc (.cells #[.string id, .string secret, .int .i64 gr, .bool pg, .string url, .slice so n cp] 27))
    rw [show (w.alloc (.cells #[.string id, .string secret, .int .i64 gr, .bool pg, .string url, .slice so n cp] 27)).heap.size = w.heap.size + 1 by simp] at h
    exact h
  generalize ((w.alloc (.cells #[.string id, .string secret, .int .i64 gr, .bool pg, .string url, .slice so n cp] 27)).alloc (.cells #[.string { data := #[] }, .string { data := #[] }, .int .i64 0, .bool false, .string { data := #[] }, .slice none 0 0] 27)) = w1 at *
  have HACC : Hid (Below w1.heap.size w1 w1) := Below.refl _ _
  have hs1 := HZ.out.lt
  obtain ⟨c0, c1, c2, c3, c4, c5⟩ := HC.out.cells
  obtain ⟨f0, f1, f2, f3, f4, f5⟩ := HC.out.thaw
  go_region_held3 (fun W => (W.cell? ⟨w.heap.size, 0, none⟩ = some (.string id) ∧ W.cell? ⟨w.heap.size, 1, none⟩ = some (.string secret) ∧ W.cell? ⟨w.heap.size, 4, none⟩ = some (.string url))) (go_keep) (first | (go_at_call 93; refine (clone_any _ _ (by first | exact hi | exact hse | exact hu)).mono ?_; rintro e wx ⟨rfl, hbx⟩; have HNW : Hid (Below w1.heap.size w1 wx) := (by first | exact acc_drew HACC.out hbx | exact acc_step HACC.out hbx); clear HACC hbx; have HACC := HNW; clear HNW; have HCX := hide (HC.out.keep HACC.out (by omega)); obtain ⟨x0, x1, x2, x3, x4, x5⟩ := HCX.out.cells; obtain ⟨y0, y1, y2, y3, y4, y5⟩ := HCX.out.thaw; obtain ⟨s0, s1, s4⟩ := HCX.out.self))
  clear s0 s1 s4 c0 c1 c2 c3 c4 c5 f0 f1 f2 f3 f4 f5
  have hsx := HACC.out.size
  have HBW : Hid (Below w.heap.size w wx) := HBX.out.trans (HACC.out.mono (by omega))
  go_wp2_with (first | (go_at_call 94; refine (cloneS_any n cp so l wx HN.out hl (HR.out.keep HBW.out)).mono ?_))
  rintro e w2 ⟨fo, fc, rfl, HO⟩
  have HC2 := hide (HCX.out.keep HO.out.2 HCX.out.lt)
  have HC3 : Hid (C6 (w2.setCell ⟨w.heap.size, 5, none⟩ (.slice fo n fc)) w.heap.size (.string id) (.string secret) (.int .i64 gr) (.bool pg) (.string url) (.slice fo n fc)) := HC2.out.set 5 _ rfl
  have HB3 : Hid (Below w.heap.size w (w2.setCell ⟨w.heap.size, 5, none⟩ (.slice fo n fc))) := (HBW.out.trans (HO.out.2.mono HBW.out.size)).trans (below_of_grown (grown_set _ _ _ _) (Nat.le_refl _) (by have := HBW.out.size; have := HO.out.2.size; omega))
  have HO3 : Hid (SOwn (w2.setCell ⟨w.heap.size, 5, none⟩ (.slice fo n fc)) wx.heap.size (.slice fo n fc) l) := HO.out.1.grown (grown_set _ _ _ _) (by omega)
  have HZ3 : Hid (C6 (w2.setCell ⟨w.heap.size, 5, none⟩ (.slice fo n fc)) (w.heap.size + 1) (.string { data := #[] }) (.string { data := #[] }) (.int .i64 0) (.bool false) (.string { data := #[] }) (.slice none 0 0)) := by
    have h1 := (HZ.out.keep HACC.out hs1).keep HO.out.2 (by omega)
    exact ((grown_set w2 w.heap.size 5 (.slice fo n fc)).block (w.heap.size + 1) h1.lt (by simp)).trans h1
  obtain ⟨p0, p1, p2, p3, p4, p5⟩ := HC2.out.cells
  obtain ⟨q0, q1, q2, q3, q4, q5⟩ := HC2.out.thaw
  clear HO HC HCX x0 x1 x2 x3 x4 x5 y0 y1 y2 y3 y4 y5 HZ
  go_upto_region 3 with fail
  generalize w2.setCell ⟨w.heap.size, 5, none⟩ (.slice fo n fc) = w3 at *
  clear p0 p1 p2 p3 p4 p5 q0 q1 q2 q3 q4 q5 HC2
  have hs3 := HZ3.out.lt
  obtain ⟨c0, c1, c2, c3, c4, c5⟩ := HC3.out.cells
  go_wp2
  go_loopw [24] (fun i wr => ∃ k : Nat, k ≤ n ∧ i = .int .i64 (k : Int) ∧ Hid (Below w3.heap.size w3 wr)) (fun i _ => n - (intOf i).toNat)
  case atStart => exact ⟨0, Nat.zero_le _, rfl, Below.refl _ _⟩
  case round =>
    obtain ⟨k, hk, rfl, HBR⟩ := hrel
    have hsr := HBR.out.size
    by_cases hlt : k < n
    · obtain ⟨u, hu⟩ : ∃ u, l[k]? = some u := ⟨_, List.getElem?_eq_getElem (by rw [← HN.out]; exact hlt)⟩
      have hul := HLS.out u (List.mem_of_getElem? hu)
      obtain ⟨g, rfl, hgb, d0, d1, -⟩ := (HO3.out.keep HBR.out).at hu
      have HU := hide hu
      obtain ⟨ub, HUB⟩ : ∃ ub : ByteArray, Hid (ub = ⟨u.toArray⟩) := ⟨_, hide rfl⟩
      have d0' : wr.cell? ⟨g, k, none⟩ = some (.string ub) := by rw [HUB.out]; exact d0
      have hus : ub.size ≤ 281474976710656 := by rw [HUB.out, u_size]; exact hul
      have e5 : wr.cell? ⟨w.heap.size, 5, none⟩ = some (.slice (some ⟨g, 0, none⟩) n fc) := cell_kept c5 HBR.out
      clear hu hul d0
      go_upto_region 6 with fail
      go_region_held3 (fun W => W.cell? ⟨w.heap.size, 5, none⟩ = some (.slice (some ⟨g, 0, none⟩) n fc)) (go_keep) (first | (go_at_call 93; refine (clone_any ub _ hus).mono ?_; rintro e wy ⟨rfl, hby⟩; have HBY : Hid (Below w3.heap.size w3 wy) := (by first | exact acc_drew HBR.out hby | exact acc_step HBR.out hby); clear hby; have h5 : wy.cell? ⟨w.heap.size, 5, none⟩ = some (.slice (some ⟨g, 0, none⟩) n fc) := cell_kept c5 HBY.out; obtain ⟨g2, hg2, -, t0, t1, t2⟩ := (HO3.out.keep HBY.out).at HU.out; cases hg2; rw [show encStr u = .string ub by rw [HUB.out]] at t0 t2))
      clear t2
      go_wp2
      go_roundw
      case rel => exact ⟨k + 1, by omega, by go_num, HBY⟩
      case measure => simp [intOf]; omega
    · have HCR := hide (HC3.out.keep HBR.out (by omega))
      have HZR := hide (HZ3.out.keep HBR.out hs3)
      obtain ⟨d0, d1, d2, d3, d4, d5⟩ := HCR.out.cells
      obtain ⟨e0, e1, e2, e3, e4, e5⟩ := HZR.out.cells
      obtain ⟨h0, h1, h2, h3, h4, h5⟩ := HZR.out.thaw
      go_wp2
      refine bodyPost_ret (c6_results1 rfl rfl (HZR.out.put _ _ _ _ _ _)) rfl ?_
      refine ⟨trivial, fo, n, fc, rfl, ?_, ?_, (HB3.out.trans (HBR.out.mono (by omega))).trans (below_of_grown (putC_grown _ _ _ _ _ _ _ _) (by omega) (by omega))⟩
      · have hso := (HO3.out.keep HBR.out).grown (putC_grown wr (w.heap.size + 1) (.string id) (.string secret) (.int .i64 gr) (.bool pg) (.string url) (.slice fo n fc)) (by omega)
        obtain ⟨a', c', e, hle, _, _⟩ := hso.shape
        cases e
        exact ⟨HN.out, by rw [HN.out]; exact hle, hso.row, hso.ty⟩
      · intro a ha
        obtain ⟨a', c', e, _, _, hb⟩ := HO3.out.shape
        cases e
        have := hb a ha
        have := HBW.out.size
        omega
end Go.Proofs.YtlhgjicichjbgaaGreatDoor
