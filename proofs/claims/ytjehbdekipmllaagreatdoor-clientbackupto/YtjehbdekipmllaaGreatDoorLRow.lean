/- Rows of clients in memory: six cells a client. The program's copied: a client in memory of its own. The program's placeOf; rows of clients that are a call's own. The program's Find: every name in every list. -/
import Derived.Test.YtjehbdekipmllaaGreatDoorLRead
import Derived.Test.YtjehbdekipmllaaGreatDoorXStr
import Derived.Shelf.Slices.Clone
import Derived.Deep.RegionHeld3
import Derived.Laws.AppendOwnNone
namespace Go.Proofs.YtjehbdekipmllaaGreatDoor
open Go.RowKit

/-- A client's six cells from a place on. -/
def CAt (w : World) (b o : Nat) (c : Cl) (so : Option Addr) (n cp : Nat) : Prop := w.cell? ⟨b, o, none⟩ = some (.string c.id) ∧ w.cell? ⟨b, o + 1, none⟩ = some (.string c.secret) ∧ w.cell? ⟨b, o + 2, none⟩ = some (.int .i64 c.grants) ∧ w.cell? ⟨b, o + 3, none⟩ = some (.bool c.ping) ∧ w.cell? ⟨b, o + 4, none⟩ = some (.string c.url) ∧ w.cell? ⟨b, o + 5, none⟩ = some (.slice so n cp) ∧ SAt w so n cp c.scopes
theorem CAt.keep {w w' : World} {b o : Nat} {c : Cl} {so : Option Addr} {n cp : Nat} (h : CAt w b o c so n cp) (hb : Below w.heap.size w w') : CAt w' b o c so n cp := by
  obtain ⟨h0, h1, h2, h3, h4, h5, h6⟩ := h
  exact ⟨cell_kept h0 hb, cell_kept h1 hb, cell_kept h2 hb, cell_kept h3 hb, cell_kept h4 hb, cell_kept h5 hb, h6.keep hb⟩
def CRow (w : World) (ao : Option Addr) (l : List Cl) : Prop :=
  l = [] ∨ ∃ b off, ao = some ⟨b, off, none⟩ ∧ ∀ i c, l[i]? = some c → ∃ so n cp, CAt w b (off + i * 6) c so n cp
theorem CRow.keep {w w' : World} {ao : Option Addr} {l : List Cl} (h : CRow w ao l) (hb : Below w.heap.size w w') : CRow w' ao l := by
  rcases h with h | ⟨b, off, rfl, hc⟩
  · exact .inl h
  · refine .inr ⟨b, off, rfl, fun i c hi => ?_⟩
    obtain ⟨so, n, cp, h⟩ := hc i c hi
    exact ⟨so, n, cp, h.keep hb⟩
theorem CRow.form {w : World} {ao : Option Addr} {l : List Cl} (h : CRow w ao l) (hne : 0 < l.length) : ∃ b off, ao = some ⟨b, off, none⟩ := by
  rcases h with rfl | ⟨b, off, rfl, _⟩
  · simp at hne
  · exact ⟨b, off, rfl⟩
theorem CRow.cell {w : World} {b off : Nat} {l : List Cl} (h : CRow w (some ⟨b, off, none⟩) l) {i : Nat} {c : Cl} (hi : l[i]? = some c) : ∃ so n cp, CAt w b (off + i * 6) c so n cp := by
  rcases h with rfl | ⟨b', off', h, hc⟩
  · simp at hi
  · cases h; exact hc i c hi

/-- The same of a list that is handed in: nothing is said of the types of the blocks behind it. -/
def CAt0 (w : World) (b o : Nat) (c : Cl) (so : Option Addr) (n cp : Nat) : Prop := w.cell? ⟨b, o, none⟩ = some (.string c.id) ∧ w.cell? ⟨b, o + 1, none⟩ = some (.string c.secret) ∧ w.cell? ⟨b, o + 2, none⟩ = some (.int .i64 c.grants) ∧ w.cell? ⟨b, o + 3, none⟩ = some (.bool c.ping) ∧ w.cell? ⟨b, o + 4, none⟩ = some (.string c.url) ∧ w.cell? ⟨b, o + 5, none⟩ = some (.slice so n cp) ∧ n = c.scopes.length ∧ n ≤ cp ∧ SRow w so c.scopes
def CRow0 (w : World) (ao : Option Addr) (l : List Cl) : Prop :=
  l = [] ∨ ∃ b off, ao = some ⟨b, off, none⟩ ∧ ∀ i c, l[i]? = some c → ∃ so n cp, CAt0 w b (off + i * 6) c so n cp
theorem CRow.to0 {w : World} {ao : Option Addr} {l : List Cl} (h : CRow w ao l) : CRow0 w ao l := by
  rcases h with h | ⟨b, off, rfl, hc⟩
  · exact .inl h
  · refine .inr ⟨b, off, rfl, fun i c hi => ?_⟩
    obtain ⟨so, n, cp, h0, h1, h2, h3, h4, h5, h6⟩ := hc i c hi
    exact ⟨so, n, cp, h0, h1, h2, h3, h4, h5, h6.1, h6.2.1, h6.2.2.1⟩
theorem CRow0.keep {w w' : World} {ao : Option Addr} {l : List Cl} (h : CRow0 w ao l) (hb : Below w.heap.size w w') : CRow0 w' ao l := by
  rcases h with h | ⟨b, off, rfl, hc⟩
  · exact .inl h
  · refine .inr ⟨b, off, rfl, fun i c hi => ?_⟩
    obtain ⟨so, n, cp, h0, h1, h2, h3, h4, h5, h6, h7, h8⟩ := hc i c hi
    exact ⟨so, n, cp, cell_kept h0 hb, cell_kept h1 hb, cell_kept h2 hb, cell_kept h3 hb, cell_kept h4 hb, cell_kept h5 hb, h6, h7, h8.keep hb⟩
theorem CRow0.form {w : World} {ao : Option Addr} {l : List Cl} (h : CRow0 w ao l) (hne : 0 < l.length) : ∃ b off, ao = some ⟨b, off, none⟩ := by
  rcases h with rfl | ⟨b, off, rfl, _⟩
  · simp at hne
  · exact ⟨b, off, rfl⟩
theorem CRow0.cell {w : World} {b off : Nat} {l : List Cl} (h : CRow0 w (some ⟨b, off, none⟩) l) {i : Nat} {c : Cl} (hi : l[i]? = some c) : ∃ so n cp, CAt0 w b (off + i * 6) c so n cp := by
  rcases h with rfl | ⟨b', off', h, hc⟩
  · simp at hi
  · cases h; exact hc i c hi

/-- Where the first client of that name stands. -/
def posOf (l : List Cl) (id : ByteArray) : Option Nat := l.findIdx? fun c => decide (c.id = id)
def posI : Option Nat → Int
  | some i => i
  | none => -1
set_option maxHeartbeats 400000 in
set_option maxRecDepth 100000 in
theorem isThat_any (id secret url x : ByteArray) (gr : Int) (pg : Bool) (so : Option Addr) (n cp N : Nat) (w : World) (hx : w.cell? ⟨N, 0, none⟩ = some (.string x)) :
    Calls Tryz.prog 78 #[.agg #[.string id, .string secret, .int .i64 gr, .bool pg, .string url, .slice so n cp], .pointer (some ⟨N, 0, none⟩)] w fun e w' => e = .returned (.bool (decide (id = x))) ∧ Below w.heap.size w w' := by
  obtain ⟨B, HB⟩ : ∃ B, Hid (B = decide (id = x)) := ⟨_, hide rfl⟩
  have hb : (id.toList == x.toList) = B := by rw [HB.out]; exact str_eq id x
  have hn := World.block_lt_of_cell? w _ hx
  have hn2 : ¬ N = w.heap.size := by simp only at hn; omega
  rw [← HB.out]
  clear HB
  go_enter Tryz.func78, Tryz.ntmps78
  go_wp2
  go_ret
  exact ⟨rfl, below_new _ _⟩
end Go.Proofs.YtjehbdekipmllaaGreatDoor
namespace Go.Proofs.YtjehbdekipmllaaGreatDoor
open Go.RowKit

theorem setCell_self {w : World} {g i : Nat} {cs : Array Value} {t : TypeId} {fz : Nat × Nat} {v : Value} (h : w.heap[g]? = some (.cells cs t fz)) (hv : cs[i]? = some v) : w.setCell ⟨g, i, none⟩ v = w := by
  have hh : ∀ k : Nat, (w.setCell ⟨g, i, none⟩ v).heap[k]? = w.heap[k]? := by
    intro k
    by_cases hk : k = g
    · subst hk
      rw [setCell_eq_setRow w k i _ _ _ _ h, setRow_heap w k _ _ _ _ h, h]
      congr 2
      apply Array.ext_getElem?
      intro j
      rw [Array.getElem?_setIfInBounds]
      by_cases hj : i = j
      · subst hj
        rw [if_pos rfl, hv]
        have := (Array.getElem?_eq_some_iff.1 hv).1
        rw [if_pos this]
      · rw [if_neg hj]
    · exact Below.heap_setCell _ _ _ _ hk
  have e : (w.setCell ⟨g, i, none⟩ v).heap = w.heap := Array.ext_getElem? hh
  show World.mk (w.setCell ⟨g, i, none⟩ v).heap w.tape w.drawn w.os w.output = w
  rw [e]
theorem cloneS_any (n cp : Nat) (so : Option Addr) (l : List U) (w : World) (hn : n = l.length) (hl : n * 16 ≤ 140737488355328) (hr : SRow w so l) :
    Calls Tryz.prog 108 #[.slice so n cp] w fun e w' => ∃ fo fc, e = .returned (.slice fo n fc) ∧ Hid (SOwn w' w.heap.size (.slice fo n fc) l ∧ Below w.heap.size w w') := by
  have fin : ∀ (w' : World) (v : Value), w'.ownsRow w.heap.size 9 1 v n (l.map encStr) → ∃ fo fc, v = .slice fo n fc ∧ SOwn w' w.heap.size (.slice fo n fc) l := by
    intro w' v h
    have h2 : SOwn w' w.heap.size v l := by unfold SOwn; rw [← hn]; exact h
    obtain ⟨fo, fc, e, _⟩ := h2.shape
    rw [← hn] at e
    subst e
    exact ⟨fo, fc, rfl, h2⟩
  cases so with
  | none =>
    have h0 : l = [] := by
      rcases hr with h | ⟨b, off, h, _⟩
      · exact h
      · cases h
    subst h0
    have hn0 : n = 0 := hn
    subst hn0
    refine (Any.slices_Clone_string_nil laysNm216 0 cp w).mono ?_
    rintro e w' ⟨rfl, rfl⟩
    exact ⟨none, 0, rfl, sown_nil _ _, Below.refl _ _⟩
  | some a =>
    by_cases h0 : n = 0
    · subst h0
      have hl0 : l = [] := List.length_eq_zero_iff.1 hn.symm
      subst hl0
      refine (Any.slices_Clone_string_zero laysNm216 a cp w).mono ?_
      rintro e w' ⟨v, rfl, ho, _, hb⟩
      obtain ⟨fo, fc, rfl, h⟩ := fin w' v ho
      exact ⟨fo, fc, rfl, h, hb⟩
    · rcases hr with rfl | ⟨b, off, ha, hc⟩
      · exact absurd hn h0
      · cases ha
        refine (Any.slices_Clone_string laysNm216 b off n cp (l.map fun u => ⟨u.toArray⟩) w (by simp; omega) hl ?_).mono ?_
        · intro j hj
          rw [List.length_map] at hj
          rw [hc j l[j] (List.getElem?_eq_getElem hj)]
          simp [hj]
        · rintro e w' ⟨v, rfl, ho, _, hb⟩
          rw [List.take_of_length_le (by simp; omega), List.map_map] at ho
          obtain ⟨fo, fc, rfl, h⟩ := fin w' v ho
          exact ⟨fo, fc, rfl, h, hb⟩
/-- A client's box, and what was there before. -/
def Acc (w : World) (N : Nat) (v0 v1 v2 v3 v4 v5 : Value) (W : World) : Prop := Below w.heap.size w W ∧ Below N w W ∧ C6 W N v0 v1 v2 v3 v4 v5
theorem C6.self {w : World} {N : Nat} {v0 v1 v2 v3 v4 v5 : Value} (h : C6 w N v0 v1 v2 v3 v4 v5) : w.setCell ⟨N, 0, none⟩ v0 = w ∧ w.setCell ⟨N, 1, none⟩ v1 = w ∧ w.setCell ⟨N, 4, none⟩ v4 = w := ⟨setCell_self h rfl, setCell_self h rfl, setCell_self h rfl⟩
theorem acc_step {w1 W wx : World} (h : Below w1.heap.size w1 W) (hb : Below W.heap.size W wx) : Below w1.heap.size w1 wx := h.trans (hb.mono h.size)
theorem acc_drew {w1 W wx : World} (h : Below w1.heap.size w1 W) (hb : Below W.drew.heap.size W.drew wx) : Below w1.heap.size w1 wx := acc_step h (below_undrewN1 hb)
/-- What copied leaves. -/
def CpEnd (w : World) (id secret : ByteArray) (gr : Int) (pg : Bool) (url : ByteArray) (l : List U) (e : Ending) (w' : World) : Prop := ∃ so n cp, e = .returned (.agg #[.string id, .string secret, .int .i64 gr, .bool pg, .string url, .slice so n cp]) ∧ SAt w' so n cp l ∧ (∀ a, so = some a → w.heap.size ≤ a.block) ∧ Below w.heap.size w w'
/-- .. and that its list is the call's own. -/
def CpOwn (w : World) (id secret : ByteArray) (gr : Int) (pg : Bool) (url : ByteArray) (l : List U) (e : Ending) (w' : World) : Prop := ∃ so n cp, e = .returned (.agg #[.string id, .string secret, .int .i64 gr, .bool pg, .string url, .slice so n cp]) ∧ n = l.length ∧ SOwn w' w.heap.size (.slice so n cp) l ∧ Below w.heap.size w w'
theorem c6_results1 {fn : Func} {slot N : Nat} (h : fn.results = #[.cell slot 47]) {tmps : Array Value} (hs : tmps.getD slot undef = .pointer (some ⟨N, 0, none⟩)) {w : World} {v0 v1 v2 v3 v4 v5 : Value} (hb : C6 w N v0 v1 v2 v3 v4 v5) : (results fn tmps).run Tryz.prog w = .ok (.agg #[v0, v1, v2, v3, v4, v5]) w := by
  obtain ⟨j0, j1, j2, j3, j4, j5⟩ := hb.cells
  have hs' : tmps[slot]?.getD undef = .pointer (some ⟨N, 0, none⟩) := by simpa using hs
  simp [results, h, go_sem, hs', j0, j1, j2, j3, j4, j5]
theorem SOwn.grown {w w' : World} {B N : Nat} {v : Value} {l : List U} (h : SOwn w B v l) (hg : w.grownBy w' (some N)) (hN : N < B) : SOwn w' B v l := by
  refine ⟨h.1, ?_⟩
  rcases h.2 with h2 | ⟨g, cap, cur, e, hb, hh, r⟩
  · exact .inl h2
  · exact .inr ⟨g, cap, cur, e, hb, (hg.block g (Array.getElem?_eq_some_iff.1 hh).1 (fun e => by simp only [Option.some.injEq] at e; omega)).trans hh, r⟩
theorem SOwn.at {w : World} {B n c k : Nat} {ao : Option Addr} {l : List U} {u : U} (h : SOwn w B (.slice ao n c) l) (hk : l[k]? = some u) : ∃ g, ao = some ⟨g, 0, none⟩ ∧ B ≤ g ∧ w.cell? ⟨g, k, none⟩ = some (encStr u) ∧ w.frozen? ⟨g, k, none⟩ = false ∧ w.setCell ⟨g, k, none⟩ (encStr u) = w := by
  have hkl := (List.getElem?_eq_some_iff.1 hk).1
  rcases h.2 with ⟨_, h2⟩ | ⟨g, cap, cur, e, hb, hh, hle, _, hsz, ht⟩
  · omega
  · cases e
    have hc : cur[k]? = some (encStr u) := by
      have h3 : (cur.toList.take (l.length * 1))[k]? = some (encStr u) := by rw [ht, List.getElem?_map, hk]; rfl
      rw [List.getElem?_take, if_pos (by omega)] at h3
      rw [← Array.getElem?_toList]
      exact h3
    refine ⟨g, rfl, hb, ?_, ?_, setCell_self hh hc⟩
    · rw [cell_of_row w g k _ _ _ hh]; exact hc
    · simp only [World.frozen?, hh]; simp
set_option maxHeartbeats 2000000 in
set_option maxRecDepth 100000 in
theorem copied_own (id secret url : ByteArray) (gr : Int) (pg : Bool) (l : List U) (so : Option Addr) (n cp : Nat) (w : World) (hn : n = l.length) (hl : n * 16 ≤ 140737488355328) (hr : SRow w so l)
    (hi : id.size ≤ 281474976710656) (hse : secret.size ≤ 281474976710656) (hu : url.size ≤ 281474976710656) (hls : ∀ u ∈ l, u.length ≤ 281474976710656) :
    Calls Tryz.prog 84 #[.agg #[.string id, .string secret, .int .i64 gr, .bool pg, .string url, .slice so n cp]] w fun e w' => True ∧ CpOwn w id secret gr pg url l e w' := by
  have HN : Hid (n = l.length) := hn
  have HR : Hid (SRow w so l) := hr
  have HLS : Hid (∀ u ∈ l, u.length ≤ 281474976710656) := hls
  clear hn hr hls
  go_enter Tryz.func84, Tryz.ntmps84
  go_upto_region 1 with fail
  have HBX : Hid (Below w.heap.size w ((w.alloc (.cells #[.string id, .string secret, .int .i64 gr, .bool pg, .string url, .slice so n cp] 47)).alloc (.cells #[.string { data := #[] }, .string { data := #[] }, .int .i64 0, .bool false, .string { data := #[] }, .slice none 0 0] 47))) := (below_new w _).trans ((below_new _ _).mono (by simp))
  have HC : Hid (C6 ((w.alloc (.cells #[.string id, .string secret, .int .i64 gr, .bool pg, .string url, .slice so n cp] 47)).alloc (.cells #[.string { data := #[] }, .string { data := #[] }, .int .i64 0, .bool false, .string { data := #[] }, .slice none 0 0] 47)) w.heap.size (.string id) (.string secret) (.int .i64 gr) (.bool pg) (.string url) (.slice so n cp)) := C6.keep (heap_alloc_new w _) (below_new _ _) (by simp)
  have HZ : Hid (C6 ((w.alloc (.cells #[.string id, .string secret, .int .i64 gr, .bool pg, .string url, .slice so n cp] 47)).alloc (.cells #[.string { data := #[] }, .string { data := #[] }, .int .i64 0, .bool false, .string { data := #[] }, .slice none 0 0] 47)) (w.heap.size + 1) (.string { data := #[] }) (.string { data := #[] }) (.int .i64 0) (.bool false) (.string { data := #[] }) (.slice none 0 0)) := by
    have h := C6.new (w.alloc (.cells #[.string id, .string secret, .int .i64 gr, .bool pg, .string url, .slice so n cp] 47))
    rw [show (w.alloc (.cells #[.string id, .string secret, .int .i64 gr, .bool pg, .string url, .slice so n cp] 47)).heap.size = w.heap.size + 1 by simp] at h
    exact h
  generalize ((w.alloc (.cells #[.string id, .string secret, .int .i64 gr, .bool pg, .string url, .slice so n cp] 47)).alloc (.cells #[.string { data := #[] }, .string { data := #[] }, .int .i64 0, .bool false, .string { data := #[] }, .slice none 0 0] 47)) = w1 at *
  have HACC : Hid (Below w1.heap.size w1 w1) := Below.refl _ _
  have hs1 := HZ.out.lt
  obtain ⟨c0, c1, c2, c3, c4, c5⟩ := HC.out.cells
  obtain ⟨f0, f1, f2, f3, f4, f5⟩ := HC.out.thaw
  go_region_held3 (fun W => (W.cell? ⟨w.heap.size, 0, none⟩ = some (.string id) ∧ W.cell? ⟨w.heap.size, 1, none⟩ = some (.string secret) ∧ W.cell? ⟨w.heap.size, 4, none⟩ = some (.string url))) (go_keep) (first | (go_at_call 71; refine (clone_any _ _ (by first | exact hi | exact hse | exact hu)).mono ?_; rintro e wx ⟨rfl, hbx⟩; have HNW : Hid (Below w1.heap.size w1 wx) := (by first | exact acc_drew HACC.out hbx | exact acc_step HACC.out hbx); clear HACC hbx; have HACC := HNW; clear HNW; have HCX := hide (HC.out.keep HACC.out (by omega)); obtain ⟨x0, x1, x2, x3, x4, x5⟩ := HCX.out.cells; obtain ⟨y0, y1, y2, y3, y4, y5⟩ := HCX.out.thaw; obtain ⟨s0, s1, s4⟩ := HCX.out.self))
  clear s0 s1 s4 c0 c1 c2 c3 c4 c5 f0 f1 f2 f3 f4 f5
  have hsx := HACC.out.size
  have HBW : Hid (Below w.heap.size w wx) := HBX.out.trans (HACC.out.mono (by omega))
  go_wp2_with (first | (go_at_call 108; refine (cloneS_any n cp so l wx HN.out hl (HR.out.keep HBW.out)).mono ?_))
  rintro e w2 ⟨fo, fc, rfl, HO⟩
  have HC2 := hide (HCX.out.keep HO.out.2 HCX.out.lt)
  have HC3 : Hid (C6 (w2.setCell ⟨w.heap.size, 5, none⟩ (.slice fo n fc)) w.heap.size (.string id) (.string secret) (.int .i64 gr) (.bool pg) (.string url) (.slice fo n fc)) := HC2.out.set 5 _ rfl
  have HB3 : Hid (Below w.heap.size w (w2.setCell ⟨w.heap.size, 5, none⟩ (.slice fo n fc))) := (HBW.out.trans (HO.out.2.mono HBW.out.size)).trans (below_of_grown (grown_set _ _ _ _) (Nat.le_refl _) (by have := HBW.out.size; have := HO.out.2.size; omega))
  have HO3 : Hid (SOwn (w2.setCell ⟨w.heap.size, 5, none⟩ (.slice fo n fc)) wx.heap.size (.slice fo n fc) l) := HO.out.1.grown (grown_set _ _ _ _) (by omega)
  have HZ3 : Hid (C6 (w2.setCell ⟨w.heap.size, 5, none⟩ (.slice fo n fc)) (w.heap.size + 1) (.string { data := #[] }) (.string { data := #[] }) (.int .i64 0) (.bool false) (.string { data := #[] }) (.slice none 0 0)) := by
    have h1 := (HZ.out.keep HACC.out hs1).keep HO.out.2 (by omega)
    exact ((grown_set w2 w.heap.size 5 (.slice fo n fc)).block (w.heap.size + 1) h1.lt (by simp)).trans h1
  obtain ⟨p0, p1, p2, p3, p4, p5⟩ := HC2.out.cells
  obtain ⟨q0, q1, q2, q3, q4, q5⟩ := HC2.out.thaw
  clear HO HC HCX x0 x1 x2 x3 x4 x5 y0 y1 y2 y3 y4 y5 HZ
  go_upto_region 3 with fail
  generalize w2.setCell ⟨w.heap.size, 5, none⟩ (.slice fo n fc) = w3 at *
  clear p0 p1 p2 p3 p4 p5 q0 q1 q2 q3 q4 q5 HC2
  have hs3 := HZ3.out.lt
  obtain ⟨c0, c1, c2, c3, c4, c5⟩ := HC3.out.cells
  go_wp2
  go_loopw [24] (fun i wr => ∃ k : Nat, k ≤ n ∧ i = .int .i64 (k : Int) ∧ Hid (Below w3.heap.size w3 wr)) (fun i _ => n - (intOf i).toNat)
  case atStart => exact ⟨0, Nat.zero_le _, rfl, Below.refl _ _⟩
  case round =>
    obtain ⟨k, hk, rfl, HBR⟩ := hrel
    have hsr := HBR.out.size
    by_cases hlt : k < n
    · obtain ⟨u, hu⟩ : ∃ u, l[k]? = some u := ⟨_, List.getElem?_eq_getElem (by rw [← HN.out]; exact hlt)⟩
      have hul := HLS.out u (List.mem_of_getElem? hu)
      obtain ⟨g, rfl, hgb, d0, d1, -⟩ := (HO3.out.keep HBR.out).at hu
      have HU := hide hu
      obtain ⟨ub, HUB⟩ : ∃ ub : ByteArray, Hid (ub = ⟨u.toArray⟩) := ⟨_, hide rfl⟩
      have d0' : wr.cell? ⟨g, k, none⟩ = some (.string ub) := by rw [HUB.out]; exact d0
      have hus : ub.size ≤ 281474976710656 := by rw [HUB.out, u_size]; exact hul
      have e5 : wr.cell? ⟨w.heap.size, 5, none⟩ = some (.slice (some ⟨g, 0, none⟩) n fc) := cell_kept c5 HBR.out
      clear hu hul d0
      go_upto_region 6 with fail
      go_region_held3 (fun W => W.cell? ⟨w.heap.size, 5, none⟩ = some (.slice (some ⟨g, 0, none⟩) n fc)) (go_keep) (first | (go_at_call 71; refine (clone_any ub _ hus).mono ?_; rintro e wy ⟨rfl, hby⟩; have HBY : Hid (Below w3.heap.size w3 wy) := (by first | exact acc_drew HBR.out hby | exact acc_step HBR.out hby); clear hby; have h5 : wy.cell? ⟨w.heap.size, 5, none⟩ = some (.slice (some ⟨g, 0, none⟩) n fc) := cell_kept c5 HBY.out; obtain ⟨g2, hg2, -, t0, t1, t2⟩ := (HO3.out.keep HBY.out).at HU.out; cases hg2; rw [show encStr u = .string ub by rw [HUB.out]] at t0 t2))
      clear t2
      go_wp2
      go_roundw
      case rel => exact ⟨k + 1, by omega, by go_num, HBY⟩
      case measure => simp [intOf]; omega
    · have HCR := hide (HC3.out.keep HBR.out (by omega))
      have HZR := hide (HZ3.out.keep HBR.out hs3)
      obtain ⟨d0, d1, d2, d3, d4, d5⟩ := HCR.out.cells
      obtain ⟨e0, e1, e2, e3, e4, e5⟩ := HZR.out.cells
      obtain ⟨h0, h1, h2, h3, h4, h5⟩ := HZR.out.thaw
      go_wp2
      refine bodyPost_ret (c6_results1 rfl rfl (HZR.out.put _ _ _ _ _ _)) rfl ?_
      refine ⟨trivial, fo, n, fc, rfl, HN.out, ?_, (HB3.out.trans (HBR.out.mono (by omega))).trans (below_of_grown (putC_grown _ _ _ _ _ _ _ _) (by omega) (by omega))⟩
      exact ((HO3.out.keep HBR.out).grown (putC_grown wr (w.heap.size + 1) (.string id) (.string secret) (.int .i64 gr) (.bool pg) (.string url) (.slice fo n fc)) (by omega)).lower HBW.out.size
theorem sat_own {w : World} {B n cp : Nat} {so : Option Addr} {l : List U} (hn : n = l.length) (h : SOwn w B (.slice so n cp) l) : SAt w so n cp l ∧ ∀ a, so = some a → B ≤ a.block := by
  obtain ⟨a', c', e, hle, _, hb⟩ := h.shape
  cases e
  exact ⟨⟨hn, by rw [hn]; exact hle, h.row, h.ty⟩, hb⟩
theorem copied_any (id secret url : ByteArray) (gr : Int) (pg : Bool) (l : List U) (so : Option Addr) (n cp : Nat) (w : World) (hn : n = l.length) (hl : n * 16 ≤ 140737488355328) (hr : SRow w so l)
    (hi : id.size ≤ 281474976710656) (hse : secret.size ≤ 281474976710656) (hu : url.size ≤ 281474976710656) (hls : ∀ u ∈ l, u.length ≤ 281474976710656) :
    Calls Tryz.prog 84 #[.agg #[.string id, .string secret, .int .i64 gr, .bool pg, .string url, .slice so n cp]] w fun e w' => True ∧ CpEnd w id secret gr pg url l e w' := by
  refine (copied_own id secret url gr pg l so n cp w hn hl hr hi hse hu hls).mono ?_
  rintro e w' ⟨-, fo, m, fc, rfl, hm, ho, hb⟩
  obtain ⟨h1, h2⟩ := sat_own hm ho
  exact ⟨trivial, fo, m, fc, rfl, h1, h2, hb⟩
end Go.Proofs.YtjehbdekipmllaaGreatDoor
namespace Go.Proofs.YtjehbdekipmllaaGreatDoor
open Go.RowKit

theorem posOf_none {l : List Cl} {id : ByteArray} (h : ∀ c ∈ l, c.id ≠ id) : posOf l id = none := by
  unfold posOf
  rw [List.findIdx?_eq_none_iff]
  intro c hc
  exact decide_eq_false (h c hc)
theorem posOf_at {l : List Cl} {id : ByteArray} {k : Nat} {c : Cl} (h : ∀ c ∈ l.take k, c.id ≠ id) (hk : l[k]? = some c) (hc : c.id = id) : posOf l id = some k := by
  unfold posOf
  rw [List.findIdx?_eq_some_iff_getElem]
  obtain ⟨hlt, he⟩ := List.getElem?_eq_some_iff.1 hk
  refine ⟨hlt, by rw [he]; exact decide_eq_true hc, fun j hj => ?_⟩
  have := h l[j] (List.mem_take_iff_getElem.2 ⟨j, by omega, rfl⟩)
  simpa using this
set_option maxHeartbeats 1000000 in
set_option maxRecDepth 100000 in
theorem indexFunc_any (n c N : Nat) (ao : Option Addr) (l : List Cl) (x : ByteArray) (w : World) (hn : n = l.length) (hl : n ≤ 4398046511104) (hr : CRow w ao l) (hx : w.cell? ⟨N, 0, none⟩ = some (.string x)) :
    Calls Tryz.prog 77 #[.slice ao n c, .func (.func 78) #[] #[.pointer (some ⟨N, 0, none⟩)]] w fun e w' => e = .returned (.int .i64 (posI (posOf l x))) ∧ Below w.heap.size w w' := by
  have HN : Hid (n = l.length) := hn
  have HR : Hid (CRow w ao l) := hr
  have HX : Hid (w.cell? ⟨N, 0, none⟩ = some (.string x)) := hx
  obtain ⟨P, HP⟩ : ∃ P, Hid (P = posI (posOf l x)) := ⟨_, hide rfl⟩
  rw [← HP.out]
  clear hn hr hx
  go_enter Tryz.func77, Tryz.ntmps77
  go_wp2
  go_loopw [8] (fun i wr => ∃ k : Nat, k ≤ n ∧ i = .int .i64 (k : Int) ∧ Hid (∀ c ∈ l.take k, c.id ≠ x) ∧ Hid (Below w.heap.size w wr)) (fun i _ => n - (intOf i).toNat)
  case atStart => exact ⟨0, Nat.zero_le _, rfl, by intro c hc; simp at hc, Below.refl _ _⟩
  case round =>
    obtain ⟨k, hk, rfl, HA, HB⟩ := hrel
    have hsz := HB.out.size
    by_cases hlt : k < n
    · obtain ⟨b, off, rfl⟩ := HR.out.form (by rw [← HN.out]; omega)
      obtain ⟨q, hq⟩ : ∃ q, l[k]? = some q := ⟨_, List.getElem?_eq_getElem (by rw [← HN.out]; exact hlt)⟩
      obtain ⟨so, m, cp, c0, c1, c2, c3, c4, c5, -⟩ := (HR.out.keep HB.out).cell hq
      have HQ := hide hq
      have hc := isThat_any q.id q.secret q.url x q.grants q.ping so m cp N wr (cell_kept HX.out HB.out)
      clear hq
      by_cases he : q.id = x
      · have HPK : Hid (P = (k : Int)) := by show _ = _; rw [HP.out, posOf_at HA.out HQ.out he]; rfl
        rw [decide_eq_true he] at hc
        clear he
        go_wp2_with (first | (go_at_call 78; refine hc.mono ?_))
        rintro e w2 ⟨rfl, hb2⟩
        have HB2 := hide (HB.out.trans (hb2.mono hsz))
        clear hb2
        go_wp2
        go_ret
        exact ⟨by rw [HPK.out]; rfl, HB2.out⟩
      · have HA2 : Hid (∀ c ∈ l.take (k + 1), c.id ≠ x) := by
          intro c hc
          rw [List.take_add_one, HQ.out] at hc
          rcases List.mem_append.1 hc with hc | hc
          · exact HA.out c hc
          · simp at hc; subst hc; exact he
        rw [decide_eq_false he] at hc
        clear he
        go_wp2_with (first | (go_at_call 78; refine hc.mono ?_))
        rintro e w2 ⟨rfl, hb2⟩
        have HB2 := hide (HB.out.trans (hb2.mono hsz))
        clear hb2
        go_wp2
        go_roundw
        case rel => exact ⟨k + 1, by omega, by go_num, HA2, HB2⟩
        case measure => simp [intOf]; omega
    · have HPN : Hid (P = -1) := by
        show _ = _
        have := HA.out
        rw [List.take_of_length_le (by rw [← HN.out]; omega)] at this
        rw [HP.out, posOf_none this]; rfl
      go_wp2
      go_ret
      exact ⟨by rw [HPN.out]; rfl, HB.out⟩
set_option maxHeartbeats 400000 in
set_option maxRecDepth 100000 in
theorem placeOf_any (n c : Nat) (ao : Option Addr) (l : List Cl) (x : ByteArray) (w : World) (hn : n = l.length) (hl : n ≤ 4398046511104) (hr : CRow w ao l) :
    Calls Tryz.prog 50 #[.slice ao n c, .string x] w fun e w' => e = .returned (.int .i64 (posI (posOf l x))) ∧ Below w.heap.size w w' := by
  have HI := indexFunc_any n c w.heap.size ao l x (w.alloc (.cells #[.string x] 9)) hn hl (hr.keep (below_new w _)) (by simp)
  obtain ⟨P, HP⟩ : ∃ P, Hid (P = posI (posOf l x)) := ⟨_, hide rfl⟩
  rw [← HP.out] at HI ⊢
  clear hn hr HP
  go_enter Tryz.func50, Tryz.ntmps50
  go_wp2_with (first | (go_at_call 77; refine HI.mono ?_))
  rintro e w2 ⟨rfl, hb2⟩
  have HB2 : Hid (Below w.heap.size w w2) := (below_new w _).trans (hb2.mono (by simp))
  clear hb2
  go_wp2
  go_ret
  exact ⟨rfl, HB2.out⟩

/-- The cells of a row of clients. -/
def Flat (w : World) (cs : List Value) (l : List Cl) : Prop := cs.length = l.length * 6 ∧ (∀ i c, l[i]? = some c → ∃ so n cp, (∀ j v, (clCells c so n cp)[j]? = some v → cs[i * 6 + j]? = some v) ∧ SAt w so n cp c.scopes) ∧ ∀ u ∈ cs, u.oneCell' = true
def COwn (w : World) (B : Nat) (v : Value) (l : List Cl) : Prop := ∃ cs, w.ownsRow B 47 6 v l.length cs ∧ Flat w cs l
theorem flat_nil (w : World) : Flat w [] [] := ⟨rfl, fun i c h => by simp at h, by simp⟩
theorem cown_nil (w : World) (B : Nat) : COwn w B (.slice none 0 0) [] := ⟨[], World.ownsRow_nil _ _ _ _, flat_nil w⟩
theorem Flat.sats {w w' : World} {cs : List Value} {l : List Cl} (h : Flat w cs l) (hk : ∀ so n cp s, SAt w so n cp s → SAt w' so n cp s) : Flat w' cs l := by
  refine ⟨h.1, fun i c hi => ?_, h.2.2⟩
  obtain ⟨so, n, cp, h1, h2⟩ := h.2.1 i c hi
  exact ⟨so, n, cp, h1, hk _ _ _ _ h2⟩
theorem COwn.keep {w w' : World} {B : Nat} {v : Value} {l : List Cl} (h : COwn w B v l) (hb : Below w.heap.size w w') : COwn w' B v l := by
  obtain ⟨cs, ho, hf⟩ := h
  refine ⟨cs, ⟨ho.1, ?_⟩, hf.sats fun _ _ _ _ h => h.keep hb⟩
  rcases ho.2 with h2 | ⟨g, cap, cur, e, hg, hh, r⟩
  · exact .inl h2
  · exact .inr ⟨g, cap, cur, e, hg, (hb.block g (Array.getElem?_eq_some_iff.1 hh).1).trans hh, r⟩
theorem COwn.shape {w : World} {B : Nat} {v : Value} {l : List Cl} (h : COwn w B v l) : ∃ ao cap, v = .slice ao l.length cap ∧ l.length ≤ cap ∧ CRow w ao l ∧ (∀ a, ao = some a → B ≤ a.block) := by
  obtain ⟨cs, ho, hf⟩ := h
  rcases ho.2 with ⟨rfl, hn⟩ | ⟨g, cap, cur, rfl, hb, hg, hle, _, _, ht⟩
  · exact ⟨none, 0, by rw [hn], by omega, .inl (List.length_eq_zero_iff.1 hn), fun a ha => by cases ha⟩
  · refine ⟨_, cap, rfl, hle, .inr ⟨g, 0, rfl, fun i c hi => ?_⟩, fun a ha => by cases ha; exact hb⟩
    obtain ⟨so, n, cp, h1, h2⟩ := hf.2.1 i c hi
    have hc : ∀ j v, (clCells c so n cp)[j]? = some v → w.cell? ⟨g, 0 + i * 6 + j, none⟩ = some v := by
      intro j v hj
      have := World.ownsRow.cells ho (g := g) rfl (i * 6 + j) v (h1 j v hj)
      rw [add_none, ← Nat.add_assoc] at this
      exact this
    exact ⟨so, n, cp, hc 0 _ rfl, hc 1 _ rfl, hc 2 _ rfl, hc 3 _ rfl, hc 4 _ rfl, hc 5 _ rfl, h2⟩
theorem Flat.snoc {w : World} {cs : List Value} {l : List Cl} (h : Flat w cs l) {c : Cl} {so : Option Addr} {n cp : Nat} (hs : SAt w so n cp c.scopes) : Flat w (cs ++ clCells c so n cp) (l ++ [c]) := by
  refine ⟨by simp [h.1, clCells]; omega, fun i d hi => ?_, ?_⟩
  · by_cases hlt : i < l.length
    · rw [List.getElem?_append_left hlt] at hi
      obtain ⟨so', n', cp', h1, h2⟩ := h.2.1 i d hi
      refine ⟨so', n', cp', fun j v hj => ?_, h2⟩
      have h3 := h1 j v hj
      rw [List.getElem?_append_left (List.getElem?_eq_some_iff.1 h3).1]
      exact h3
    · have hi2 : i = l.length := by
        have := (List.getElem?_eq_some_iff.1 hi).1
        simp at this; omega
      subst hi2
      rw [List.getElem?_append_right (Nat.le_refl _)] at hi
      simp at hi
      subst hi
      refine ⟨so, n, cp, fun j v hj => ?_, hs⟩
      rw [List.getElem?_append_right (by rw [h.1]; omega), h.1, Nat.add_sub_cancel_left]
      exact hj
  · intro u hu
    rcases List.mem_append.1 hu with hu | hu
    · exact h.2.2 u hu
    · simp only [clCells, List.mem_cons, List.not_mem_nil, or_false] at hu
      rcases hu with rfl | rfl | rfl | rfl | rfl | rfl <;> rfl
/-- A list of texts stays as it is while a row of clients grows. -/
theorem SAt.off {w w' : World} {B m : Nat} {v : Value} {cs : List Value} {so : Option Addr} {n cp : Nat} {l : List U} (h : SAt w so n cp l) (ho : w.ownsRow B 47 6 v m cs) (hg : w.grownBy w' v.ownBlock) : SAt w' so n cp l := by
  have hne : ∀ a, so = some a → l ≠ [] → some a.block ≠ v.ownBlock := by
    intro a ha h0 e
    rcases h.2.2.2 with h2 | h2
    · exact h0 h2
    · obtain ⟨xs, fz, hx⟩ := h2 a ha
      rcases ho.2 with ⟨rfl, _⟩ | ⟨g, cap, cur, rfl, _, hh, _⟩
      · simp [Value.ownBlock] at e
      · simp only [Value.ownBlock, Option.some.injEq] at e
        rw [e, hh] at hx
        simp at hx
  exact ⟨h.1, h.2.1, h.2.2.1.grownR hg hne, h.2.2.2.grown hg hne⟩
theorem wpList_append_client {w : World} {ops : Array Oper} {rest : List Oper} {o : Oper} {a : Act} {Q : Exit → Act → World → Prop} {i0 : TypeInfo} (hgd : o.guard = none) (s x : Operand)
    (ho : o.op = .call { callee := .builtin .append, args := #[s, x], argTypes := #[22, 22] }) (hi : Tryz.prog.info? 47 = some i0) (hz0 : i0.zero = some (.agg #[.string { data := #[] }, .string { data := #[] }, .int .i64 0, .bool false, .string { data := #[] }, .slice none 0 0])) (hz1 : i0.size = 6) (hz2 : i0.bytes = 88)
    (B : Nat) (v : Value) (l : List Cl) (c : Cl) (so : Option Addr) (n cp : Nat) (hs : a.eval s = v) (hown : COwn w B v l)
    (N : Nat) (hx : a.eval x = .slice (some ⟨N, 0, none⟩) 1 1) (hr : C6 w N (.string c.id) (.string c.secret) (.int .i64 c.grants) (.bool c.ping) (.string c.url) (.slice so n cp)) (hsat : SAt w so n cp c.scopes)
    (hsz : (l.length + 1) * 88 ≤ 140737488355328) (hB : B ≤ w.heap.size)
    (h : ∀ v' w', COwn w' B v' (l ++ [c]) → w.grownBy w' v.ownBlock → wpList Tryz.prog ops Q rest (a.put o.dst v') w') : wpList Tryz.prog ops Q (o :: rest) a w := by
  refine wpList_plain hgd fun K hK => ?_
  obtain ⟨cs, ho1, hf⟩ := hown
  obtain ⟨v', w', hrun, h1, h2, _⟩ := run_append_own (P := Tryz.prog) w B 22 o.type 47 i0 (.agg #[.string { data := #[] }, .string { data := #[] }, .int .i64 0, .bool false, .string { data := #[] }, .slice none 0 0]) 6 88 Tryz.underlying22 hi hz0 hz1 hz2 rfl (by decide) v l.length cs ho1 ⟨N, 0, none⟩ 1 1 (clCells c so n cp) (by simp [clCells])
    (by
      intro j u hj
      rw [add_none, Nat.zero_add, cell_of_row w N j _ 47 (0, 0) hr, ← Array.getElem?_toList]
      exact hj)
    (by
      intro u hu
      simp only [clCells, List.mem_cons, List.not_mem_nil, or_false] at hu
      rcases hu with rfl | rfl | rfl | rfl | rfl | rfl <;> rfl) (by unfold maxLen; omega) (by omega) hB
  unfold Oper.wp
  simp [execOp, ho, resolve, invoke, builtin, hs, hx, hrun, Result.andThen]
  refine hK _ _ (h v' w' ⟨_, by rw [List.length_append]; exact h1, (hf.snoc hsat).sats fun _ _ _ _ hq => hq.off ho1 h2⟩ h2)
end Go.Proofs.YtjehbdekipmllaaGreatDoor
namespace Go.Proofs.YtjehbdekipmllaaGreatDoor
open Go.RowKit

/-- A client none of whose texts is out of all measure. -/
def ClSmall (c : Cl) : Prop := c.id.size ≤ 281474976710656 ∧ c.secret.size ≤ 281474976710656 ∧ c.url.size ≤ 281474976710656 ∧ c.scopes.length * 16 ≤ 140737488355328 ∧ ∀ u ∈ c.scopes, u.length ≤ 281474976710656
def findR (l : List Cl) (id : ByteArray) : Option Cl := (posOf l id).bind (l[·]?)
theorem posOf_lt {l : List Cl} {id : ByteArray} {i : Nat} (h : posOf l id = some i) : i < l.length := by
  unfold posOf at h
  rw [List.findIdx?_eq_some_iff_getElem] at h
  exact h.1
def FdEnd (w : World) (R : Option Cl) (e : Ending) (w' : World) : Prop := ∃ (c : Cl) (so : Option Addr) (n cp : Nat), e = .returned (.tuple #[.agg #[.string c.id, .string c.secret, .int .i64 c.grants, .bool c.ping, .string c.url, .slice so n cp], .bool R.isSome]) ∧ R.getD zeroCl = c ∧ SAt w' so n cp c.scopes ∧ (∀ a, so = some a → w.heap.size ≤ a.block) ∧ Below w.heap.size w w'
/-- .. and that its list is the call's own. -/
def FdOwn (w : World) (R : Option Cl) (e : Ending) (w' : World) : Prop := ∃ (c : Cl) (so : Option Addr) (n cp : Nat), e = .returned (.tuple #[.agg #[.string c.id, .string c.secret, .int .i64 c.grants, .bool c.ping, .string c.url, .slice so n cp], .bool R.isSome]) ∧ R.getD zeroCl = c ∧ n = c.scopes.length ∧ SOwn w' w.heap.size (.slice so n cp) c.scopes ∧ Below w.heap.size w w'
set_option maxHeartbeats 1000000 in
set_option maxRecDepth 100000 in
theorem find_own (n c : Nat) (ao : Option Addr) (l : List Cl) (x : ByteArray) (w : World) (hn : n = l.length) (hl : n ≤ 4398046511104) (hr : CRow w ao l) (hz : ∀ c ∈ l, ClSmall c) :
    Calls Tryz.prog 57 #[.slice ao n c, .string x] w fun e w' => True ∧ FdOwn w (findR l x) e w' := by
  have HN : Hid (n = l.length) := hn
  have HR : Hid (CRow w ao l) := hr
  have HZ : Hid (∀ c ∈ l, ClSmall c) := hz
  have HBA : Hid (Below w.heap.size w (w.alloc (.cells #[.string { data := #[] }, .string { data := #[] }, .int .i64 0, .bool false, .string { data := #[] }, .slice none 0 0] 47))) := below_new w _
  have HC0 := hide (C6.new w)
  have HPL := placeOf_any n c ao l x (w.alloc (.cells #[.string { data := #[] }, .string { data := #[] }, .int .i64 0, .bool false, .string { data := #[] }, .slice none 0 0] 47)) hn hl (hr.keep HBA.out)
  obtain ⟨P, HP⟩ : ∃ P, Hid (P = posOf l x) := ⟨_, hide rfl⟩
  obtain ⟨R, HRR⟩ : ∃ R, Hid (R = findR l x) := ⟨_, hide rfl⟩
  have HRE : Hid (R = P.bind (l[·]?)) := by show _ = _; rw [HRR.out, HP.out]; rfl
  rw [← HP.out] at HPL
  rw [← HRR.out]
  clear hn hr hz HRR
  cases P with
  | none =>
    have HRN : Hid (R = none) := HRE
    rw [show posI none = -1 from rfl] at HPL
    go_enter Tryz.func57, Tryz.ntmps57
    go_wp2_with (first | (go_at_call 50; refine HPL.mono ?_))
    rintro e w1 ⟨rfl, hb1⟩
    have HB1 : Hid (Below w.heap.size w w1) := HBA.out.trans (hb1.mono HBA.out.size)
    have HC1 := hide (HC0.out.keep hb1 (by simp))
    obtain ⟨d0, d1, d2, d3, d4, d5⟩ := HC1.out.cells
    obtain ⟨f0, f1, f2, f3, f4, f5⟩ := HC1.out.thaw
    have hs1 := HB1.out.size
    clear hb1
    go_wp2
    refine bodyPost_ret (c6_results2 rfl rfl rfl (HC1.out.put _ _ _ _ _ _)) rfl ?_
    refine ⟨trivial, ?_⟩
    rw [HRN.out]
    exact ⟨zeroCl, none, 0, 0, rfl, rfl, rfl, sown_nil _ _, HB1.out.trans (below_of_grown (putC_grown _ _ _ _ _ _ _ _) (Nat.le_refl _) (by omega))⟩
  | some i =>
    have hi := posOf_lt HP.out.symm
    obtain ⟨q, hq⟩ : ∃ q, l[i]? = some q := ⟨_, List.getElem?_eq_getElem hi⟩
    have HRN : Hid (R = some q) := by show _ = _; rw [HRE.out]; exact hq
    have HQ := hide hq
    have HQS := hide (HZ.out q (List.mem_of_getElem? hq))
    have hin : i < n := by rw [HN.out]; exact hi
    have hii : (0 : Int) ≤ (i : Int) := by omega
    rw [show posI (some i) = (i : Int) from rfl] at HPL
    obtain ⟨b, off, rfl⟩ := HR.out.form (by omega)
    clear hi hq HRE HP
    go_enter Tryz.func57, Tryz.ntmps57
    go_wp2_with (first | (go_at_call 50; refine HPL.mono ?_))
    rintro e w1 ⟨rfl, hb1⟩
    have HB1 : Hid (Below w.heap.size w w1) := HBA.out.trans (hb1.mono HBA.out.size)
    have HC1 := hide (HC0.out.keep hb1 (by simp))
    obtain ⟨so, m, cp, c0, c1, c2, c3, c4, c5, hsa⟩ := (HR.out.keep HB1.out).cell HQ.out
    have hs1 : w.heap.size < w1.heap.size := HC1.out.lt
    have HCP := copied_own q.id q.secret q.url q.grants q.ping q.scopes so m cp w1 hsa.1 (by rw [hsa.1]; exact HQS.out.2.2.2.1) hsa.2.2.1 HQS.out.1 HQS.out.2.1 HQS.out.2.2.1 HQS.out.2.2.2.2
    clear hb1 HPL hsa
    go_wp2_with (first | (go_at_call 84; refine HCP.mono ?_))
    rintro e w2 ⟨-, so', m', cp', rfl, hm', hown, hb2⟩
    have HB2 : Hid (Below w.heap.size w w2) := HB1.out.trans (hb2.mono (by omega))
    have HC2 := hide (HC1.out.keep hb2 hs1)
    obtain ⟨d0, d1, d2, d3, d4, d5⟩ := HC2.out.cells
    obtain ⟨f0, f1, f2, f3, f4, f5⟩ := HC2.out.thaw
    have hs2 := HB2.out.size
    have HM' := hide hm'
    have HOW := hide hown
    clear hb2 HCP hm' hown
    go_wp2
    refine bodyPost_ret (c6_results2 rfl rfl rfl (HC2.out.put _ _ _ _ _ _)) rfl ?_
    refine ⟨trivial, ?_⟩
    rw [HRN.out]
    exact ⟨q, so', m', cp', rfl, rfl, HM'.out, (HOW.out.grown (putC_grown _ _ _ _ _ _ _ _) hs1).lower (by omega), HB2.out.trans (below_of_grown (putC_grown _ _ _ _ _ _ _ _) (Nat.le_refl _) (by omega))⟩
theorem find_any (n c : Nat) (ao : Option Addr) (l : List Cl) (x : ByteArray) (w : World) (hn : n = l.length) (hl : n ≤ 4398046511104) (hr : CRow w ao l) (hz : ∀ c ∈ l, ClSmall c) :
    Calls Tryz.prog 57 #[.slice ao n c, .string x] w fun e w' => True ∧ FdEnd w (findR l x) e w' := by
  refine (find_own n c ao l x w hn hl hr hz).mono ?_
  rintro e w' ⟨-, q, so, m, cp, rfl, hq, hm, ho, hb⟩
  obtain ⟨h1, h2⟩ := sat_own hm ho
  exact ⟨trivial, q, so, m, cp, rfl, hq, h1, h2, hb⟩
end Go.Proofs.YtjehbdekipmllaaGreatDoor
