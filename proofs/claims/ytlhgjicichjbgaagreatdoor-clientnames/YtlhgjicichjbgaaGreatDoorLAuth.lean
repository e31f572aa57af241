/- The program's claimOf without a header, and Authenticate behind whatever claim. -/
import Derived.Test.YtlhgjicichjbgaaGreatDoorLClaim
import Derived.Deep.RegionHeld3
namespace Go.Proofs.YtlhgjicichjbgaaGreatDoor
open Go.RowKit

def claim0 (t : Clm) : Clm := if t.er ≠ 0 then badClm t.er else if t.nm.size = 0 then badClm 7 else t
set_option maxHeartbeats 1000000 in
set_option maxRecDepth 100000 in
theorem claimOf_none (n c : Nat) (ao : Option Addr) (l : List Two) (w : World) (hn : n = l.length) (hl : n ≤ 4398046511104) (hb : ∀ q ∈ l, bytes2 q) (hz : ∀ q ∈ l, q.2.length ≤ 281474976710656) (hr : PRow w ao l) :
    Calls Tryz.prog 58 #[.string { data := #[] }, .slice ao n c] w fun e w' => True ∧ ClmEnd w (claim0 (formT l)) e w' := by
  have HBA : Hid (Below w.heap.size w (w.alloc (.cells #[.int .i64 0, .string { data := #[] }, .string { data := #[] }] 100))) := below_new w _
  have HK0 := hide (K3.new w)
  have HF := claimOfForm_any n c ao l (w.alloc (.cells #[.int .i64 0, .string { data := #[] }, .string { data := #[] }] 100)) hn hl hb hz (hr.keep HBA.out)
  obtain ⟨t, ht⟩ : ∃ t, t = formT l := ⟨_, rfl⟩
  rw [← ht] at HF ⊢
  obtain ⟨h, nm, sec, er⟩ := t
  obtain ⟨T, HT⟩ : ∃ T, Hid (T = claim0 ⟨h, nm, sec, er⟩) := ⟨_, hide rfl⟩
  rw [← HT.out]
  clear ht hn hb hz hr
  go_enter Tryz.func58, Tryz.ntmps58
  go_wp2_with (first | (go_at_call 105; refine HF.mono ?_))
  rintro e w1 ⟨-, rfl, hb1⟩
  have HB1 : Hid (Below w.heap.size w w1) := HBA.out.trans (hb1.mono HBA.out.size)
  have HK1 := hide (HK0.out.keep hb1 (by simp))
  have hs1 : w.heap.size < w1.heap.size := HK1.out.lt
  have HB2 : Hid (Below w1.heap.size w1 (w1.alloc (.cells #[.int .i64 h, .string nm, .string sec] 100))) := below_new w1 _
  have HK2 := hide (HK1.out.keep HB2.out hs1)
  have HK8 : Hid (K3 (w1.alloc (.cells #[.int .i64 h, .string nm, .string sec] 100)) w1.heap.size (.int .i64 h) (.string nm) (.string sec)) := heap_alloc_new w1 _
  have hs2 := HB2.out.size
  clear hb1 HF
  simp only
  go_upto_region 2 with fail
  generalize (w1.alloc (.cells #[.int .i64 h, .string nm, .string sec] 100)) = w2 at *
  obtain ⟨d0, d1, d2⟩ := HK2.out.cells
  obtain ⟨f0, f1, f2⟩ := HK2.out.thaw
  obtain ⟨i0, i1, i2⟩ := HK8.out.cells
  by_cases he : er = 0
  · subst he
    by_cases h0 : nm.size = 0
    · have HTE : Hid (T = badClm 7) := by show _ = _; rw [HT.out]; unfold claim0; rw [if_neg (by simp), if_pos h0]
      have hnm := empty_of h0
      subst hnm
      clear h0
      go_wp2
      refine bodyPost_ret (k3_results rfl rfl rfl (HK2.out.put _ _ _)) rfl ?_
      rw [HTE.out]
      exact ⟨trivial, rfl, (HB1.out.trans (HB2.out.mono (by omega))).trans (below_of_grown (putK_grown _ _ _ _ _) (Nat.le_refl _) (by omega))⟩
    · have HTE : Hid (T = ⟨h, nm, sec, 0⟩) := by show _ = _; rw [HT.out]; unfold claim0; rw [if_neg (by simp), if_neg h0]
      have hne := ne_of_size h0
      go_wp2
      refine bodyPost_ret (k3_results rfl rfl rfl (HK2.out.put _ _ _)) rfl ?_
      rw [HTE.out]
      exact ⟨trivial, rfl, (HB1.out.trans (HB2.out.mono (by omega))).trans (below_of_grown (putK_grown _ _ _ _ _) (Nat.le_refl _) (by omega))⟩
  · have HTE : Hid (T = badClm er) := by show _ = _; rw [HT.out]; unfold claim0; rw [if_pos he]
    have hei : ((er : Int) == 0) = false := by simp; omega
    have hei2 : ((er : Int) != 0) = true := by simp; omega
    go_wp2
    refine bodyPost_ret (k3_results rfl rfl rfl (HK2.out.put _ _ _)) rfl ?_
    rw [HTE.out]
    exact ⟨trivial, rfl, (HB1.out.trans (HB2.out.mono (by omega))).trans (below_of_grown (putK_grown _ _ _ _ _) (Nat.le_refl _) (by omega))⟩

structure Aut where
  cl : Option Cl
  how : Int
  er : Nat
def authF (h : Int) (sec : ByteArray) (F : Option Cl) : Aut := match F with | none => ⟨none, 0, 111⟩ | some c => if holdsB h sec c.secret = true then ⟨some c, h, 0⟩ else ⟨none, 0, 112⟩
def authR (L : List Cl) (t : Clm) : Aut := if t.er ≠ 0 then ⟨none, 0, t.er⟩ else authF t.how t.sec (findR L t.nm)
def AuEnd (w : World) (R : Aut) (e : Ending) (w' : World) : Prop := ∃ (c : Cl) (so : Option Addr) (n cp : Nat), e = .returned (.tuple #[.agg #[.string c.id, .string c.secret, .int .i64 c.grants, .bool c.ping, .string c.url, .slice so n cp], .int .i64 R.how, .int .i64 (R.er : Int)]) ∧ R.cl.getD zeroCl = c ∧ SAt w' so n cp c.scopes ∧ (∀ a, so = some a → w.heap.size ≤ a.block) ∧ Below w.heap.size w w'
theorem c6_results3 {fn : Func} {slot s2 s3 N : Nat} (h : fn.results = #[.cell slot 27, .tmp s2, .tmp s3]) {tmps : Array Value} (hs : tmps.getD slot undef = .pointer (some ⟨N, 0, none⟩)) {x y : Value} (hx : tmps.getD s2 undef = x) (hy : tmps.getD s3 undef = y) {w : World} {v0 v1 v2 v3 v4 v5 : Value} (hb : C6 w N v0 v1 v2 v3 v4 v5) : (results fn tmps).run Tryz.prog w = .ok (.tuple #[.agg #[v0, v1, v2, v3, v4, v5], x, y]) w := by
  obtain ⟨j0, j1, j2, j3, j4, j5⟩ := hb.cells
  have hs' : tmps[slot]?.getD undef = .pointer (some ⟨N, 0, none⟩) := by simpa using hs
  have hx' : tmps[s2]?.getD undef = x := by simpa using hx
  have hy' : tmps[s3]?.getD undef = y := by simpa using hy
  simp [results, h, go_sem, hs', hx', hy', j0, j1, j2, j3, j4, j5]
theorem auEnd_bad {w w' : World} {k : Nat} (hb : Below w.heap.size w w') : AuEnd w ⟨none, 0, k⟩ (.returned (.tuple #[.agg #[.string { data := #[] }, .string { data := #[] }, .int .i64 0, .bool false, .string { data := #[] }, .slice none 0 0], .int .i64 0, .int .i64 (k : Int)])) w' :=
  ⟨zeroCl, none, 0, 0, rfl, rfl, sat_nil w', fun a ha => (by cases ha), hb⟩
theorem C6.drew {w : World} {N : Nat} {v0 v1 v2 v3 v4 v5 : Value} (h : C6 w N v0 v1 v2 v3 v4 v5) : C6 w.drew N v0 v1 v2 v3 v4 v5 := h
theorem grown_drew {w W : World} {row : Option Nat} (h : w.grownBy W row) : w.grownBy W.drew row := ⟨h.os, h.tape, h.output, h.size, h.block⟩
set_option maxHeartbeats 2000000 in
set_option maxRecDepth 100000 in
theorem auth_any (n c fn fc : Nat) (ao fo : Option Addr) (L : List Cl) (header : ByteArray) (t : Clm) (w : World) (hn : n = L.length) (hl : n ≤ 4398046511104) (hr : CRow w ao L) (hz : ∀ c ∈ L, ClSmall c)
    (hc : ∀ W, Below w.heap.size w W → Calls Tryz.prog 58 #[.string header, .slice fo fn fc] W fun e w' => True ∧ ClmEnd W t e w') (hh : t.how = 0 ∨ t.how = 1 ∨ t.how = 2) (hs : t.sec.size ≤ 140737488355328) :
    Calls Tryz.prog 28 #[.slice ao n c, .string header, .slice fo fn fc] w fun e w' => True ∧ AuEnd w (authR L t) e w' := by
  have HN : Hid (n = L.length) := hn
  have HR : Hid (CRow w ao L) := hr
  have HZ : Hid (∀ c ∈ L, ClSmall c) := hz
  have HBA : Hid (Below w.heap.size w (w.alloc (.cells #[.string { data := #[] }, .string { data := #[] }, .int .i64 0, .bool false, .string { data := #[] }, .slice none 0 0] 27))) := below_new w _
  have HC0 := hide (C6.new w)
  have HCL := hc _ HBA.out
  obtain ⟨h, nm, sec, er⟩ := t
  simp only at hh hs
  obtain ⟨A, HA⟩ : ∃ A, Hid (A = authR L ⟨h, nm, sec, er⟩) := ⟨_, hide rfl⟩
  rw [← HA.out]
  clear hn hr hz hc
  go_enter Tryz.func28, Tryz.ntmps28
  go_wp2_with (first | (go_at_call 58; refine HCL.mono ?_))
  rintro e w1 ⟨-, rfl, hb1⟩
  have HB1 : Hid (Below w.heap.size w w1) := HBA.out.trans (hb1.mono HBA.out.size)
  have HC1 := hide (HC0.out.keep hb1 (by simp))
  have hs1 : w.heap.size < w1.heap.size := HC1.out.lt
  have HB2 : Hid (Below w1.heap.size w1 (w1.alloc (.cells #[.int .i64 h, .string nm, .string sec] 100))) := below_new w1 _
  have HC2 := hide (HC1.out.keep HB2.out hs1)
  have HK2 : Hid (K3 (w1.alloc (.cells #[.int .i64 h, .string nm, .string sec] 100)) w1.heap.size (.int .i64 h) (.string nm) (.string sec)) := heap_alloc_new w1 _
  have hs2 := HB2.out.size
  clear hb1 HCL HC0 HBA
  simp only
  go_upto_region 2 with fail
  generalize (w1.alloc (.cells #[.int .i64 h, .string nm, .string sec] 100)) = w2 at *
  obtain ⟨d0, d1, d2, d3, d4, d5⟩ := HC2.out.cells
  obtain ⟨f0, f1, f2, f3, f4, f5⟩ := HC2.out.thaw
  obtain ⟨i0, i1, i2⟩ := HK2.out.cells
  by_cases he : er = 0
  case neg =>
    have HAE : Hid (A = ⟨none, 0, er⟩) := by show _ = _; rw [HA.out]; unfold authR; rw [if_pos he]
    have hei : ((er : Int) == 0) = false := by simp; omega
    have hei2 : ((er : Int) != 0) = true := by simp; omega
    go_wp2
    refine bodyPost_ret (c6_results3 rfl rfl rfl rfl (HC2.out.put _ _ _ _ _ _)) rfl ?_
    rw [HAE.out]
    exact ⟨trivial, auEnd_bad ((HB1.out.trans (HB2.out.mono (by omega))).trans (below_of_grown (putC_grown _ _ _ _ _ _ _ _) (Nat.le_refl _) (by omega)))⟩
  subst he
  have HFD := find_any n c ao L nm w2 HN.out hl ((HR.out.keep HB1.out).keep HB2.out) HZ.out
  obtain ⟨F, HF⟩ : ∃ F, Hid (F = findR L nm) := ⟨_, hide rfl⟩
  have HAF : Hid (A = authF h sec F) := by show _ = _; rw [HA.out, HF.out]; rfl
  rw [← HF.out] at HFD
  clear HA HF
  go_wp2_with (first | (go_at_call 23; refine HFD.mono ?_))
  rintro e w3 ⟨-, q, so, m, cp, rfl, hq, hsat, hfar, hb3⟩
  have HQ := hide hq
  have HSAT := hide hsat
  have HFAR := hide hfar
  have hs2' := HC2.out.lt
  have HB3 : Hid (Below w.heap.size w w3) := (HB1.out.trans (HB2.out.mono (by omega))).trans (hb3.mono (by omega))
  have HC3 := hide (HC2.out.keep hb3 hs2')
  have HK3 := hide (HK2.out.keep hb3 HK2.out.lt)
  have hs3 := HC3.out.lt
  have hs23 : w2.heap.size ≤ w3.heap.size := hb3.size
  have HB4 : Hid (Below w3.heap.size w3 (w3.alloc (.cells #[.string q.id, .string q.secret, .int .i64 q.grants, .bool q.ping, .string q.url, .slice so m cp] 27))) := below_new w3 _
  have HC4 := hide (HC3.out.keep HB4.out hs3)
  have HK4 := hide (HK3.out.keep HB4.out HK3.out.lt)
  have HQ4 : Hid (C6 (w3.alloc (.cells #[.string q.id, .string q.secret, .int .i64 q.grants, .bool q.ping, .string q.url, .slice so m cp] 27)) w3.heap.size (.string q.id) (.string q.secret) (.int .i64 q.grants) (.bool q.ping) (.string q.url) (.slice so m cp)) := heap_alloc_new w3 _
  have hs4 := HB4.out.size
  have HS4 := hide (HSAT.out.keep HB4.out)
  clear hq hsat hfar hb3 HFD
  go_upto_region 5 with fail
  generalize (w3.alloc (.cells #[.string q.id, .string q.secret, .int .i64 q.grants, .bool q.ping, .string q.url, .slice so m cp] 27)) = w4 at *
  obtain ⟨e0, e1, e2, e3, e4, e5⟩ := HC4.out.cells
  obtain ⟨g0, g1, g2, g3, g4, g5⟩ := HC4.out.thaw
  obtain ⟨j0, j1, j2⟩ := HK4.out.cells
  obtain ⟨k0, k1, k2, k3, k4, k5⟩ := HQ4.out.cells
  cases F with
  | none =>
    have HAE : Hid (A = ⟨none, 0, 111⟩) := HAF
    rw [show (none : Option Cl).isSome = false from rfl]
    go_wp2
    refine bodyPost_ret (c6_results3 rfl rfl rfl rfl (HC4.out.put _ _ _ _ _ _)) rfl ?_
    rw [HAE.out]
    exact ⟨trivial, auEnd_bad ((HB3.out.trans (HB4.out.mono (by omega))).trans (below_of_grown (putC_grown _ _ _ _ _ _ _ _) (Nat.le_refl _) (by omega)))⟩
  | some q2 =>
    have hq2 : q2 = q := HQ.out
    subst hq2
    have HH := holds_any h nm sec q2.id q2.secret q2.url q2.grants q2.ping so m cp w4 hh hs
    obtain ⟨B, HB⟩ : ∃ B, Hid (B = holdsB h sec q2.secret) := ⟨_, hide rfl⟩
    have HAB : Hid (A = if B = true then ⟨some q2, h, 0⟩ else ⟨none, 0, 112⟩) := by show _ = _; rw [HAF.out, HB.out]; rfl
    rw [← HB.out] at HH
    rw [show (some q2 : Option Cl).isSome = true from rfl]
    clear HAF HB HQ
    cases B
    · have HAE : Hid (A = ⟨none, 0, 112⟩) := HAB
      go_wp2_with (first | (go_at_call 59; refine HH.mono ?_))
      rintro e w5 ⟨rfl, hb5⟩
      have HC5 := hide (HC4.out.keep hb5 (by omega))
      have HB5 := hide ((HB3.out.trans (HB4.out.mono (by omega))).trans (hb5.mono (by omega)))
      obtain ⟨l0, l1, l2, l3, l4, l5⟩ := HC5.out.cells
      obtain ⟨p0, p1, p2, p3, p4, p5⟩ := HC5.out.thaw
      have hs5 := HB5.out.size
      clear hb5 HH
      go_wp2
      refine bodyPost_ret (c6_results3 rfl rfl rfl rfl (HC5.out.put _ _ _ _ _ _)) rfl ?_
      rw [HAE.out]
      exact ⟨trivial, auEnd_bad (HB5.out.trans (below_of_grown (putC_grown _ _ _ _ _ _ _ _) (Nat.le_refl _) (by omega)))⟩
    · have HAE : Hid (A = ⟨some q2, h, 0⟩) := HAB
      go_wp2_with (first | (go_at_call 59; refine HH.mono ?_))
      rintro e w5 rfl hb5
      have HC5 := hide (HC4.out.keep hb5 (by omega))
      have HK5 := hide (HK4.out.keep hb5 HK4.out.lt)
      have HQ5 := hide (HQ4.out.keep hb5 HQ4.out.lt)
      have HS5 := hide (HS4.out.keep hb5)
      have HB5 := hide ((HB3.out.trans (HB4.out.mono (by omega))).trans (hb5.mono (by omega)))
      have hne1 : ¬ w3.heap.size = w.heap.size := by omega
      have hne2 : ¬ w1.heap.size = w.heap.size := by omega
      have hne3 : ¬ w.heap.size = w3.heap.size := by omega
      have hne4 : ¬ w.heap.size = w1.heap.size := by omega
      obtain ⟨l0, l1, l2, l3, l4, l5⟩ := HC5.out.cells
      obtain ⟨p0, p1, p2, p3, p4, p5⟩ := HC5.out.thaw
      obtain ⟨r0, r1, r2, r3, r4, r5⟩ := HQ5.out.cells
      obtain ⟨s0, s1, s2⟩ := HK5.out.cells
      have hs5 := HB5.out.size
      clear hb5 HH
      go_wp2
      go_region_held3 (fun W => W.cell? ⟨w1.heap.size, 0, none⟩ = some (.int .i64 h) ∧ W.cell? ⟨w3.heap.size, 0, none⟩ = some (.string q2.id) ∧ W.cell? ⟨w3.heap.size, 1, none⟩ = some (.string q2.secret) ∧ W.cell? ⟨w3.heap.size, 2, none⟩ = some (.int .i64 q2.grants) ∧ W.cell? ⟨w3.heap.size, 3, none⟩ = some (.bool q2.ping) ∧ W.cell? ⟨w3.heap.size, 4, none⟩ = some (.string q2.url) ∧ W.cell? ⟨w3.heap.size, 5, none⟩ = some (.slice so m cp)) (go_keep) (fail)
      go_wp2
      refine bodyPost_ret (c6_results3 rfl rfl rfl rfl (HC5.out.put _ _ _ _ _ _).drew) rfl ?_
      rw [HAE.out]
      refine ⟨trivial, q2, so, m, cp, rfl, rfl, HS5.out.grown (grown_drew (putC_grown _ _ _ _ _ _ _ _)) (fun a ha => by have := HFAR.out a ha; omega), fun a ha => (by have := HFAR.out a ha; omega), HB5.out.trans (below_of_grown (grown_drew (putC_grown _ _ _ _ _ _ _ _)) (Nat.le_refl _) (by omega))⟩
end Go.Proofs.YtlhgjicichjbgaaGreatDoor
