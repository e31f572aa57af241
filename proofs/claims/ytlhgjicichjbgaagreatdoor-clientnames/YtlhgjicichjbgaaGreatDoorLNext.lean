/- The program's nextClient: what a line says behind a list of clients. -/
import Derived.Test.YtlhgjicichjbgaaGreatDoorLLine
import Derived.Test.YtlhgjicichjbgaaGreatDoorLPlace
namespace Go.Proofs.YtlhgjicichjbgaaGreatDoor
open Go.RowKit

def nextE (l : List Cl) (R : Option Cl) : Nat := match R with | none => 110 | some c => if (posOf l c.id).isSome = true then 8 else if l.length = 256 then 32 else 0
def nextErr (l : List Cl) (s : ByteArray) : Nat := nextE l (lineR (sbytes s))
def NxEnd (w : World) (l : List Cl) (s : ByteArray) (e : Ending) (w' : World) : Prop := ∃ (c : Cl) (so : Option Addr) (n cp : Nat), e = .returned (.tuple #[.agg #[.string c.id, .string c.secret, .int .i64 c.grants, .bool c.ping, .string c.url, .slice so n cp], .int .i64 (nextErr l s : Int)]) ∧ (nextErr l s = 0 → lineR (sbytes s) = some c) ∧ SAt w' so n cp c.scopes ∧ Below w.heap.size w w'
theorem nxEnd_bad {w w' : World} {l : List Cl} {s : ByteArray} {k : Nat} (hk : nextErr l s = k) (h0 : k ≠ 0) (hb : Below w.heap.size w w') : NxEnd w l s (.returned (.tuple #[.agg #[.string { data := #[] }, .string { data := #[] }, .int .i64 0, .bool false, .string { data := #[] }, .slice none 0 0], .int .i64 (k : Int)])) w' := by
  subst hk
  exact ⟨zeroCl, none, 0, 0, rfl, fun h => absurd h h0, sat_nil w', hb⟩
set_option maxHeartbeats 2000000 in
set_option maxRecDepth 100000 in
theorem nextClient_any (n c gm : Nat) (ao : Option Addr) (l : List Cl) (s : ByteArray) (w : World) (hn : n = l.length) (hl : n ≤ 256) (hr : CRow w ao l) (hK : Known w gm) (hM : MaxL w) (hs : s.size ≤ 9223372036854775807) :
    Calls Tryz.prog 42 #[.slice ao n c, .string s, .map (some gm)] w fun e w' => True ∧ NxEnd w l s e w' := by
  have HN : Hid (n = l.length) := hn
  have HR : Hid (CRow w ao l) := hr
  have HK : Hid (Known w gm) := hK
  have HM : Hid (MaxL w) := hM
  have HBA : Hid (Below w.heap.size w (w.alloc (.cells #[.string { data := #[] }, .string { data := #[] }, .int .i64 0, .bool false, .string { data := #[] }, .slice none 0 0] 27))) := below_new w _
  have HC0 := hide (C6.new w)
  have HRL := readLine_any s gm (w.alloc (.cells #[.string { data := #[] }, .string { data := #[] }, .int .i64 0, .bool false, .string { data := #[] }, .slice none 0 0] 27)) (HK.out.keep HBA.out HK.out.lt) (HM.out.keep HBA.out) hs
  obtain ⟨R, HRR⟩ : ∃ R, Hid (R = lineR (sbytes s)) := ⟨_, hide rfl⟩
  rw [← HRR.out] at HRL
  have HE : Hid (nextErr l s = nextE l R) := by show _ = _; rw [HRR.out]; rfl
  clear hn hr hK hM
  go_enter Tryz.func42, Tryz.ntmps42
  go_wp2_with (first | (go_at_call 82; refine HRL.mono ?_))
  rintro e w1 ⟨-, q, so, m, cp, rfl, hq, hsat, hfar, hb1⟩
  have HFAR : Hid (∀ a, so = some a → w.heap.size < a.block) := fun a ha => by have := hfar a ha; simp at this; omega
  have HSAT := hide hsat
  have HQ := hide hq
  have HB1 : Hid (Below w.heap.size w w1) := HBA.out.trans (hb1.mono HBA.out.size)
  have HC1 := hide (HC0.out.keep hb1 (by simp))
  have hs1 : w.heap.size < w1.heap.size := HC1.out.lt
  clear hq hsat hfar hb1 HRL HC0 HBA
  have HB2 : Hid (Below w1.heap.size w1 (w1.alloc (.cells #[.string q.id, .string q.secret, .int .i64 q.grants, .bool q.ping, .string q.url, .slice so m cp] 27))) := below_new w1 _
  have HC2 := hide (HC1.out.keep HB2.out hs1)
  have HC8 : Hid (C6 (w1.alloc (.cells #[.string q.id, .string q.secret, .int .i64 q.grants, .bool q.ping, .string q.url, .slice so m cp] 27)) w1.heap.size (.string q.id) (.string q.secret) (.int .i64 q.grants) (.bool q.ping) (.string q.url) (.slice so m cp)) := heap_alloc_new w1 _
  have hs2 := HB2.out.size
  go_upto_region 2 with fail
  generalize (w1.alloc (.cells #[.string q.id, .string q.secret, .int .i64 q.grants, .bool q.ping, .string q.url, .slice so m cp] 27)) = w2 at *
  obtain ⟨d0, d1, d2, d3, d4, d5⟩ := HC2.out.cells
  obtain ⟨f0, f1, f2, f3, f4, f5⟩ := HC2.out.thaw
  obtain ⟨i0, i1, i2, i3, i4, i5⟩ := HC8.out.cells
  cases R with
  | none =>
    have HF : Hid (nextErr l s = 110) := HE
    rw [show (none : Option Cl).isSome = false from rfl]
    go_wp2
    refine bodyPost_ret (c6_results2 rfl rfl rfl (HC2.out.put _ _ _ _ _ _)) rfl ?_
    exact ⟨trivial, nxEnd_bad HF.out (by decide) ((HB1.out.trans (HB2.out.mono (by omega))).trans (below_of_grown (putC_grown _ _ _ _ _ _ _ _) (Nat.le_refl _) (by omega)))⟩
  | some q2 =>
    have hq2 := HQ.out q2 rfl
    subst hq2
    have HE2 : Hid (nextErr l s = if (posOf l q.id).isSome = true then 8 else if l.length = 256 then 32 else 0) := HE
    have HPL := placeOf_any n c ao l q.id w2 HN.out (by omega) ((HR.out.keep HB1.out).keep HB2.out)
    obtain ⟨P, HP⟩ : ∃ P, Hid (P = posOf l q.id) := ⟨_, hide rfl⟩
    rw [← HP.out] at HPL HE2
    clear HE HQ
    have HB3 : ∀ w3, Below w2.heap.size w2 w3 → Below w.heap.size w w3 := fun w3 h => (HB1.out.trans (HB2.out.mono (by omega))).trans (h.mono (by omega))
    cases P with
    | some i =>
      have HF : Hid (nextErr l s = 8) := by show _ = _; rw [HE2.out]; rfl
      have hpi : posI (some i) = (i : Int) := rfl
      rw [hpi] at HPL
      have hi0 : (0 : Int) ≤ (i : Int) := by omega
      go_wp2_with (first | (go_at_call 51; refine HPL.mono ?_))
      rintro e w3 ⟨rfl, hb3⟩
      have HBB := hide (HB3 w3 hb3)
      have HC3 := hide (HC2.out.keep hb3 (by omega))
      obtain ⟨e0, e1, e2, e3, e4, e5⟩ := HC3.out.cells
      obtain ⟨g0, g1, g2, g3, g4, g5⟩ := HC3.out.thaw
      have hs3 := HBB.out.size
      clear hb3 HB3
      go_wp2
      refine bodyPost_ret (c6_results2 rfl rfl rfl (HC3.out.put _ _ _ _ _ _)) rfl ?_
      exact ⟨trivial, nxEnd_bad HF.out (by decide) (HBB.out.trans (below_of_grown (putC_grown _ _ _ _ _ _ _ _) (Nat.le_refl _) (by omega)))⟩
    | none =>
      have hpi : posI none = -1 := rfl
      rw [hpi] at HPL
      have HE3 : Hid (nextErr l s = if l.length = 256 then 32 else 0) := by show _ = _; rw [HE2.out]; rfl
      go_wp2_with (first | (go_at_call 51; refine HPL.mono ?_))
      rintro e w3 ⟨rfl, hb3⟩
      have HBB := hide (HB3 w3 hb3)
      have HC3 := hide (HC2.out.keep hb3 (by omega))
      have HS3 : Hid (SAt w3 so m cp q.scopes) := (HSAT.out.keep HB2.out).keep hb3
      have HC9 := hide (HC8.out.keep hb3 (HC8.out.lt))
      obtain ⟨e0, e1, e2, e3, e4, e5⟩ := HC3.out.cells
      obtain ⟨g0, g1, g2, g3, g4, g5⟩ := HC3.out.thaw
      obtain ⟨k0, k1, k2, k3, k4, k5⟩ := HC9.out.cells
      have hs3 := HBB.out.size
      clear hb3 HB3
      by_cases h256 : n = 256
      · have HF : Hid (nextErr l s = 32) := by show _ = _; rw [HE3.out, if_pos (by rw [← HN.out]; exact h256)]
        have h256b : ((n : Int) == 256) = true := by simp [h256]
        clear h256
        go_wp2
        refine bodyPost_ret (c6_results2 rfl rfl rfl (HC3.out.put _ _ _ _ _ _)) rfl ?_
        exact ⟨trivial, nxEnd_bad HF.out (by decide) (HBB.out.trans (below_of_grown (putC_grown _ _ _ _ _ _ _ _) (Nat.le_refl _) (by omega)))⟩
      · have HF : Hid (nextErr l s = 0) := by show _ = _; rw [HE3.out, if_neg (by rw [← HN.out]; exact h256)]
        have h256b : ((n : Int) == 256) = false := by simp; omega
        clear h256
        go_wp2
        refine bodyPost_ret (c6_results2 rfl rfl rfl (HC3.out.put _ _ _ _ _ _)) rfl ?_
        refine ⟨trivial, q, so, m, cp, by rw [HF.out]; rfl, fun _ => HRR.out.symm, ?_, HBB.out.trans (below_of_grown (putC_grown _ _ _ _ _ _ _ _) (Nat.le_refl _) (by omega))⟩
        exact HS3.out.grown (putC_grown _ _ _ _ _ _ _ _) HFAR.out
end Go.Proofs.YtlhgjicichjbgaaGreatDoor
