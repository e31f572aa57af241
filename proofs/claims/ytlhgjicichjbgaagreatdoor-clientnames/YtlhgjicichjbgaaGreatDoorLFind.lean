/- The program's Find: every name in every list. -/
import Derived.Test.YtlhgjicichjbgaaGreatDoorLCopied
import Derived.Test.YtlhgjicichjbgaaGreatDoorLPlace
namespace Go.Proofs.YtlhgjicichjbgaaGreatDoor
open Go.RowKit

/-- A client none of whose texts is out of all measure. -/
def ClSmall (c : Cl) : Prop := c.id.size ≤ 281474976710656 ∧ c.secret.size ≤ 281474976710656 ∧ c.url.size ≤ 281474976710656 ∧ c.scopes.length * 16 ≤ 140737488355328 ∧ ∀ u ∈ c.scopes, u.length ≤ 281474976710656
def findR (l : List Cl) (id : ByteArray) : Option Cl := (posOf l id).bind (l[·]?)
theorem posOf_lt {l : List Cl} {id : ByteArray} {i : Nat} (h : posOf l id = some i) : i < l.length := by
  unfold posOf at h
  rw [List.findIdx?_eq_some_iff_getElem] at h
  exact h.1
def FdEnd (w : World) (R : Option Cl) (e : Ending) (w' : World) : Prop := ∃ (c : Cl) (so : Option Addr) (n cp : Nat), e = .returned (.tuple #[.agg #[.string c.id, .string c.secret, .int .i64 c.grants, .bool c.ping, .string c.url, .slice so n cp], .bool R.isSome]) ∧ R.getD zeroCl = c ∧ SAt w' so n cp c.scopes ∧ (∀ a, so = some a → w.heap.size ≤ a.block) ∧ Below w.heap.size w w'
set_option maxHeartbeats 1000000 in
set_option maxRecDepth 100000 in
theorem find_any (n c : Nat) (ao : Option Addr) (l : List Cl) (x : ByteArray) (w : World) (hn : n = l.length) (hl : n ≤ 4398046511104) (hr : CRow w ao l) (hz : ∀ c ∈ l, ClSmall c) :
    Calls Tryz.prog 23 #[.slice ao n c, .string x] w fun e w' => True ∧ FdEnd w (findR l x) e w' := by
  have HN : Hid (n = l.length) := hn
  have HR : Hid (CRow w ao l) := hr
  have HZ : Hid (∀ c ∈ l, ClSmall c) := hz
  have HBA : Hid (Below w.heap.size w (w.alloc (.cells #[.string { data := #[] }, .string { data := #[] }, .int .i64 0, .bool false, .string { data := #[] }, .slice none 0 0] 27))) := below_new w _
  have HC0 := hide (C6.new w)
  have HPL := placeOf_any n c ao l x (w.alloc (.cells #[.string { data := #[] }, .string { data := #[] }, .int .i64 0, .bool false, .string { data := #[] }, .slice none 0 0] 27)) hn hl (hr.keep HBA.out)
  obtain ⟨P, HP⟩ : ∃ P, Hid (P = posOf l x) := ⟨_, hide rfl⟩
  obtain ⟨R, HRR⟩ : ∃ R, Hid (R = findR l x) := ⟨_, hide rfl⟩
  have HRE : Hid (R = P.bind (l[·]?)) := by show _ = _; rw [HRR.out, HP.out]; rfl
  rw [← HP.out] at HPL
  rw [← HRR.out]
  clear hn hr hz HRR
  cases P with
  | none =>
    have HRN : Hid (R = none) := HRE
    rw [show posI none = -1 from rfl] at HPL
    go_enter Tryz.func23, Tryz.ntmps23
    go_wp2_with (first | (go_at_call 51; refine HPL.mono ?_))
    rintro e w1 ⟨rfl, hb1⟩
    have HB1 : Hid (Below w.heap.size w w1) := HBA.out.trans (hb1.mono HBA.out.size)
    have HC1 := hide (HC0.out.keep hb1 (by simp))
    obtain ⟨d0, d1, d2, d3, d4, d5⟩ := HC1.out.cells
    obtain ⟨f0, f1, f2, f3, f4, f5⟩ := HC1.out.thaw
    have hs1 := HB1.out.size
    clear hb1
    go_wp2
    refine bodyPost_ret (c6_results2 rfl rfl rfl (HC1.out.put _ _ _ _ _ _)) rfl ?_
    refine ⟨trivial, ?_⟩
    rw [HRN.out]
    exact ⟨zeroCl, none, 0, 0, rfl, rfl, sat_nil _, fun a ha => (by cases ha), HB1.out.trans (below_of_grown (putC_grown _ _ _ _ _ _ _ _) (Nat.le_refl _) (by omega))⟩
  | some i =>
    have hi := posOf_lt HP.out.symm
    obtain ⟨q, hq⟩ : ∃ q, l[i]? = some q := ⟨_, List.getElem?_eq_getElem hi⟩
    have HRN : Hid (R = some q) := by show _ = _; rw [HRE.out]; exact hq
    have HQ := hide hq
    have HQS := hide (HZ.out q (List.mem_of_getElem? hq))
    have hin : i < n := by rw [HN.out]; exact hi
    have hii : (0 : Int) ≤ (i : Int) := by omega
    rw [show posI (some i) = (i : Int) from rfl] at HPL
    obtain ⟨b, off, rfl⟩ := HR.out.form (by omega)
    clear hi hq HRE HP
    go_enter Tryz.func23, Tryz.ntmps23
    go_wp2_with (first | (go_at_call 51; refine HPL.mono ?_))
    rintro e w1 ⟨rfl, hb1⟩
    have HB1 : Hid (Below w.heap.size w w1) := HBA.out.trans (hb1.mono HBA.out.size)
    have HC1 := hide (HC0.out.keep hb1 (by simp))
    obtain ⟨so, m, cp, c0, c1, c2, c3, c4, c5, hsa⟩ := (HR.out.keep HB1.out).cell HQ.out
    have hs1 : w.heap.size < w1.heap.size := HC1.out.lt
    have HCP := copied_any q.id q.secret q.url q.grants q.ping q.scopes so m cp w1 hsa.1 (by rw [hsa.1]; exact HQS.out.2.2.2.1) hsa.2.2.1 HQS.out.1 HQS.out.2.1 HQS.out.2.2.1 HQS.out.2.2.2.2
    clear hb1 HPL hsa
    go_wp2_with (first | (go_at_call 52; refine HCP.mono ?_))
    rintro e w2 ⟨-, so', m', cp', rfl, hsat, hfar, hb2⟩
    have HB2 : Hid (Below w.heap.size w w2) := HB1.out.trans (hb2.mono (by omega))
    have HC2 := hide (HC1.out.keep hb2 hs1)
    obtain ⟨d0, d1, d2, d3, d4, d5⟩ := HC2.out.cells
    obtain ⟨f0, f1, f2, f3, f4, f5⟩ := HC2.out.thaw
    have hs2 := HB2.out.size
    have HSAT := hide hsat
    have HFAR := hide hfar
    clear hb2 HCP hsat hfar
    go_wp2
    refine bodyPost_ret (c6_results2 rfl rfl rfl (HC2.out.put _ _ _ _ _ _)) rfl ?_
    refine ⟨trivial, ?_⟩
    rw [HRN.out]
    refine ⟨q, so', m', cp', rfl, rfl, HSAT.out.grown (putC_grown _ _ _ _ _ _ _ _) (fun a ha => by have := HFAR.out a ha; omega), fun a ha => (by have := HFAR.out a ha; omega), HB2.out.trans (below_of_grown (putC_grown _ _ _ _ _ _ _ _) (Nat.le_refl _) (by omega))⟩
end Go.Proofs.YtlhgjicichjbgaaGreatDoor
