/- The program's claimOfHeader, and claimOf with a header. -/
import Derived.Test.YtghmabohodnbpaaGreatDoorLShow
import Derived.Test.YtghmabohodnbpaaGreatDoorLBasicP
namespace Go.Proofs.YtghmabohodnbpaaGreatDoor
open Go.RowKit

def hdrT (B : Option (List Nat × List Nat)) (t : Clm) : Clm := match B with
  | none => badClm 113
  | some (a, s) => if t.sec.size ≠ 0 then badClm 34 else if t.nm.size ≠ 0 ∧ t.nm ≠ bstr a then badClm 112 else ⟨1, bstr a, bstr s, 0⟩
set_option maxHeartbeats 1000000 in
set_option maxRecDepth 100000 in
theorem claimOfHeader_any (header : ByteArray) (h : Int) (nm sec : ByteArray) (er : Nat) (w : World) (hM : MaxL w) :
    Calls Tryz.prog 77 #[.string header, .agg #[.int .i64 h, .string nm, .string sec]] w fun e w' => True ∧ ClmEnd w (hdrT (basT (sbytes header)) ⟨h, nm, sec, er⟩) e w' := by
  have HBA : Hid (Below w.heap.size w ((w.alloc (.cells #[.int .i64 h, .string nm, .string sec] 92)).alloc (.cells #[.int .i64 0, .string { data := #[] }, .string { data := #[] }] 92))) := (below_new w _).trans ((below_new _ _).mono (by simp))
  have HKB : Hid (K3 ((w.alloc (.cells #[.int .i64 h, .string nm, .string sec] 92)).alloc (.cells #[.int .i64 0, .string { data := #[] }, .string { data := #[] }] 92)) w.heap.size (.int .i64 h) (.string nm) (.string sec)) := K3.keep (heap_alloc_new w _) (below_new _ _) (by simp)
  have HK0 : Hid (K3 ((w.alloc (.cells #[.int .i64 h, .string nm, .string sec] 92)).alloc (.cells #[.int .i64 0, .string { data := #[] }, .string { data := #[] }] 92)) (w.heap.size + 1) (.int .i64 0) (.string { data := #[] }) (.string { data := #[] })) := by
    have := K3.new (w.alloc (.cells #[.int .i64 h, .string nm, .string sec] 92))
    rw [show (w.alloc (.cells #[.int .i64 h, .string nm, .string sec] 92)).heap.size = w.heap.size + 1 by simp] at this
    exact this
  have HBS := fun W hW => basic_any header W hW
  obtain ⟨B, hB⟩ : ∃ B, B = basT (sbytes header) := ⟨_, rfl⟩
  rw [← hB] at HBS ⊢
  obtain ⟨T, HT⟩ : ∃ T, Hid (T = hdrT B ⟨h, nm, sec, er⟩) := ⟨_, hide rfl⟩
  rw [← HT.out]
  have HM0 := hide (hM.keep HBA.out)
  clear hB hM
  go_enter Tryz.func77, Tryz.ntmps77
  go_upto_region 1 with fail
  generalize ((w.alloc (.cells #[.int .i64 h, .string nm, .string sec] 92)).alloc (.cells #[.int .i64 0, .string { data := #[] }, .string { data := #[] }] 92)) = w1 at *
  have hs1 := HK0.out.lt
  have HBC := HBS w1 HM0.out
  go_wp2_with fail
  refine HBC.mono ?_
  rintro e w2 ⟨rfl, hb2⟩
  have HB2 := hide (HBA.out.trans (hb2.mono HBA.out.size))
  have HK2 := hide (HK0.out.keep hb2 hs1)
  have HKC := hide (HKB.out.keep hb2 HKB.out.lt)
  have hs2 := HK2.out.lt
  obtain ⟨d0, d1, d2⟩ := HK2.out.cells
  obtain ⟨f0, f1, f2⟩ := HK2.out.thaw
  obtain ⟨i0, i1, i2⟩ := HKC.out.cells
  clear hb2 HBS HBC
  cases B with
  | none =>
    have HTE : Hid (T = badClm 113) := HT
    simp only [basV]
    go_wp2
    refine bodyPost_ret (k3_results rfl rfl rfl (HK2.out.put _ _ _)) rfl ?_
    rw [HTE.out]
    exact ⟨trivial, rfl, HB2.out.trans (below_of_grown (putK_grown _ _ _ _ _) (by omega) (by omega))⟩
  | some ab =>
    obtain ⟨a, s⟩ := ab
    have HTS : Hid (T = if sec.size ≠ 0 then badClm 34 else if nm.size ≠ 0 ∧ nm ≠ bstr a then badClm 112 else ⟨1, bstr a, bstr s, 0⟩) := HT
    clear HT
    simp only [basV]
    generalize bstr a = ba at *
    generalize bstr s = bs at *
    by_cases hse : sec.size = 0
    · have hsn := empty_of hse
      subst hsn
      by_cases hn0 : nm.size = 0
      · have HTE : Hid (T = ⟨1, ba, bs, 0⟩) := by show _ = _; rw [HTS.out, if_neg (fun hh => hh rfl), if_neg (fun hh => hh.1 hn0)]
        have hnn := empty_of hn0
        subst hnn
        clear hse hn0
        go_wp2
        refine bodyPost_ret (k3_results rfl rfl rfl (HK2.out.put _ _ _)) rfl ?_
        rw [HTE.out]
        exact ⟨trivial, rfl, HB2.out.trans (below_of_grown (putK_grown _ _ _ _ _) (by omega) (by omega))⟩
      · have hne := ne_of_size hn0
        by_cases he : nm = ba
        · have HTE : Hid (T = ⟨1, ba, bs, 0⟩) := by show _ = _; rw [HTS.out, if_neg (fun hh => hh rfl), if_neg (fun hh => hh.2 he)]
          subst he
          clear hse hn0
          go_wp2
          refine bodyPost_ret (k3_results rfl rfl rfl (HK2.out.put _ _ _)) rfl ?_
          rw [HTE.out]
          exact ⟨trivial, rfl, HB2.out.trans (below_of_grown (putK_grown _ _ _ _ _) (by omega) (by omega))⟩
        · have HTE : Hid (T = badClm 112) := by show _ = _; rw [HTS.out, if_neg (fun hh => hh rfl), if_pos ⟨hn0, he⟩]
          have hq : (nm.toList == ba.toList) = false := by rw [str_eq]; exact decide_eq_false he
          have hq2 : (nm.toList != ba.toList) = true := by unfold bne; rw [hq]; rfl
          have hq3 : ¬ nm.toList = ba.toList := by rw [beq_eq_false_iff_ne] at hq; exact hq
          clear hse hn0
          go_wp2
          refine bodyPost_ret (k3_results rfl rfl rfl (HK2.out.put _ _ _)) rfl ?_
          rw [HTE.out]
          exact ⟨trivial, rfl, HB2.out.trans (below_of_grown (putK_grown _ _ _ _ _) (by omega) (by omega))⟩
    · have HTE : Hid (T = badClm 34) := by show _ = _; rw [HTS.out, if_pos hse]
      have hne := ne_of_size hse
      clear hse
      go_wp2
      refine bodyPost_ret (k3_results rfl rfl rfl (HK2.out.put _ _ _)) rfl ?_
      rw [HTE.out]
      exact ⟨trivial, rfl, HB2.out.trans (below_of_grown (putK_grown _ _ _ _ _) (by omega) (by omega))⟩
def claimH (B : Option (List Nat × List Nat)) (t : Clm) : Clm := if t.er ≠ 0 then badClm t.er else hdrT B t
set_option maxHeartbeats 1000000 in
set_option maxRecDepth 100000 in
theorem claimOf_header (header : ByteArray) (hh : header.size ≠ 0) (n c : Nat) (ao : Option Addr) (l : List Two) (w : World) (hn : n = l.length) (hl : n ≤ 4398046511104) (hb : ∀ q ∈ l, bytes2 q) (hz : ∀ q ∈ l, q.2.length ≤ 281474976710656) (hr : PRow w ao l) (hM : MaxL w) :
    Calls Tryz.prog 44 #[.string header, .slice ao n c] w fun e w' => True ∧ ClmEnd w (claimH (basT (sbytes header)) (formT l)) e w' := by
  have HBA : Hid (Below w.heap.size w (w.alloc (.cells #[.int .i64 0, .string { data := #[] }, .string { data := #[] }] 92))) := below_new w _
  have HK0 := hide (K3.new w)
  have HF := claimOfForm_any n c ao l (w.alloc (.cells #[.int .i64 0, .string { data := #[] }, .string { data := #[] }] 92)) hn hl hb hz (hr.keep HBA.out)
  obtain ⟨t, ht⟩ : ∃ t, t = formT l := ⟨_, rfl⟩
  rw [← ht] at HF ⊢
  obtain ⟨h, nm, sec, er⟩ := t
  obtain ⟨U, HU⟩ : ∃ U, Hid (U = hdrT (basT (sbytes header)) ⟨h, nm, sec, er⟩) := ⟨_, hide rfl⟩
  obtain ⟨T, HT⟩ : ∃ T, Hid (T = claimH (basT (sbytes header)) ⟨h, nm, sec, er⟩) := ⟨_, hide rfl⟩
  have HTU : Hid (er = 0 → T = U) := by intro he; rw [HT.out, HU.out]; unfold claimH; rw [if_neg (by simp [he])]
  have HTB : Hid (er ≠ 0 → T = badClm er) := by intro he; rw [HT.out]; unfold claimH; rw [if_pos he]
  have HCH := fun W hW => claimOfHeader_any header h nm sec er W hW
  rw [← HU.out] at HCH
  rw [← HT.out]
  have HM := hide hM
  have hhe := ne_of_size hh
  clear ht hn hb hz hr HT hM
  go_enter Tryz.func44, Tryz.ntmps44
  go_wp2_with (first | (go_at_call 76; refine HF.mono ?_))
  rintro e w1 ⟨-, rfl, hb1⟩
  have HB1 : Hid (Below w.heap.size w w1) := HBA.out.trans (hb1.mono HBA.out.size)
  have HK1 := hide (HK0.out.keep hb1 (by simp))
  have hs1 : w.heap.size < w1.heap.size := HK1.out.lt
  have HB2 : Hid (Below w1.heap.size w1 (w1.alloc (.cells #[.int .i64 h, .string nm, .string sec] 92))) := below_new w1 _
  have HK2 := hide (HK1.out.keep HB2.out hs1)
  have HK8 : Hid (K3 (w1.alloc (.cells #[.int .i64 h, .string nm, .string sec] 92)) w1.heap.size (.int .i64 h) (.string nm) (.string sec)) := heap_alloc_new w1 _
  have hs2 := HB2.out.size
  clear hb1 HF
  simp only
  go_upto_region 2 with fail
  generalize (w1.alloc (.cells #[.int .i64 h, .string nm, .string sec] 92)) = w2 at *
  obtain ⟨d0, d1, d2⟩ := HK2.out.cells
  obtain ⟨f0, f1, f2⟩ := HK2.out.thaw
  obtain ⟨i0, i1, i2⟩ := HK8.out.cells
  have HB02 := hide (HB1.out.trans (HB2.out.mono (by omega)))
  by_cases he : er = 0
  · have HTE := hide (HTU.out he)
    subst he
    have HC := HCH w2 (HM.out.keep HB02.out)
    go_wp2_with fail
    refine HC.mono ?_
    rintro e w3 ⟨-, rfl, hb3⟩
    have HB3 := hide (HB02.out.trans (hb3.mono (by omega)))
    have HK3 := hide (HK2.out.keep hb3 (by omega))
    obtain ⟨j0, j1, j2⟩ := HK3.out.cells
    obtain ⟨g0, g1, g2⟩ := HK3.out.thaw
    have hs3 := HK3.out.lt
    clear hb3 HC HCH
    go_wp2
    refine bodyPost_ret (k3_results rfl rfl rfl (HK3.out.put _ _ _)) rfl ?_
    rw [HTE.out]
    exact ⟨trivial, rfl, HB3.out.trans (below_of_grown (putK_grown _ _ _ _ _) (Nat.le_refl _) (by omega))⟩
  · have HTE := hide (HTB.out he)
    have hei : ((er : Int) == 0) = false := by simp; omega
    have hei2 : ((er : Int) != 0) = true := by simp; omega
    go_wp2
    refine bodyPost_ret (k3_results rfl rfl rfl (HK2.out.put _ _ _)) rfl ?_
    rw [HTE.out]
    exact ⟨trivial, rfl, HB02.out.trans (below_of_grown (putK_grown _ _ _ _ _) (Nat.le_refl _) (by omega))⟩
end Go.Proofs.YtghmabohodnbpaaGreatDoor
