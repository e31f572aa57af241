/- The document's Scope: every client, whatever is asked. -/
import Derived.Test.YtlhgjicichjbgabGreatDoorLJoin
namespace Go.Proofs.YtlhgjicichjbgabGreatDoor
open Go.RowKit

theorem rscopes_m (s : ByteArray) (l : List U) (er m : Nat) (w : World) (hO : scoOut s.data.toList = (l, er)) (hm : m = l.length) (hsz : s.size ≤ 9223372036854775807) :
    Calls Tryz.prog 32 #[.string s] w fun e w' => ∃ fo fc, e = .returned (.tuple #[.slice fo m fc, .int .i64 (er : Int)]) ∧ Hid (SOwn w' w.heap.size (.slice fo m fc) l ∧ Below w.heap.size w w') := by
  subst hm
  refine (refScopes_any s w hsz).mono ?_
  rintro e w' ⟨v, rfl, h⟩
  rw [hO] at h ⊢
  obtain ⟨fo, fc, rfl, _⟩ := h.out.1.shape
  exact ⟨fo, fc, rfl, h⟩
set_option maxHeartbeats 1000000 in
set_option maxRecDepth 100000 in
theorem rscope_any (id secret url asked : ByteArray) (gr : Int) (pg : Bool) (l : List U) (so : Option Addr) (n cp : Nat) (w : World) (hs : SAt w so n cp l) (hn : n ≤ 140737488355328) (hj : (joinS l).length ≤ 140737488355328) (ha : asked.size ≤ 9223372036854775807) :
    Calls Tryz.prog 22 #[.agg #[.string id, .string secret, .int .i64 gr, .bool pg, .string url, .slice so n cp], .string asked] w fun e w' => e = .returned (.tuple #[.string ⟨(scopeR l asked.data.toList).1.toArray⟩, .int .i64 ((scopeR l asked.data.toList).2 : Int)]) ∧ Below w.heap.size w w' := by
  have HS : Hid (SAt w so n cp l) := hs
  have HBA : Hid (Below w.heap.size w (w.alloc (.cells #[.string id, .string secret, .int .i64 gr, .bool pg, .string url, .slice so n cp] 31))) := below_new w _
  by_cases h0 : asked.size = 0
  · have := empty_of h0
    subst this
    have HR : scopeR l ({ data := #[] } : ByteArray).data.toList = (joinS l, 0) := rfl
    rw [HR]
    have HL := joined_any n cp so l (w.alloc (.cells #[.string id, .string secret, .int .i64 gr, .bool pg, .string url, .slice so n cp] 31)) hs.1 hn hj (hs.keep HBA.out).2.2.1
    obtain ⟨J, HJE⟩ : ∃ J : ByteArray, Hid (J = ⟨(joinS l).toArray⟩) := ⟨_, hide rfl⟩
    rw [← HJE.out] at HL
    simp only
    rw [← HJE.out]
    clear hs hj h0 HR HJE
    go_enter Tryz.func22, Tryz.ntmps22
    go_wp2_with (first | (go_at_call 31; refine HL.mono ?_; rintro e w1 ⟨rfl, rfl⟩))
    go_ret2
    exact ⟨by go_num, HBA.out⟩
  · have hne := ne_of_size h0
    have HA : Hid (asked.data.toList ≠ []) := by intro h; apply h0; have := congrArg List.length h; simpa using this
    obtain ⟨r, er, hO⟩ : ∃ r er, scoOut asked.data.toList = (r, er) := ⟨_, _, rfl⟩
    obtain ⟨m, hm⟩ : ∃ m, m = r.length := ⟨_, rfl⟩
    have hm32 : m ≤ 32 := by have h32 : (scoOut asked.data.toList).1.length ≤ 32 := scoOut_len _; rw [hO] at h32; rw [hm]; exact h32
    have HJO : Hid ((joinS r).length ≤ 140737488355328) := by have := join_out asked.data.toList; rw [hO] at this; exact this
    have HSC := rscopes_m asked r er m (w.alloc (.cells #[.string id, .string secret, .int .i64 gr, .bool pg, .string url, .slice so n cp] 31)) hO hm ha
    have HMR : Hid (m = r.length) := hm
    have HRE : Hid (scopeR l asked.data.toList = if er = 0 then (if withinB r l = true then (joinS r, 0) else ([], 114)) else ([], 114)) := by show _ = _; unfold scopeR; rw [if_neg HA.out, hO]
    obtain ⟨X, HX⟩ : ∃ X, Hid (X = scopeR l asked.data.toList) := ⟨_, hide rfl⟩
    rw [← HX.out] at HRE ⊢
    clear hs hj hm hO h0 HX
    go_enter Tryz.func22, Tryz.ntmps22
    go_wp2_with (first | (go_at_call 32; refine HSC.mono ?_))
    rintro e w1 ⟨fo, fc, rfl, HO⟩
    have HB1 := hide (HBA.out.trans (HO.out.2.mono HBA.out.size))
    have c5 : w1.cell? ⟨w.heap.size, 5, none⟩ = some (.slice so n cp) := cell_kept (by simp) HO.out.2
    have HRW := hide HO.out.1.row
    have HRS : Hid (SAt w1 fo m fc r) := by
      obtain ⟨a', c', e, hle, _, _⟩ := HO.out.1.shape
      cases e
      exact ⟨HMR.out, by rw [HMR.out]; exact hle, HO.out.1.row, HO.out.1.ty⟩
    clear HO HSC
    by_cases he : er = 0
    · subst he
      have HW := refWithin_any m n fc cp fo so r l w1 HMR.out HS.out.1 (by omega) hn HRW.out (HS.out.keep HB1.out).2.2.1
      obtain ⟨B, HB⟩ : ∃ B, Hid (B = withinB r l) := ⟨_, hide rfl⟩
      have HRE2 : Hid (X = if B = true then (joinS r, 0) else ([], 114)) := by show _ = _; rw [HRE.out, if_pos rfl, HB.out]
      rw [← HB.out] at HW
      clear HB HRE
      cases B
      · have HXE : Hid (X = ([], 114)) := HRE2
        go_wp2_with (first | (go_at_call 33; refine HW.mono ?_; rintro e wx ⟨rfl, q, rfl⟩))
        go_ret2
        exact ⟨by rw [HXE.out]; rfl, below_drewN HB1.out _⟩
      · have HXE : Hid (X = (joinS r, 0)) := HRE2
        have HL : ∀ q, _ := fun q => joined_any m fc fo r (w1.drewN q) HMR.out (by omega) HJO.out (HRW.out.keep (below_drewN (Below.refl _ _) q))
        obtain ⟨J, HJE⟩ : ∃ J : ByteArray, Hid (J = ⟨(joinS r).toArray⟩) := ⟨_, hide rfl⟩
        rw [← HJE.out] at HL
        go_wp2_with (first | (go_at_call 33; refine HW.mono ?_; rintro e wx ⟨rfl, q, rfl⟩) | (go_at_call 31; refine (HL _).mono ?_; rintro e w2 ⟨rfl, rfl⟩))
        go_ret2
        exact ⟨by rw [HXE.out]; simp only; rw [← HJE.out]; rfl, below_drewN HB1.out _⟩
    · have hei : ((er : Int) == 0) = false := by simp; omega
      have hei2 : ((er : Int) != 0) = true := by simp; omega
      have HXE : Hid (X = ([], 114)) := by show _ = _; rw [HRE.out, if_neg he]
      go_wp2
      go_ret2
      exact ⟨by rw [HXE.out]; rfl, HB1.out⟩
end Go.Proofs.YtlhgjicichjbgabGreatDoor
