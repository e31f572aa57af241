/- The program's listed and Scope: every client, whatever is asked. -/
import Derived.Test.YtlhgjicichjbgaaGreatDoorLCheckB
import Derived.Test.YtlhgjicichjbgaaGreatDoorWithinFn
import Derived.Test.YtlhgjicichjbgaaGreatDoorScopeFn
namespace Go.Proofs.YtlhgjicichjbgaaGreatDoor
open Go.RowKit

set_option maxHeartbeats 400000 in
set_option maxRecDepth 100000 in
theorem listed_any (n cp : Nat) (so : Option Addr) (l : List U) (w : World) (hs : SAt w so n cp l) (hn : n ≤ 140737488355328) (hj : (joinS l).length ≤ 140737488355328) :
    Calls Tryz.prog 60 #[.slice so n cp] w fun e w' => e = .returned (.string ⟨(joinS l).toArray⟩) ∧ Below w.heap.size w w' := by
  have HJ := joinS_any n cp so l w hs hn hj
  obtain ⟨J, HJE⟩ : ∃ J : ByteArray, Hid (J = ⟨(joinS l).toArray⟩) := ⟨_, hide rfl⟩
  have hJs : J.size ≤ 281474976710656 := by rw [HJE.out, u_size]; omega
  rw [← HJE.out] at HJ ⊢
  clear hs hj HJE
  go_enter Tryz.func60, Tryz.ntmps60
  go_wp2_with (first | (go_at_call 65; refine HJ.mono ?_))
  rintro e w1 ⟨rfl, hb1⟩
  have HB1 := hide hb1
  clear hb1
  go_wp2_with (first | (go_at_call 93; refine (clone_any J w1 hJs).mono ?_))
  rintro e w2 ⟨rfl, hb2⟩
  have HB2 := hide (HB1.out.trans (hb2.mono HB1.out.size))
  clear hb2
  go_wp2
  go_ret
  exact ⟨rfl, HB2.out⟩
def scopeR (l : List U) (asked : U) : U × Nat := if asked = [] then (joinS l, 0) else if (scoOut asked).2 = 0 then (if withinB (scoOut asked).1 l = true then (joinS (scoOut asked).1, 0) else ([], 114)) else ([], 114)
theorem cutAll_small2 : ∀ (t u : U), u ∈ cutAll t → u.length ≤ t.length
  | [], u, h => by simp [cutAll] at h; simp [h]
  | c :: t, u, h => by
    obtain ⟨a, r, e⟩ := cutAll_ne t
    have ih := cutAll_small2 t
    by_cases hc : c = 32
    · rw [cutAll, if_pos hc] at h
      rcases List.mem_cons.1 h with rfl | h
      · simp
      · have := ih u h; simp; omega
    · rw [cutAll_cons hc e] at h
      rcases List.mem_cons.1 h with rfl | h
      · have := ih a (by rw [e]; simp); simp; omega
      · have := ih u (by rw [e]; simp [h]); simp; omega
theorem lens_small2 : ∀ (l : List U), (∀ u ∈ l, u.length ≤ 256) → Lib.lens l ≤ 256 * l.length
  | [], _ => by simp [Lib.lens]
  | u :: r, h => by
    have h1 := h u (by simp)
    have h2 := lens_small2 r (fun v hv => h v (by simp [hv]))
    simp only [Lib.lens, List.length_cons] at h2 ⊢
    simp at h2 ⊢
    omega
theorem join_out (t : U) : (joinS (scoOut t).1).length ≤ 140737488355328 := by
  have h1 : (scoOut t).1.length ≤ 32 := scoOut_len t
  have h2 : ∀ u ∈ (scoOut t).1, u.length ≤ 256 := by
    unfold scoOut
    split
    · simp
    · split
      · simp
      · split
        · split
          · simp
          · intro u hu
            have := (insAll_mem _ _ _).1 hu
            simp at this
            have := cutAll_small2 _ _ this
            omega
        · simp
  generalize (scoOut t).1 = l at h1 h2
  unfold joinS
  cases l with
  | nil => simp [Lib.join_nil]
  | cons u r =>
    rw [Lib.join_length]
    have h3 := lens_small2 _ h2
    simp only [List.length_cons, List.length_nil] at h1 h3 ⊢
    omega
set_option maxHeartbeats 1000000 in
set_option maxRecDepth 100000 in
theorem scope_any (id secret url asked : ByteArray) (gr : Int) (pg : Bool) (l : List U) (so : Option Addr) (n cp : Nat) (w : World) (hs : SAt w so n cp l) (hn : n ≤ 140737488355328) (hj : (joinS l).length ≤ 140737488355328) (hM : MaxL w) (ha : asked.size ≤ 9223372036854775807) :
    Calls Tryz.prog 29 #[.agg #[.string id, .string secret, .int .i64 gr, .bool pg, .string url, .slice so n cp], .string asked] w fun e w' => e = .returned (.tuple #[.string ⟨(scopeR l asked.data.toList).1.toArray⟩, .int .i64 ((scopeR l asked.data.toList).2 : Int)]) ∧ Below w.heap.size w w' := by
  have HS : Hid (SAt w so n cp l) := hs
  have HM : Hid (MaxL w) := hM
  have HBA : Hid (Below w.heap.size w (w.alloc (.cells #[.string id, .string secret, .int .i64 gr, .bool pg, .string url, .slice so n cp] 27))) := below_new w _
  by_cases h0 : asked.size = 0
  · have := empty_of h0
    subst this
    have HR : scopeR l ({ data := #[] } : ByteArray).data.toList = (joinS l, 0) := rfl
    rw [HR]
    have HL := listed_any n cp so l (w.alloc (.cells #[.string id, .string secret, .int .i64 gr, .bool pg, .string url, .slice so n cp] 27)) (hs.keep HBA.out) hn hj
    obtain ⟨J, HJE⟩ : ∃ J : ByteArray, Hid (J = ⟨(joinS l).toArray⟩) := ⟨_, hide rfl⟩
    rw [← HJE.out] at HL
    simp only
    rw [← HJE.out]
    clear hs hM hj h0 HR HJE
    go_enter Tryz.func29, Tryz.ntmps29
    go_wp2_with (first | (go_at_call 60; refine HL.mono ?_))
    rintro e w1 ⟨rfl, hb1⟩
    have HB1 := hide (HBA.out.trans (hb1.mono HBA.out.size))
    clear hb1
    go_wp2
    go_ret2
    exact ⟨by go_num, HB1.out⟩
  · have hne := ne_of_size h0
    have HA : Hid (asked.data.toList ≠ []) := by intro h; apply h0; have := congrArg List.length h; simpa using this
    obtain ⟨r, er, hO⟩ : ∃ r er, scoOut asked.data.toList = (r, er) := ⟨_, _, rfl⟩
    obtain ⟨m, hm⟩ : ∃ m, m = r.length := ⟨_, rfl⟩
    have hm32 : m ≤ 32 := by have h32 : (scoOut asked.data.toList).1.length ≤ 32 := scoOut_len _; rw [hO] at h32; rw [hm]; exact h32
    have HJO : Hid ((joinS r).length ≤ 140737488355328) := by have := join_out asked.data.toList; rw [hO] at this; exact this
    have HSC := scopes_m asked r er m (w.alloc (.cells #[.string id, .string secret, .int .i64 gr, .bool pg, .string url, .slice so n cp] 27)) hO hm ha (hM.keep HBA.out)
    have HMR : Hid (m = r.length) := hm
    have HRE : Hid (scopeR l asked.data.toList = if er = 0 then (if withinB r l = true then (joinS r, 0) else ([], 114)) else ([], 114)) := by show _ = _; unfold scopeR; rw [if_neg HA.out, hO]
    obtain ⟨X, HX⟩ : ∃ X, Hid (X = scopeR l asked.data.toList) := ⟨_, hide rfl⟩
    rw [← HX.out] at HRE ⊢
    clear hs hM hj hm hO h0 HX
    go_enter Tryz.func29, Tryz.ntmps29
    go_wp2_with (first | (go_at_call 61; refine HSC.mono ?_))
    rintro e w1 ⟨fo, fc, rfl, HO⟩
    have HB1 := hide (HBA.out.trans (HO.out.2.mono HBA.out.size))
    have c5 : w1.cell? ⟨w.heap.size, 5, none⟩ = some (.slice so n cp) := cell_kept (by simp) HO.out.2
    have HRW := hide HO.out.1.row
    have HRS : Hid (SAt w1 fo m fc r) := by
      obtain ⟨a', c', e, hle, _, _⟩ := HO.out.1.shape
      cases e
      exact ⟨HMR.out, by rw [HMR.out]; exact hle, HO.out.1.row, HO.out.1.ty⟩
    clear HO HSC
    by_cases he : er = 0
    · subst he
      have HW := within_any m n fc cp fo so r l w1 HMR.out HS.out.1 (by omega) hn HRW.out (HS.out.keep HB1.out).2.2.1
      obtain ⟨B, HB⟩ : ∃ B, Hid (B = withinB r l) := ⟨_, hide rfl⟩
      have HRE2 : Hid (X = if B = true then (joinS r, 0) else ([], 114)) := by show _ = _; rw [HRE.out, if_pos rfl, HB.out]
      rw [← HB.out] at HW
      clear HB HRE
      cases B
      · have HXE : Hid (X = ([], 114)) := HRE2
        go_wp2_with (first | (go_at_call 62; refine HW.mono ?_; rintro e wx ⟨rfl, rfl⟩))
        go_ret2
        exact ⟨by rw [HXE.out]; rfl, HB1.out⟩
      · have HXE : Hid (X = (joinS r, 0)) := HRE2
        have HL := listed_any m fc fo r w1 HRS.out (by omega) HJO.out
        obtain ⟨J, HJE⟩ : ∃ J : ByteArray, Hid (J = ⟨(joinS r).toArray⟩) := ⟨_, hide rfl⟩
        rw [← HJE.out] at HL
        go_wp2_with (first | (go_at_call 62; refine HW.mono ?_; rintro e wx ⟨rfl, rfl⟩) | (go_at_call 60; refine HL.mono ?_))
        rintro e w2 ⟨rfl, hb2⟩
        have HB2 := hide (HB1.out.trans (hb2.mono HB1.out.size))
        clear hb2
        go_wp2
        go_ret2
        exact ⟨by rw [HXE.out]; simp only; rw [← HJE.out]; rfl, HB2.out⟩
    · have hei : ((er : Int) == 0) = false := by simp; omega
      have hei2 : ((er : Int) != 0) = true := by simp; omega
      have HXE : Hid (X = ([], 114)) := by show _ = _; rw [HRE.out, if_neg he]
      go_wp2
      go_ret2
      exact ⟨by rw [HXE.out]; rfl, HB1.out⟩
end Go.Proofs.YtlhgjicichjbgaaGreatDoor
