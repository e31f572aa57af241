/- The program's listed and Scope: every client, whatever is asked. The contract of the laws' live: it answers true. -/
import Derived.Test.YtjehbdekipmllaaGreatDoorLCheck
import Derived.Test.YtjehbdekipmllaaGreatDoorXStr
import Derived.Test.YtjehbdekipmllaaGreatDoorLPars
import Derived.Test.YtjehbdekipmllaaGreatDoorLShow
import Derived.Test.YtjehbdekipmllaaGreatDoorXBase
namespace Go.Proofs.YtjehbdekipmllaaGreatDoor
open Go.RowKit

set_option maxHeartbeats 400000 in
set_option maxRecDepth 100000 in
theorem listed_any (n cp : Nat) (so : Option Addr) (l : List U) (w : World) (hs : SAt w so n cp l) (hn : n ≤ 140737488355328) (hj : (joinS l).length ≤ 140737488355328) :
    Calls Tryz.prog 47 #[.slice so n cp] w fun e w' => e = .returned (.string ⟨(joinS l).toArray⟩) ∧ Below w.heap.size w w' := by
  have HJ := joinS_any n cp so l w hs hn hj
  obtain ⟨J, HJE⟩ : ∃ J : ByteArray, Hid (J = ⟨(joinS l).toArray⟩) := ⟨_, hide rfl⟩
  have hJs : J.size ≤ 281474976710656 := by rw [HJE.out, u_size]; omega
  rw [← HJE.out] at HJ ⊢
  clear hs hj HJE
  go_enter Tryz.func47, Tryz.ntmps47
  go_wp2_with (first | (go_at_call 70; refine HJ.mono ?_))
  rintro e w1 ⟨rfl, hb1⟩
  have HB1 := hide hb1
  clear hb1
  go_wp2_with (first | (go_at_call 71; refine (clone_any J w1 hJs).mono ?_))
  rintro e w2 ⟨rfl, hb2⟩
  have HB2 := hide (HB1.out.trans (hb2.mono HB1.out.size))
  clear hb2
  go_wp2
  go_ret
  exact ⟨rfl, HB2.out⟩
def scopeR (l : List U) (asked : U) : U × Nat := if asked = [] then (joinS l, 0) else if (scoOut asked).2 = 0 then (if withinB (scoOut asked).1 l = true then (joinS (scoOut asked).1, 0) else ([], 114)) else ([], 114)
theorem cutAll_small2 : ∀ (t u : U), u ∈ cutAll t → u.length ≤ t.length
  | [], u, h => by simp [cutAll] at h; simp [h]
  | c :: t, u, h => by
    obtain ⟨a, r, e⟩ := cutAll_ne t
    have ih := cutAll_small2 t
    by_cases hc : c = 32
    · rw [cutAll, if_pos hc] at h
      rcases List.mem_cons.1 h with rfl | h
      · simp
      · have := ih u h; simp; omega
    · rw [cutAll_cons hc e] at h
      rcases List.mem_cons.1 h with rfl | h
      · have := ih a (by rw [e]; simp); simp; omega
      · have := ih u (by rw [e]; simp [h]); simp; omega
theorem lens_small2 : ∀ (l : List U), (∀ u ∈ l, u.length ≤ 256) → Lib.lens l ≤ 256 * l.length
  | [], _ => by simp [Lib.lens]
  | u :: r, h => by
    have h1 := h u (by simp)
    have h2 := lens_small2 r (fun v hv => h v (by simp [hv]))
    simp only [Lib.lens, List.length_cons] at h2 ⊢
    simp at h2 ⊢
    omega
theorem join_out (t : U) : (joinS (scoOut t).1).length ≤ 140737488355328 := by
  have h1 : (scoOut t).1.length ≤ 32 := scoOut_len t
  have h2 : ∀ u ∈ (scoOut t).1, u.length ≤ 256 := by
    unfold scoOut
    split
    · simp
    · split
      · simp
      · split
        · split
          · simp
          · intro u hu
            have := (insAll_mem _ _ _).1 hu
            simp at this
            have := cutAll_small2 _ _ this
            omega
        · simp
  generalize (scoOut t).1 = l at h1 h2
  unfold joinS
  cases l with
  | nil => simp [Lib.join_nil]
  | cons u r =>
    rw [Lib.join_length]
    have h3 := lens_small2 _ h2
    simp only [List.length_cons, List.length_nil] at h1 h3 ⊢
    omega
set_option maxHeartbeats 1000000 in
set_option maxRecDepth 100000 in
theorem scope_any (id secret url asked : ByteArray) (gr : Int) (pg : Bool) (l : List U) (so : Option Addr) (n cp : Nat) (w : World) (hs : SAt w so n cp l) (hn : n ≤ 140737488355328) (hj : (joinS l).length ≤ 140737488355328) (hM : MaxL w) (ha : asked.size ≤ 9223372036854775807) :
    Calls Tryz.prog 24 #[.agg #[.string id, .string secret, .int .i64 gr, .bool pg, .string url, .slice so n cp], .string asked] w fun e w' => e = .returned (.tuple #[.string ⟨(scopeR l asked.data.toList).1.toArray⟩, .int .i64 ((scopeR l asked.data.toList).2 : Int)]) ∧ Below w.heap.size w w' := by
  have HS : Hid (SAt w so n cp l) := hs
  have HM : Hid (MaxL w) := hM
  have HBA : Hid (Below w.heap.size w (w.alloc (.cells #[.string id, .string secret, .int .i64 gr, .bool pg, .string url, .slice so n cp] 47))) := below_new w _
  by_cases h0 : asked.size = 0
  · have := empty_of h0
    subst this
    have HR : scopeR l ({ data := #[] } : ByteArray).data.toList = (joinS l, 0) := rfl
    rw [HR]
    have HL := listed_any n cp so l (w.alloc (.cells #[.string id, .string secret, .int .i64 gr, .bool pg, .string url, .slice so n cp] 47)) (hs.keep HBA.out) hn hj
    obtain ⟨J, HJE⟩ : ∃ J : ByteArray, Hid (J = ⟨(joinS l).toArray⟩) := ⟨_, hide rfl⟩
    rw [← HJE.out] at HL
    simp only
    rw [← HJE.out]
    clear hs hM hj h0 HR HJE
    go_enter Tryz.func24, Tryz.ntmps24
    go_wp2_with (first | (go_at_call 47; refine HL.mono ?_))
    rintro e w1 ⟨rfl, hb1⟩
    have HB1 := hide (HBA.out.trans (hb1.mono HBA.out.size))
    clear hb1
    go_wp2
    go_ret2
    exact ⟨by go_num, HB1.out⟩
  · have hne := ne_of_size h0
    have HA : Hid (asked.data.toList ≠ []) := by intro h; apply h0; have := congrArg List.length h; simpa using this
    obtain ⟨r, er, hO⟩ : ∃ r er, scoOut asked.data.toList = (r, er) := ⟨_, _, rfl⟩
    obtain ⟨m, hm⟩ : ∃ m, m = r.length := ⟨_, rfl⟩
    have hm32 : m ≤ 32 := by have h32 : (scoOut asked.data.toList).1.length ≤ 32 := scoOut_len _; rw [hO] at h32; rw [hm]; exact h32
    have HJO : Hid ((joinS r).length ≤ 140737488355328) := by have := join_out asked.data.toList; rw [hO] at this; exact this
    have HSC := scopes_m asked r er m (w.alloc (.cells #[.string id, .string secret, .int .i64 gr, .bool pg, .string url, .slice so n cp] 47)) hO hm ha (hM.keep HBA.out)
    have HMR : Hid (m = r.length) := hm
    have HRE : Hid (scopeR l asked.data.toList = if er = 0 then (if withinB r l = true then (joinS r, 0) else ([], 114)) else ([], 114)) := by show _ = _; unfold scopeR; rw [if_neg HA.out, hO]
    obtain ⟨X, HX⟩ : ∃ X, Hid (X = scopeR l asked.data.toList) := ⟨_, hide rfl⟩
    rw [← HX.out] at HRE ⊢
    clear hs hM hj hm hO h0 HX
    go_enter Tryz.func24, Tryz.ntmps24
    go_wp2_with (first | (go_at_call 59; refine HSC.mono ?_))
    rintro e w1 ⟨fo, fc, rfl, HO⟩
    have HB1 := hide (HBA.out.trans (HO.out.2.mono HBA.out.size))
    have c5 : w1.cell? ⟨w.heap.size, 5, none⟩ = some (.slice so n cp) := cell_kept (by simp) HO.out.2
    have HRW := hide HO.out.1.row
    have HRS : Hid (SAt w1 fo m fc r) := by
      obtain ⟨a', c', e, hle, _, _⟩ := HO.out.1.shape
      cases e
      exact ⟨HMR.out, by rw [HMR.out]; exact hle, HO.out.1.row, HO.out.1.ty⟩
    clear HO HSC
    by_cases he : er = 0
    · subst he
      have HW := within_any m n fc cp fo so r l w1 HMR.out HS.out.1 (by omega) hn HRW.out (HS.out.keep HB1.out).2.2.1
      obtain ⟨B, HB⟩ : ∃ B, Hid (B = withinB r l) := ⟨_, hide rfl⟩
      have HRE2 : Hid (X = if B = true then (joinS r, 0) else ([], 114)) := by show _ = _; rw [HRE.out, if_pos rfl, HB.out]
      rw [← HB.out] at HW
      clear HB HRE
      cases B
      · have HXE : Hid (X = ([], 114)) := HRE2
        go_wp2_with (first | (go_at_call 60; refine HW.mono ?_; rintro e wx ⟨rfl, rfl⟩))
        go_ret2
        exact ⟨by rw [HXE.out]; rfl, HB1.out⟩
      · have HXE : Hid (X = (joinS r, 0)) := HRE2
        have HL := listed_any m fc fo r w1 HRS.out (by omega) HJO.out
        obtain ⟨J, HJE⟩ : ∃ J : ByteArray, Hid (J = ⟨(joinS r).toArray⟩) := ⟨_, hide rfl⟩
        rw [← HJE.out] at HL
        go_wp2_with (first | (go_at_call 60; refine HW.mono ?_; rintro e wx ⟨rfl, rfl⟩) | (go_at_call 47; refine HL.mono ?_))
        rintro e w2 ⟨rfl, hb2⟩
        have HB2 := hide (HB1.out.trans (hb2.mono HB1.out.size))
        clear hb2
        go_wp2
        go_ret2
        exact ⟨by rw [HXE.out]; simp only; rw [← HJE.out]; rfl, HB2.out⟩
    · have hei : ((er : Int) == 0) = false := by simp; omega
      have hei2 : ((er : Int) != 0) = true := by simp; omega
      have HXE : Hid (X = ([], 114)) := by show _ = _; rw [HRE.out, if_neg he]
      go_wp2
      go_ret2
      exact ⟨by rw [HXE.out]; rfl, HB1.out⟩
end Go.Proofs.YtjehbdekipmllaaGreatDoor
namespace Go.Proofs.YtjehbdekipmllaaGreatDoor
open Go.RowKit

def cBox : Cl := ⟨{ data := #[98, 111, 120] }, { data := #[115] }, 2, false, { data := #[] }, [[112, 97, 121]]⟩
def cTv : Cl := ⟨{ data := #[116, 118] }, { data := #[] }, 1, false, { data := #[] }, []⟩
def nBox : List Nat := [98, 111, 120]
theorem live_one : parR [105, 100, 61, 98, 111, 120, 38, 115, 101, 99, 114, 101, 116, 61, 115, 38, 103, 114, 97, 110, 116, 115, 61, 99, 105, 98, 97, 38, 115, 99, 111, 112, 101, 61, 112, 97, 121, 10, 105, 100, 61, 116, 118, 38, 103, 114, 97, 110, 116, 115, 61, 100, 101, 118, 105, 99, 101, 10] = ([cBox, cTv], 0, 0) := by kernel_rfl
theorem live_two : authR [cBox, cTv] (claim0 (formT [(nId, nBox), (nSec, [115])])) = ⟨some cBox, 2, 0⟩ := by kernel_rfl
theorem live_three : authR [cBox, cTv] (claim0 (formT [(nId, nBox)])) = ⟨none, 0, 112⟩ := by kernel_rfl
theorem live_four : scopeR [[112, 97, 121]] [] = ([112, 97, 121], 0) := by kernel_rfl
theorem live_five : (claim0 (formT [(nId, nBox), (nSec, [115])])).how = 2 := by kernel_rfl
theorem live_six : (claim0 (formT [(nId, nBox)])).how = 0 := by kernel_rfl
theorem live_seven : (claim0 (formT [(nId, nBox), (nSec, [115])])).sec = { data := #[115] } := by kernel_rfl
theorem live_eight : (claim0 (formT [(nId, nBox)])).sec = { data := #[] } := by kernel_rfl
theorem prow_new (w : World) (l : List Two) : PRow (w.alloc (.cells (flat2 l).toArray 58)) (some ⟨w.heap.size, 0, none⟩) l := by
  refine .inr ⟨_, _, rfl, fun i q hi => ?_⟩
  obtain ⟨h1, h2⟩ := flat2_get l i q hi
  refine ⟨?_, ?_⟩
  · rw [Nat.zero_add, cell_of_row _ _ _ _ _ _ (heap_alloc_new w _)]; simpa using h1
  · rw [Nat.zero_add, cell_of_row _ _ _ _ _ _ (heap_alloc_new w _)]; simpa using h2
theorem flat_two : (flat2 [(nId, nBox), (nSec, [115])]).toArray = #[.string { data := #[99, 108, 105, 101, 110, 116, 95, 105, 100] }, .string { data := #[98, 111, 120] }, .string { data := #[99, 108, 105, 101, 110, 116, 95, 115, 101, 99, 114, 101, 116] }, .string { data := #[115] }] := by kernel_rfl
theorem flat_one : (flat2 [(nId, nBox)]).toArray = #[.string { data := #[99, 108, 105, 101, 110, 116, 95, 105, 100] }, .string { data := #[98, 111, 120] }] := by kernel_rfl
theorem small_two : ∀ c ∈ [cBox, cTv], ClSmall c := by
  intro c hc
  simp only [List.mem_cons, List.not_mem_nil, or_false] at hc
  rcases hc with rfl | rfl
  · exact ⟨by decide, by decide, by decide, by decide, by decide⟩
  · exact ⟨by decide, by decide, by decide, by decide, by decide⟩
theorem live_parse (w : World) (hM : MaxL w) : Calls Tryz.prog 6 #[.string { data := #[105, 100, 61, 98, 111, 120, 38, 115, 101, 99, 114, 101, 116, 61, 115, 38, 103, 114, 97, 110, 116, 115, 61, 99, 105, 98, 97, 38, 115, 99, 111, 112, 101, 61, 112, 97, 121, 10, 105, 100, 61, 116, 118, 38, 103, 114, 97, 110, 116, 115, 61, 100, 101, 118, 105, 99, 101, 10] }] w fun e w' => ∃ b off cap, e = .returned (.tuple #[.slice (some ⟨b, off, none⟩) 2 cap, .int .i64 0, .int .i64 0]) ∧ Hid (CRow w' (some ⟨b, off, none⟩) [cBox, cTv] ∧ Below w.heap.size w w') := by
  refine (clParse_any { data := #[105, 100, 61, 98, 111, 120, 38, 115, 101, 99, 114, 101, 116, 61, 115, 38, 103, 114, 97, 110, 116, 115, 61, 99, 105, 98, 97, 38, 115, 99, 111, 112, 101, 61, 112, 97, 121, 10, 105, 100, 61, 116, 118, 38, 103, 114, 97, 110, 116, 115, 61, 100, 101, 118, 105, 99, 101, 10] } w hM).mono ?_
  rintro e w1 ⟨-, h⟩
  unfold PrEnd at h
  rw [show ({ data := #[105, 100, 61, 98, 111, 120, 38, 115, 101, 99, 114, 101, 116, 61, 115, 38, 103, 114, 97, 110, 116, 115, 61, 99, 105, 98, 97, 38, 115, 99, 111, 112, 101, 61, 112, 97, 121, 10, 105, 100, 61, 116, 118, 38, 103, 114, 97, 110, 116, 115, 61, 100, 101, 118, 105, 99, 101, 10] } : ByteArray).data.toList = [105, 100, 61, 98, 111, 120, 38, 115, 101, 99, 114, 101, 116, 61, 115, 38, 103, 114, 97, 110, 116, 115, 61, 99, 105, 98, 97, 38, 115, 99, 111, 112, 101, 61, 112, 97, 121, 10, 105, 100, 61, 116, 118, 38, 103, 114, 97, 110, 116, 115, 61, 100, 101, 118, 105, 99, 101, 10] from rfl, live_one] at h
  obtain ⟨v, rfl, how, hb1⟩ := h
  obtain ⟨ao, cap, rfl, hcap, hrow, -⟩ := how.own.shape
  obtain ⟨b, off, rfl⟩ := hrow.form (by simp)
  exact ⟨b, off, cap, rfl, hrow, hb1⟩
theorem live_auth1 (b off cap N : Nat) (w : World) (hr : CRow w (some ⟨b, off, none⟩) [cBox, cTv]) (hp : PRow w (some ⟨N, 0, none⟩) [(nId, nBox), (nSec, [115])]) : Calls Tryz.prog 23 #[.slice (some ⟨b, off, none⟩) 2 cap, .string { data := #[] }, .slice (some ⟨N, 0, none⟩) 2 2] w fun e w' => ∃ so n cp, e = .returned (.tuple #[.agg #[.string { data := #[98, 111, 120] }, .string { data := #[115] }, .int .i64 2, .bool false, .string { data := #[] }, .slice so n cp], .int .i64 2, .int .i64 0]) ∧ Hid (SAt w' so n cp [[112, 97, 121]] ∧ Below w.heap.size w w') := by
  have HA1 := auth_any 2 cap 2 2 (some ⟨b, off, none⟩) (some ⟨N, 0, none⟩) [cBox, cTv] { data := #[] } (claim0 (formT [(nId, nBox), (nSec, [115])])) w rfl (by decide) hr small_two
    (fun W hW => claimOf_none 2 2 _ _ W rfl (by decide) (by unfold bytes2; decide) (by decide) (hp.keep hW)) (by rw [live_five]; decide) (by rw [live_seven]; decide)
  rw [live_two] at HA1
  refine HA1.mono ?_
  rintro e w' ⟨-, c, so, n, cp, rfl, rfl, hs, -, hb⟩
  exact ⟨so, n, cp, rfl, hs, hb⟩
theorem live_auth2 (b off cap N : Nat) (w : World) (hr : CRow w (some ⟨b, off, none⟩) [cBox, cTv]) (hp : PRow w (some ⟨N, 0, none⟩) [(nId, nBox)]) : Calls Tryz.prog 23 #[.slice (some ⟨b, off, none⟩) 2 cap, .string { data := #[] }, .slice (some ⟨N, 0, none⟩) 1 1] w fun e w' => ∃ so n cp, e = .returned (.tuple #[.agg #[.string { data := #[] }, .string { data := #[] }, .int .i64 0, .bool false, .string { data := #[] }, .slice so n cp], .int .i64 0, .int .i64 112]) ∧ Hid (Below w.heap.size w w') := by
  have HA1 := auth_any 2 cap 1 1 (some ⟨b, off, none⟩) (some ⟨N, 0, none⟩) [cBox, cTv] { data := #[] } (claim0 (formT [(nId, nBox)])) w rfl (by decide) hr small_two
    (fun W hW => claimOf_none 1 1 _ _ W rfl (by decide) (by unfold bytes2; decide) (by decide) (hp.keep hW)) (by rw [live_six]; decide) (by rw [live_eight]; decide)
  rw [live_three] at HA1
  refine HA1.mono ?_
  rintro e w' ⟨-, c, so, n, cp, rfl, rfl, -, -, hb⟩
  exact ⟨so, n, cp, rfl, hb⟩
theorem live_scope (so : Option Addr) (n cp : Nat) (w : World) (hs : SAt w so n cp [[112, 97, 121]]) (hM : MaxL w) : Calls Tryz.prog 24 #[.agg #[.string { data := #[98, 111, 120] }, .string { data := #[115] }, .int .i64 2, .bool false, .string { data := #[] }, .slice so n cp], .string { data := #[] }] w fun e w' => e = .returned (.tuple #[.string { data := #[112, 97, 121] }, .int .i64 0]) ∧ Below w.heap.size w w' := by
  have hn : n = 1 := hs.1
  have h := scope_any { data := #[98, 111, 120] } { data := #[115] } { data := #[] } { data := #[] } 2 false [[112, 97, 121]] so n cp w hs (by omega) (by decide) hM (by decide)
  rw [show ({ data := #[] } : ByteArray).data.toList = [] from rfl, live_four] at h
  exact h
set_option maxHeartbeats 2000000 in
set_option maxRecDepth 100000 in
theorem live_true (w : World) (hM : MaxL w) : Calls Tryz.prog 11 #[] w fun e w' => e = .returned (.bool true) ∧ Below w.heap.size w w' := by
  have HM : Hid (MaxL w) := hM
  have HPA := live_parse w hM
  clear hM
  go_enter Tryz.func11, Tryz.ntmps11
  go_wp2_with fail
  refine HPA.mono ?_
  rintro e w1 ⟨b, off, cap, rfl, HO⟩
  have HB1 := hide HO.out.2
  have HR := hide HO.out.1
  obtain ⟨so0, n0, cp0, -, c1, -⟩ := HO.out.1.cell (i := 0) (c := cBox) rfl
  obtain ⟨so1, n1, cp1, -, -, e2, -⟩ := HO.out.1.cell (i := 1) (c := cTv) rfl
  have c1' : w1.cell? ⟨b, off + 1, none⟩ = some (.string { data := #[115] }) := c1
  have e2' : w1.cell? ⟨b, off + 6 + 2, none⟩ = some (.int .i64 1) := e2
  have hs1 := HB1.out.size
  clear HO HPA c1 e2
  have HP2 : Hid (PRow (w1.alloc (.cells #[.string { data := #[99, 108, 105, 101, 110, 116, 95, 105, 100] }, .string { data := #[98, 111, 120] }, .string { data := #[99, 108, 105, 101, 110, 116, 95, 115, 101, 99, 114, 101, 116] }, .string { data := #[115] }] 58)) (some ⟨w1.heap.size, 0, none⟩) [(nId, nBox), (nSec, [115])]) := by
    have h := prow_new w1 [(nId, nBox), (nSec, [115])]
    rw [flat_two] at h; exact h
  have HB2 : Hid (Below w1.heap.size w1 (w1.alloc (.cells #[.string { data := #[99, 108, 105, 101, 110, 116, 95, 105, 100] }, .string { data := #[98, 111, 120] }, .string { data := #[99, 108, 105, 101, 110, 116, 95, 115, 101, 99, 114, 101, 116] }, .string { data := #[115] }] 58))) := below_new _ _
  have HA1 := live_auth1 b off cap w1.heap.size _ (HR.out.keep HB2.out) HP2.out
  have hs2 := HB2.out.size
  go_wp2_with (first | (go_at_call 8; refine (num_any _ _).mono ?_; rintro e wx ⟨rfl, rfl⟩) | fail)
  refine HA1.mono ?_
  rintro e w3 ⟨so, n, cp, rfl, HO⟩
  have HB3 : Hid (Below w.heap.size w w3) := (HB1.out.trans (HB2.out.mono (by omega))).trans (HO.out.2.mono (by omega))
  have HR3 := hide ((HR.out.keep HB2.out).keep HO.out.2)
  have HS3 := hide HO.out.1
  clear HO HA1 HR HP2 HB2
  have HBX : Hid (Below w3.heap.size w3 ((w3.alloc (.cells #[.string { data := #[98, 111, 120] }, .string { data := #[115] }, .int .i64 2, .bool false, .string { data := #[] }, .slice so n cp] 47)).alloc (.cells #[.string { data := #[99, 108, 105, 101, 110, 116, 95, 105, 100] }, .string { data := #[98, 111, 120] }] 58))) := (below_new w3 _).trans ((below_new _ _).mono (by simp))
  have HP4 : Hid (PRow ((w3.alloc (.cells #[.string { data := #[98, 111, 120] }, .string { data := #[115] }, .int .i64 2, .bool false, .string { data := #[] }, .slice so n cp] 47)).alloc (.cells #[.string { data := #[99, 108, 105, 101, 110, 116, 95, 105, 100] }, .string { data := #[98, 111, 120] }] 58)) (some ⟨w3.heap.size + 1, 0, none⟩) [(nId, nBox)]) := by
    have h := prow_new (w3.alloc (.cells #[.string { data := #[98, 111, 120] }, .string { data := #[115] }, .int .i64 2, .bool false, .string { data := #[] }, .slice so n cp] 47)) [(nId, nBox)]
    rw [flat_one, show (w3.alloc (.cells #[.string { data := #[98, 111, 120] }, .string { data := #[115] }, .int .i64 2, .bool false, .string { data := #[] }, .slice so n cp] 47)).heap.size = w3.heap.size + 1 by simp] at h; exact h
  have HA2 := live_auth2 b off cap (w3.heap.size + 1) _ (HR3.out.keep HBX.out) HP4.out
  have hs4 := HBX.out.size
  go_wp2_with fail
  refine HA2.mono ?_
  rintro e w5 ⟨so5, n5, cp5, rfl, HO⟩
  have HB5 : Hid (Below w.heap.size w w5) := (HB3.out.trans (HBX.out.mono (by have := HB3.out.size; omega))).trans (HO.out.mono (by have := HB3.out.size; omega))
  have HS5 := hide ((HS3.out.keep HBX.out).keep HO.out)
  have HC5 : Hid (C6 w5 w3.heap.size (.string { data := #[98, 111, 120] }) (.string { data := #[115] }) (.int .i64 2) (.bool false) (.string { data := #[] }) (.slice so n cp)) := C6.keep (C6.keep (heap_alloc_new w3 _) (below_new _ _) (by simp)) HO.out (by simp; omega)
  have HB6 : Hid (Below w5.heap.size w5 (w5.alloc (.cells #[.string { data := #[] }, .string { data := #[] }, .int .i64 0, .bool false, .string { data := #[] }, .slice so5 n5 cp5] 47))) := below_new _ _
  have HSC := live_scope so n cp _ (HS5.out.keep HB6.out) ((HM.out.keep HB5.out).keep HB6.out)
  have HC6 := hide (HC5.out.keep HB6.out HC5.out.lt)
  obtain ⟨p0, p1, p2, p3, p4, p5⟩ := HC5.out.cells
  have hlt5 := HC5.out.lt
  have hs5 := HB5.out.size
  have hs6 := HB6.out.size
  clear HO HA2 HR3 HP4 HBX HS5 HS3
  go_wp2_with fail
  refine HSC.mono ?_
  rintro e w7 ⟨rfl, hb7⟩
  have HB7 : Hid (Below w.heap.size w w7) := (HB5.out.trans (HB6.out.mono (by omega))).trans (hb7.mono (by omega))
  have q0 : w7.cell? ⟨w3.heap.size, 0, none⟩ = some (.string { data := #[98, 111, 120] }) := cell_kept HC6.out.cells.1 hb7
  clear hb7 HSC
  go_wp2_with (first | (go_at_call 8; refine (num_any _ _).mono ?_; rintro e wx ⟨rfl, rfl⟩))
  go_ret
  exact ⟨rfl, HB7.out⟩
end Go.Proofs.YtjehbdekipmllaaGreatDoor
