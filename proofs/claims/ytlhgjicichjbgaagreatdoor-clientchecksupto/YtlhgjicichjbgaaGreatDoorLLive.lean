/- The contract of the laws' live: it answers true. -/
import Derived.Test.YtlhgjicichjbgaaGreatDoorGNext
import Derived.Test.YtlhgjicichjbgaaGreatDoorGAuth
import Derived.Test.YtlhgjicichjbgaaGreatDoorLScope
import Derived.Test.YtlhgjicichjbgaaGreatDoorNumFn
namespace Go.Proofs.YtlhgjicichjbgaaGreatDoor
open Go.RowKit

def cBox : Cl := ⟨{ data := #[98, 111, 120] }, { data := #[115] }, 2, false, { data := #[] }, [[112, 97, 121]]⟩
def cTv : Cl := ⟨{ data := #[116, 118] }, { data := #[] }, 1, false, { data := #[] }, []⟩
def nBox : List Nat := [98, 111, 120]
theorem live_one : parR [105, 100, 61, 98, 111, 120, 38, 115, 101, 99, 114, 101, 116, 61, 115, 38, 103, 114, 97, 110, 116, 115, 61, 99, 105, 98, 97, 38, 115, 99, 111, 112, 101, 61, 112, 97, 121, 10, 105, 100, 61, 116, 118, 38, 103, 114, 97, 110, 116, 115, 61, 100, 101, 118, 105, 99, 101, 10] = ([cBox, cTv], 0, 0) := by kernel_rfl
theorem live_two : authR [cBox, cTv] (claim0 (formT [(nId, nBox), (nSec, [115])])) = ⟨some cBox, 2, 0⟩ := by kernel_rfl
theorem live_three : authR [cBox, cTv] (claim0 (formT [(nId, nBox)])) = ⟨none, 0, 112⟩ := by kernel_rfl
theorem live_four : scopeR [[112, 97, 121]] [] = ([112, 97, 121], 0) := by kernel_rfl
theorem live_five : (claim0 (formT [(nId, nBox), (nSec, [115])])).how = 2 := by kernel_rfl
theorem live_six : (claim0 (formT [(nId, nBox)])).how = 0 := by kernel_rfl
theorem live_seven : (claim0 (formT [(nId, nBox), (nSec, [115])])).sec = { data := #[115] } := by kernel_rfl
theorem live_eight : (claim0 (formT [(nId, nBox)])).sec = { data := #[] } := by kernel_rfl
theorem prow_new (w : World) (l : List Two) : PRow (w.alloc (.cells (flat2 l).toArray 63)) (some ⟨w.heap.size, 0, none⟩) l := by
  refine .inr ⟨_, _, rfl, fun i q hi => ?_⟩
  obtain ⟨h1, h2⟩ := flat2_get l i q hi
  refine ⟨?_, ?_⟩
  · rw [Nat.zero_add, cell_of_row _ _ _ _ _ _ (heap_alloc_new w _)]; simpa using h1
  · rw [Nat.zero_add, cell_of_row _ _ _ _ _ _ (heap_alloc_new w _)]; simpa using h2
theorem flat_two : (flat2 [(nId, nBox), (nSec, [115])]).toArray = #[.string { data := #[99, 108, 105, 101, 110, 116, 95, 105, 100] }, .string { data := #[98, 111, 120] }, .string { data := #[99, 108, 105, 101, 110, 116, 95, 115, 101, 99, 114, 101, 116] }, .string { data := #[115] }] := by kernel_rfl
theorem flat_one : (flat2 [(nId, nBox)]).toArray = #[.string { data := #[99, 108, 105, 101, 110, 116, 95, 105, 100] }, .string { data := #[98, 111, 120] }] := by kernel_rfl
theorem small_two : ∀ c ∈ [cBox, cTv], ClSmall c := by
  intro c hc
  simp only [List.mem_cons, List.not_mem_nil, or_false] at hc
  rcases hc with rfl | rfl
  · exact ⟨by decide, by decide, by decide, by decide, by decide⟩
  · exact ⟨by decide, by decide, by decide, by decide, by decide⟩
theorem live_parse (w : World) (hM : MaxL w) : Calls Tryz.prog 15 #[.string { data := #[105, 100, 61, 98, 111, 120, 38, 115, 101, 99, 114, 101, 116, 61, 115, 38, 103, 114, 97, 110, 116, 115, 61, 99, 105, 98, 97, 38, 115, 99, 111, 112, 101, 61, 112, 97, 121, 10, 105, 100, 61, 116, 118, 38, 103, 114, 97, 110, 116, 115, 61, 100, 101, 118, 105, 99, 101, 10] }] w fun e w' => ∃ b off cap, e = .returned (.tuple #[.slice (some ⟨b, off, none⟩) 2 cap, .int .i64 0, .int .i64 0]) ∧ Hid (CRow w' (some ⟨b, off, none⟩) [cBox, cTv] ∧ Below w.heap.size w w') := by
  refine (clParse_any { data := #[105, 100, 61, 98, 111, 120, 38, 115, 101, 99, 114, 101, 116, 61, 115, 38, 103, 114, 97, 110, 116, 115, 61, 99, 105, 98, 97, 38, 115, 99, 111, 112, 101, 61, 112, 97, 121, 10, 105, 100, 61, 116, 118, 38, 103, 114, 97, 110, 116, 115, 61, 100, 101, 118, 105, 99, 101, 10] } w hM).mono ?_
  rintro e w1 ⟨-, h⟩
  unfold PrEnd at h
  rw [show ({ data := #[105, 100, 61, 98, 111, 120, 38, 115, 101, 99, 114, 101, 116, 61, 115, 38, 103, 114, 97, 110, 116, 115, 61, 99, 105, 98, 97, 38, 115, 99, 111, 112, 101, 61, 112, 97, 121, 10, 105, 100, 61, 116, 118, 38, 103, 114, 97, 110, 116, 115, 61, 100, 101, 118, 105, 99, 101, 10] } : ByteArray).data.toList = [105, 100, 61, 98, 111, 120, 38, 115, 101, 99, 114, 101, 116, 61, 115, 38, 103, 114, 97, 110, 116, 115, 61, 99, 105, 98, 97, 38, 115, 99, 111, 112, 101, 61, 112, 97, 121, 10, 105, 100, 61, 116, 118, 38, 103, 114, 97, 110, 116, 115, 61, 100, 101, 118, 105, 99, 101, 10] from rfl, live_one] at h
  obtain ⟨v, rfl, how, hb1⟩ := h
  obtain ⟨ao, cap, rfl, hcap, hrow, -⟩ := how.shape
  obtain ⟨b, off, rfl⟩ := hrow.form (by simp)
  exact ⟨b, off, cap, rfl, hrow, hb1⟩
theorem live_auth1 (b off cap N : Nat) (w : World) (hr : CRow w (some ⟨b, off, none⟩) [cBox, cTv]) (hp : PRow w (some ⟨N, 0, none⟩) [(nId, nBox), (nSec, [115])]) : Calls Tryz.prog 28 #[.slice (some ⟨b, off, none⟩) 2 cap, .string { data := #[] }, .slice (some ⟨N, 0, none⟩) 2 2] w fun e w' => ∃ so n cp, e = .returned (.tuple #[.agg #[.string { data := #[98, 111, 120] }, .string { data := #[115] }, .int .i64 2, .bool false, .string { data := #[] }, .slice so n cp], .int .i64 2, .int .i64 0]) ∧ Hid (SAt w' so n cp [[112, 97, 121]] ∧ Below w.heap.size w w') := by
  have HA1 := auth_any 2 cap 2 2 (some ⟨b, off, none⟩) (some ⟨N, 0, none⟩) [cBox, cTv] { data := #[] } (claim0 (formT [(nId, nBox), (nSec, [115])])) w rfl (by decide) hr small_two
    (fun W hW => claimOf_none 2 2 _ _ W rfl (by decide) (by unfold bytes2; decide) (by decide) (hp.keep hW)) (by rw [live_five]; decide) (by rw [live_seven]; decide)
  rw [live_two] at HA1
  refine HA1.mono ?_
  rintro e w' ⟨-, c, so, n, cp, rfl, rfl, hs, -, hb⟩
  exact ⟨so, n, cp, rfl, hs, hb⟩
theorem live_auth2 (b off cap N : Nat) (w : World) (hr : CRow w (some ⟨b, off, none⟩) [cBox, cTv]) (hp : PRow w (some ⟨N, 0, none⟩) [(nId, nBox)]) : Calls Tryz.prog 28 #[.slice (some ⟨b, off, none⟩) 2 cap, .string { data := #[] }, .slice (some ⟨N, 0, none⟩) 1 1] w fun e w' => ∃ so n cp, e = .returned (.tuple #[.agg #[.string { data := #[] }, .string { data := #[] }, .int .i64 0, .bool false, .string { data := #[] }, .slice so n cp], .int .i64 0, .int .i64 112]) ∧ Hid (Below w.heap.size w w') := by
  have HA1 := auth_any 2 cap 1 1 (some ⟨b, off, none⟩) (some ⟨N, 0, none⟩) [cBox, cTv] { data := #[] } (claim0 (formT [(nId, nBox)])) w rfl (by decide) hr small_two
    (fun W hW => claimOf_none 1 1 _ _ W rfl (by decide) (by unfold bytes2; decide) (by decide) (hp.keep hW)) (by rw [live_six]; decide) (by rw [live_eight]; decide)
  rw [live_three] at HA1
  refine HA1.mono ?_
  rintro e w' ⟨-, c, so, n, cp, rfl, rfl, -, -, hb⟩
  exact ⟨so, n, cp, rfl, hb⟩
theorem live_scope (so : Option Addr) (n cp : Nat) (w : World) (hs : SAt w so n cp [[112, 97, 121]]) (hM : MaxL w) : Calls Tryz.prog 29 #[.agg #[.string { data := #[98, 111, 120] }, .string { data := #[115] }, .int .i64 2, .bool false, .string { data := #[] }, .slice so n cp], .string { data := #[] }] w fun e w' => e = .returned (.tuple #[.string { data := #[112, 97, 121] }, .int .i64 0]) ∧ Below w.heap.size w w' := by
  have hn : n = 1 := hs.1
  have h := scope_any { data := #[98, 111, 120] } { data := #[115] } { data := #[] } { data := #[] } 2 false [[112, 97, 121]] so n cp w hs (by omega) (by decide) hM (by decide)
  rw [show ({ data := #[] } : ByteArray).data.toList = [] from rfl, live_four] at h
  exact h
set_option maxHeartbeats 2000000 in
set_option maxRecDepth 100000 in
theorem live_true (w : World) (hM : MaxL w) : Calls Tryz.prog 10 #[] w fun e w' => e = .returned (.bool true) ∧ Below w.heap.size w w' := by
  have HM : Hid (MaxL w) := hM
  have HPA := live_parse w hM
  clear hM
  go_enter Tryz.func10, Tryz.ntmps10
  go_wp2_with fail
  refine HPA.mono ?_
  rintro e w1 ⟨b, off, cap, rfl, HO⟩
  have HB1 := hide HO.out.2
  have HR := hide HO.out.1
  obtain ⟨so0, n0, cp0, -, c1, -⟩ := HO.out.1.cell (i := 0) (c := cBox) rfl
  obtain ⟨so1, n1, cp1, -, -, e2, -⟩ := HO.out.1.cell (i := 1) (c := cTv) rfl
  have c1' : w1.cell? ⟨b, off + 1, none⟩ = some (.string { data := #[115] }) := c1
  have e2' : w1.cell? ⟨b, off + 6 + 2, none⟩ = some (.int .i64 1) := e2
  have hs1 := HB1.out.size
  clear HO HPA c1 e2
  have HP2 : Hid (PRow (w1.alloc (.cells #[.string { data := #[99, 108, 105, 101, 110, 116, 95, 105, 100] }, .string { data := #[98, 111, 120] }, .string { data := #[99, 108, 105, 101, 110, 116, 95, 115, 101, 99, 114, 101, 116] }, .string { data := #[115] }] 63)) (some ⟨w1.heap.size, 0, none⟩) [(nId, nBox), (nSec, [115])]) := by
    have h := prow_new w1 [(nId, nBox), (nSec, [115])]
    rw [flat_two] at h; exact h
  have HB2 : Hid (Below w1.heap.size w1 (w1.alloc (.cells #[.string { data := #[99, 108, 105, 101, 110, 116, 95, 105, 100] }, .string { data := #[98, 111, 120] }, .string { data := #[99, 108, 105, 101, 110, 116, 95, 115, 101, 99, 114, 101, 116] }, .string { data := #[115] }] 63))) := below_new _ _
  have HA1 := live_auth1 b off cap w1.heap.size _ (HR.out.keep HB2.out) HP2.out
  have hs2 := HB2.out.size
  go_wp2_with (first | (go_at_call 9; refine (num_any _ _).mono ?_; rintro e wx ⟨rfl, rfl⟩) | fail)
  refine HA1.mono ?_
  rintro e w3 ⟨so, n, cp, rfl, HO⟩
  have HB3 : Hid (Below w.heap.size w w3) := (HB1.out.trans (HB2.out.mono (by omega))).trans (HO.out.2.mono (by omega))
  have HR3 := hide ((HR.out.keep HB2.out).keep HO.out.2)
  have HS3 := hide HO.out.1
  clear HO HA1 HR HP2 HB2
  have HBX : Hid (Below w3.heap.size w3 ((w3.alloc (.cells #[.string { data := #[98, 111, 120] }, .string { data := #[115] }, .int .i64 2, .bool false, .string { data := #[] }, .slice so n cp] 27)).alloc (.cells #[.string { data := #[99, 108, 105, 101, 110, 116, 95, 105, 100] }, .string { data := #[98, 111, 120] }] 63))) := (below_new w3 _).trans ((below_new _ _).mono (by simp))
  have HP4 : Hid (PRow ((w3.alloc (.cells #[.string { data := #[98, 111, 120] }, .string { data := #[115] }, .int .i64 2, .bool false, .string { data := #[] }, .slice so n cp] 27)).alloc (.cells #[.string { data := #[99, 108, 105, 101, 110, 116, 95, 105, 100] }, .string { data := #[98, 111, 120] }] 63)) (some ⟨w3.heap.size + 1, 0, none⟩) [(nId, nBox)]) := by
    have h := prow_new (w3.alloc (.cells #[.string { data := #[98, 111, 120] }, .string { data := #[115] }, .int .i64 2, .bool false, .string { data := #[] }, .slice so n cp] 27)) [(nId, nBox)]
    rw [flat_one, show (w3.alloc (.cells #[.string { data := #[98, 111, 120] }, .string { data := #[115] }, .int .i64 2, .bool false, .string { data := #[] }, .slice so n cp] 27)).heap.size = w3.heap.size + 1 by simp] at h; exact h
  have HA2 := live_auth2 b off cap (w3.heap.size + 1) _ (HR3.out.keep HBX.out) HP4.out
  have hs4 := HBX.out.size
  go_wp2_with fail
  refine HA2.mono ?_
  rintro e w5 ⟨so5, n5, cp5, rfl, HO⟩
  have HB5 : Hid (Below w.heap.size w w5) := (HB3.out.trans (HBX.out.mono (by have := HB3.out.size; omega))).trans (HO.out.mono (by have := HB3.out.size; omega))
  have HS5 := hide ((HS3.out.keep HBX.out).keep HO.out)
  have HC5 : Hid (C6 w5 w3.heap.size (.string { data := #[98, 111, 120] }) (.string { data := #[115] }) (.int .i64 2) (.bool false) (.string { data := #[] }) (.slice so n cp)) := C6.keep (C6.keep (heap_alloc_new w3 _) (below_new _ _) (by simp)) HO.out (by simp; omega)
  have HB6 : Hid (Below w5.heap.size w5 (w5.alloc (.cells #[.string { data := #[] }, .string { data := #[] }, .int .i64 0, .bool false, .string { data := #[] }, .slice so5 n5 cp5] 27))) := below_new _ _
  have HSC := live_scope so n cp _ (HS5.out.keep HB6.out) ((HM.out.keep HB5.out).keep HB6.out)
  have HC6 := hide (HC5.out.keep HB6.out HC5.out.lt)
  obtain ⟨p0, p1, p2, p3, p4, p5⟩ := HC5.out.cells
  have hlt5 := HC5.out.lt
  have hs5 := HB5.out.size
  have hs6 := HB6.out.size
  clear HO HA2 HR3 HP4 HBX HS5 HS3
  go_wp2_with fail
  refine HSC.mono ?_
  rintro e w7 ⟨rfl, hb7⟩
  have HB7 : Hid (Below w.heap.size w w7) := (HB5.out.trans (HB6.out.mono (by omega))).trans (hb7.mono (by omega))
  have q0 : w7.cell? ⟨w3.heap.size, 0, none⟩ = some (.string { data := #[98, 111, 120] }) := cell_kept HC6.out.cells.1 hb7
  clear hb7 HSC
  go_wp2_with (first | (go_at_call 9; refine (num_any _ _).mono ?_; rintro e wx ⟨rfl, rfl⟩))
  go_ret
  exact ⟨rfl, HB7.out⟩
end Go.Proofs.YtlhgjicichjbgaaGreatDoor
