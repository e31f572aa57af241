/- A nil disk, and the walk of the law DiskNil. -/
import Derived.Test.YtmdgecjflkkhdabDPlay
namespace Go.Proofs.Ytmdgecjflkkhdab
open Go.RowKit Go.Maps

set_option maxRecDepth 100000 in
theorem nil_arm (n : Int) (w : World) : Calls Try.prog 19 #[.pointer none, .int .i64 n] w fun e w' => e = .returned (.tuple #[]) ∧ w' = w := by
  go_enter Try.func19, Try.ntmps19
  go_wp2
  (try simp only [Exit.inBlock, Exit.then]); refine bodyPost_ret (results_none rfl _ _ _) rfl ?_
  exact ⟨rfl, rfl⟩
set_option maxRecDepth 100000 in
theorem nil_read (s : ByteArray) (w : World) : Calls Try.prog 23 #[.pointer none, .string s] w fun e w' => e = .returned (.tuple #[.slice none 0 0, .int .i64 0]) ∧ w' = w := by
  go_enter Try.func23, Try.ntmps23
  go_wp2
  go_ret2
  exact ⟨rfl, rfl⟩
set_option maxRecDepth 100000 in
theorem nil_list (w : World) : Calls Try.prog 18 #[.pointer none] w fun e w' => e = .returned (.slice none 0 0) ∧ w' = w := by
  go_enter Try.func18, Try.ntmps18
  go_wp2
  go_ret
  exact ⟨rfl, rfl⟩
set_option maxRecDepth 100000 in
theorem nil_left (dir : Int) (ao : Option Addr) (n c : Nat) (w : World) : Calls Try.prog 8 #[.pointer none, .agg #[.int .i64 dir, .slice ao n c]] w fun e w' => e = .returned (.slice none 0 0) ∧ Below w.heap.size w w' := by
  have HU := hide (below_new w (.cells #[.int .i64 dir, .slice ao n c] 28))
  go_enter Try.func8, Try.ntmps8
  go_wp2
  go_ret
  exact ⟨rfl, HU.out⟩
set_option maxRecDepth 100000 in
theorem nil_durable (w : World) : Calls Try.prog 17 #[.pointer none] w fun e w' => e = .returned (.slice none 0 0) ∧ Below w.heap.size w w' := by
  have HC := hide (nil_left 0 none 0 0 w)
  go_enter Try.func17, Try.ntmps17
  go_wp2_with (first | (go_at_call 8; refine HC.out.mono ?_; rintro e w3 ⟨rfl, h3⟩; have H3 := hide h3; clear h3))
  go_ret
  exact ⟨rfl, H3.out⟩
set_option maxRecDepth 100000 in
theorem nil_free (w : World) : Calls Try.prog 24 #[.pointer none] w fun e w' => e = .returned (.int .i64 0) ∧ w' = w := by
  go_enter Try.func24, Try.ntmps24
  go_wp2
  go_ret
  exact ⟨rfl, rfl⟩
set_option maxRecDepth 100000 in
theorem nil_count (w : World) : Calls Try.prog 13 #[.pointer none] w fun e w' => e = .returned (.int .i64 0) ∧ w' = w := by
  go_enter Try.func13, Try.ntmps13
  go_wp2
  go_ret
  exact ⟨rfl, rfl⟩
set_option maxRecDepth 100000 in
theorem nil_dead (w : World) : Calls Try.prog 14 #[.pointer none] w fun e w' => e = .returned (.bool false) ∧ w' = w := by
  go_enter Try.func14, Try.ntmps14
  go_wp2
  go_ret
  exact ⟨rfl, rfl⟩
set_option maxRecDepth 100000 in
theorem nil_create (s : ByteArray) (w : World) : Calls Try.prog 25 #[.pointer none, .string s] w fun e w' => e = .returned (.int .i64 0) ∧ w' = w := by
  go_enter Try.func25, Try.ntmps25
  go_wp2
  go_ret
  exact ⟨rfl, rfl⟩
set_option maxRecDepth 100000 in
theorem nil_append (s : ByteArray) (v : Value) (w : World) : Calls Try.prog 26 #[.pointer none, .string s, v] w fun e w' => e = .returned (.int .i64 0) ∧ w' = w := by
  go_enter Try.func26, Try.ntmps26
  go_wp2
  go_ret
  exact ⟨rfl, rfl⟩
set_option maxRecDepth 100000 in
theorem nil_sync (s : ByteArray) (w : World) : Calls Try.prog 27 #[.pointer none, .string s] w fun e w' => e = .returned (.int .i64 0) ∧ w' = w := by
  go_enter Try.func27, Try.ntmps27
  go_wp2
  go_ret
  exact ⟨rfl, rfl⟩
set_option maxRecDepth 100000 in
theorem nil_rename (s t : ByteArray) (w : World) : Calls Try.prog 28 #[.pointer none, .string s, .string t] w fun e w' => e = .returned (.int .i64 0) ∧ w' = w := by
  go_enter Try.func28, Try.ntmps28
  go_wp2
  go_ret
  exact ⟨rfl, rfl⟩
set_option maxRecDepth 100000 in
theorem nil_remove (s : ByteArray) (w : World) : Calls Try.prog 29 #[.pointer none, .string s] w fun e w' => e = .returned (.int .i64 0) ∧ w' = w := by
  go_enter Try.func29, Try.ntmps29
  go_wp2
  go_ret
  exact ⟨rfl, rfl⟩
set_option maxRecDepth 100000 in
theorem nil_syncDir (w : World) : Calls Try.prog 21 #[.pointer none] w fun e w' => e = .returned (.int .i64 0) ∧ w' = w := by
  go_enter Try.func21, Try.ntmps21
  go_wp2
  go_ret
  exact ⟨rfl, rfl⟩
set_option maxHeartbeats 2000000 in
set_option maxRecDepth 100000 in
theorem diskNil_walk (kind n dir : Int) (snm stn : ByteArray) (pao tao : Option Addr) (pl pc tl tc : Nat) (ts : List Int) (w : World) (ht : IRow w tao ts) (htl : tl = ts.length) (hts : tl * 8 ≤ 140737488351232) :
    Calls Try.prog 5 #[.agg #[.int .i64 kind, .string snm, .string stn, .slice pao pl pc, .int .i64 n, .int .i64 dir, .slice tao tl tc]] w fun e w' => e = .returned (.bool true) ∧ Below w.heap.size w w' := by
  have HB := hide (Bl.new w #[.int .i64 kind, .string snm, .string stn, .slice pao pl pc, .int .i64 n, .int .i64 dir, .slice tao tl tc] 50)
  have HU := hide (below_new w (.cells #[.int .i64 kind, .string snm, .string stn, .slice pao pl pc, .int .i64 n, .int .i64 dir, .slice tao tl tc] 50))
  have HT := hide (ht.keep HU.out)
  have HTL := hide htl
  have HTS := hide hts
  clear ht htl hts
  go_enter Try.func5, Try.ntmps5
  go_upto_region 1 with fail
  obtain ⟨N, hN⟩ : ∃ N, N = w.heap.size := ⟨_, rfl⟩
  rw [← hN] at HB ⊢
  have HNW := hide hN
  clear hN
  generalize w.alloc (.cells #[.int .i64 kind, .string snm, .string stn, .slice pao pl pc, .int .i64 n, .int .i64 dir, .slice tao tl tc] 50) = u at *
  have HCR := hide (crash_any dir tao tl tc ts u HT.out HTL.out HTS.out)
  have u1 : u.cell? ⟨N, 1, none⟩ = some (.string snm) := HB.out.cell 1
  have u4 : u.cell? ⟨N, 4, none⟩ = some (.int .i64 n) := HB.out.cell 4
  have u5 : u.cell? ⟨N, 5, none⟩ = some (.int .i64 dir) := HB.out.cell 5
  have u6 : u.cell? ⟨N, 6, none⟩ = some (.slice tao tl tc) := HB.out.cell 6
  go_upto_region 6 with (first | (go_at_call 19; refine (nil_arm _ _).mono ?_; rintro e wx ⟨rfl, hwx⟩; have hwy := hwx.symm; subst hwy; clear hwx) | (go_at_call 23; refine (nil_read _ _).mono ?_; rintro e wx ⟨rfl, hwx⟩; have hwy := hwx.symm; subst hwy; clear hwx) | (go_at_call 12; refine (num_any _ _).mono ?_; rintro e wx ⟨rfl, hwx⟩; have hwy := hwx.symm; subst hwy; clear hwx) | (go_at_call 18; refine (nil_list _).mono ?_; rintro e wx ⟨rfl, hwx⟩; have hwy := hwx.symm; subst hwy; clear hwx) | (go_at_call 9; refine HCR.out.mono ?_; rintro e w2 ⟨tao2, m2, cap2, rfl, ht2, hm2, hb2⟩; have HB2 := hide hb2; clear hb2 ht2 hm2) | (go_at_call 8; refine (nil_left _ _ _ _ _).mono ?_; rintro e w3 ⟨rfl, hb3⟩; have HB3 := hide hb3; clear hb3) | (go_at_call 17; refine (nil_durable _).mono ?_; rintro e w4 ⟨rfl, hb4⟩; have HB4 := hide hb4; clear hb4) | (go_at_call 24; refine (nil_free _).mono ?_; rintro e wx ⟨rfl, hwx⟩; have hwy := hwx.symm; subst hwy; clear hwx) | (go_at_call 13; refine (nil_count _).mono ?_; rintro e wx ⟨rfl, hwx⟩; have hwy := hwx.symm; subst hwy; clear hwx) | (go_at_call 14; refine (nil_dead _).mono ?_; rintro e wx ⟨rfl, hwx⟩; have hwy := hwx.symm; subst hwy; clear hwx) | fail)
  have HB9 := hide (((HB.out.keep HB2.out).keep HB3.out).keep HB4.out)
  have HU9 := hide (((HU.out.trans (HB2.out.mono HU.out.size)).trans (HB3.out.mono (Nat.le_trans HU.out.size HB2.out.size))).trans (HB4.out.mono (Nat.le_trans (Nat.le_trans HU.out.size HB2.out.size) HB3.out.size)))
  have x1 : w4.cell? ⟨N, 1, none⟩ = some (.string snm) := HB9.out.cell 1
  have x2 : w4.cell? ⟨N, 2, none⟩ = some (.string stn) := HB9.out.cell 2
  have x3 : w4.cell? ⟨N, 3, none⟩ = some (.slice pao pl pc) := HB9.out.cell 3
  have HLV := hide (live_true w4)
  clear u1 u4 u5 u6 HCR HB2 HB3 HB4
  go_wp2_with (first | (go_at_call 25; refine (nil_create _ _).mono ?_; rintro e wx ⟨rfl, hwx⟩; have hwy := hwx.symm; subst hwy; clear hwx) | (go_at_call 26; refine (nil_append _ _ _).mono ?_; rintro e wx ⟨rfl, hwx⟩; have hwy := hwx.symm; subst hwy; clear hwx) | (go_at_call 12; refine (num_any _ _).mono ?_; rintro e wx ⟨rfl, hwx⟩; have hwy := hwx.symm; subst hwy; clear hwx) | (go_at_call 27; refine (nil_sync _ _).mono ?_; rintro e wx ⟨rfl, hwx⟩; have hwy := hwx.symm; subst hwy; clear hwx) | (go_at_call 28; refine (nil_rename _ _ _).mono ?_; rintro e wx ⟨rfl, hwx⟩; have hwy := hwx.symm; subst hwy; clear hwx) | (go_at_call 29; refine (nil_remove _ _).mono ?_; rintro e wx ⟨rfl, hwx⟩; have hwy := hwx.symm; subst hwy; clear hwx) | (go_at_call 21; refine (nil_syncDir _).mono ?_; rintro e wx ⟨rfl, hwx⟩; have hwy := hwx.symm; subst hwy; clear hwx) | (go_at_call 7; refine HLV.out.mono ?_; rintro e w5 ⟨rfl, h5⟩; have H5 := hide h5; clear h5) | fail)
  go_ret
  exact ⟨rfl, HU9.out.trans (H5.out.mono HU9.out.size)⟩
end Go.Proofs.Ytmdgecjflkkhdab
