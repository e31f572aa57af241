/- CodesNil, walked: a nil source has no bytes. -/
import Derived.Test.YtonnnolnkjahgabDoorCLive
namespace Go.Proofs.YtonnnolnkjahgabDoor
open Go.RowKit Go.Shelf

set_option maxHeartbeats 400000 in
set_option maxRecDepth 100000 in
theorem drawnNil_any (n : Nat) (hn : 0 < n) (hn2 : n ≤ 64) (w : World) : Calls Tryd.prog 25 #[.pointer none, .int .i64 (n : Int)] w fun e w' => e = .returned (.tuple #[.string { data := #[] }, .int .i64 90]) ∧ Below w.heap.size w w' := by
  have hn0 : (0 : Int) < (n : Int) := by omega
  have HN := hide hn2
  clear hn hn2
  go_enter Tryd.func25, Tryd.ntmps25
  go_wp2_with (first | (at_make; refine wpList_make_bytes rfl _ _ rfl .i64 .i64 _ _ 0 n rfl rfl rfl rfl (by omega) (by have := HN.out; omega) ?_) | fail)
  rintro w1 - hb1 -
  have HB1 := hide hb1
  clear hb1
  go_wp2
  go_loopw [12] (fun a wr => a = .int .i64 0 ∧ wr = w1) (fun _ _ => 0)
  case atStart => exact ⟨rfl, rfl⟩
  case round =>
    obtain ⟨rfl, rfl⟩ := hrel
    go_wp2_with (go_at_call 16; refine (byteNil_any _).mono ?_; rintro e wx ⟨rfl, hwx⟩; have hwy := hwx.symm; subst hwy; clear hwx)
    go_ret2
    exact ⟨rfl, HB1.out⟩
theorem deviceNil_any (w : World) : Calls Tryd.prog 12 #[.pointer none] w fun e w' => e = .returned (.tuple #[.string { data := #[] }, .int .i64 90]) ∧ Below w.heap.size w w' := by
  have HD := hide (drawnNil_any 32 (by omega) (by omega) w)
  go_enter Tryd.func12, Tryd.ntmps12
  go_wp2_with (go_at_call 25; refine HD.out.mono ?_; rintro e w1 ⟨rfl, h1⟩; have H1 := hide h1; clear h1)
  go_ret2
  exact ⟨rfl, H1.out⟩
theorem authNil_any (w : World) : Calls Tryd.prog 13 #[.pointer none] w fun e w' => e = .returned (.tuple #[.string { data := #[] }, .int .i64 90]) ∧ Below w.heap.size w w' := by
  have HD := hide (drawnNil_any 24 (by omega) (by omega) w)
  go_enter Tryd.func13, Tryd.ntmps13
  go_wp2_with (go_at_call 25; refine HD.out.mono ?_; rintro e w1 ⟨rfl, h1⟩; have H1 := hide h1; clear h1)
  go_ret2
  exact ⟨rfl, H1.out⟩
set_option maxHeartbeats 400000 in
set_option maxRecDepth 100000 in
theorem userNil_any (w : World) : Calls Tryd.prog 17 #[.pointer none] w fun e w' => e = .returned (.tuple #[.string { data := #[] }, .int .i64 90]) ∧ Below w.heap.size w w' := by
  go_enter Tryd.func17, Tryd.ntmps17
  go_wp2_with (first | (at_make; refine wpList_make_bytes rfl _ _ rfl .i64 .i64 _ _ 0 8 rfl rfl rfl rfl (by omega) (by omega) ?_) | fail)
  rintro w1 - hb1 -
  have HB1 := hide hb1
  clear hb1
  go_wp2
  go_loopw [4] (fun a wr => a = .slice (some ⟨w.heap.size, 0, none⟩) 0 8 ∧ wr = w1) (fun _ _ => 0)
  case atStart => exact ⟨rfl, rfl⟩
  case round =>
    obtain ⟨rfl, rfl⟩ := hrel
    go_wp2_with (go_at_call 16; refine (byteNil_any _).mono ?_; rintro e wx ⟨rfl, hwx⟩; have hwy := hwx.symm; subst hwy; clear hwx)
    go_ret2
    exact ⟨rfl, HB1.out⟩
set_option maxHeartbeats 1000000 in
set_option maxRecDepth 100000 in
theorem codesNil_walk (v : Value) (w : World) (hT : Lets w) : Calls Tryd.prog 5 #[v] w fun e w' => e = .returned (.bool true) ∧ Below w.heap.size w w' := by
  have HL : Hid (∀ W, Below w.heap.size w W → Calls Tryd.prog 6 #[] W fun e w' => e = .returned (.bool true) ∧ Below W.heap.size W w') := hide fun W h => live_true W (hT.keep h)
  have H0 := hide (Below.refl w.heap.size w)
  clear hT
  go_enter Tryd.func5, Tryd.ntmps5
  go_wp2_with (first
    | (go_at_call 8; refine (feedNil_any _ _).mono ?_; rintro e wx ⟨rfl, hwx⟩; have hwy := hwx.symm; subst hwy; clear hwx)
    | (go_at_call 16; refine (byteNil_any _).mono ?_; rintro e wx ⟨rfl, hwx⟩; have hwy := hwx.symm; subst hwy; clear hwx)
    | (go_at_call 12; refine (deviceNil_any _).mono ?_; rintro e w1 ⟨rfl, h1⟩; have H1 := hide (H0.out.trans (h1.mono H0.out.size)); clear h1)
    | (go_at_call 13; refine (authNil_any _).mono ?_; rintro e w2 ⟨rfl, h2⟩; have H2 := hide (H1.out.trans (h2.mono H1.out.size)); clear h2)
    | (go_at_call 17; refine (userNil_any _).mono ?_; rintro e w3 ⟨rfl, h3⟩; have H3 := hide (H2.out.trans (h3.mono H2.out.size)); clear h3)
    | (go_at_call 14; refine (num_any _ _).mono ?_; rintro e wx ⟨rfl, hwx⟩; have hwy := hwx.symm; subst hwy; clear hwx)
    | (go_at_call 11; refine (leftNil_any _).mono ?_; rintro e wx ⟨rfl, hwx⟩; have hwy := hwx.symm; subst hwy; clear hwx)
    | (go_at_call 6; refine (HL.out _ H3.out).mono ?_; rintro e w4 ⟨rfl, h4⟩; have H4 := hide (H3.out.trans (h4.mono H3.out.size)); clear h4))
  go_ret
  exact ⟨rfl, H4.out⟩
end Go.Proofs.YtonnnolnkjahgabDoor
