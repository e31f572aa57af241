/- The contract of the laws' live: it answers true. -/
import Derived.Test.YtebcodbmkphgaabDoorParseFn
import Derived.Test.YtebcodbmkphgaabDoorScopesFn
import Derived.Test.YtebcodbmkphgaabDoorNumFn
namespace Go.Proofs.YtebcodbmkphgaabDoor
open Go.RowKit

theorem live_one : parOut (sbytes { data := #[97, 61, 98, 43, 99, 38, 100, 61, 37, 52, 49] }) = ([([97], [98, 32, 99]), ([100], [65])], 0, 0) := by decide +kernel
theorem live_two : parOut (sbytes { data := #[97, 61, 37, 52] }) = ([], 30, 2) := by decide +kernel
theorem live_three : scoOut [98, 32, 97] = ([[97], [98]], 0) := by decide +kernel

set_option maxHeartbeats 1000000 in
set_option maxRecDepth 100000 in
theorem live_true (w : World) (hM : MaxL w) : Calls Tryd.prog 10 #[] w fun e w' => e = .returned (.bool true) ∧ Below w.heap.size w w' := by
  have HM : Hid (MaxL w) := hM
  clear hM
  go_enter Tryd.func10, Tryd.ntmps10
  go_wp2_with fail
  refine (parse_any { data := #[97, 61, 98, 43, 99, 38, 100, 61, 37, 52, 49] } w (by decide) HM.out).mono ?_
  rintro e w1 ⟨v1, rfl, h1⟩
  rw [live_one] at h1 ⊢
  have HB1 : Hid (Below w.heap.size w w1) := h1.out.2
  obtain ⟨ao1, cap1, rfl, _, hr1, _⟩ := h1.out.1.shape
  obtain ⟨b1, off1, rfl⟩ := hr1.form (by simp)
  have HR1 : Hid (PRow w1 (some ⟨b1, off1, none⟩) [([97], [98, 32, 99]), ([100], [65])]) := hr1
  have hs1 := HB1.out.size
  clear h1 hr1
  go_wp2_with fail
  refine (parse_any { data := #[97, 61, 37, 52] } w1 (by decide) (HM.out.keep HB1.out)).mono ?_
  rintro e w2 ⟨v2, rfl, h2⟩
  rw [live_two] at h2 ⊢
  have HB2 : Hid (Below w.heap.size w w2) := HB1.out.trans (h2.out.2.mono hs1)
  have HR2 : Hid (PRow w2 (some ⟨b1, off1, none⟩) [([97], [98, 32, 99]), ([100], [65])]) := HR1.out.keep h2.out.2
  have hs2 := HB2.out.size
  clear h2 HR1
  go_wp2_with fail
  refine (scopes_any { data := #[98, 32, 97] } w2 (by decide) (HM.out.keep HB2.out)).mono ?_
  rintro e w3 ⟨v3, rfl, h3⟩
  rw [show ({ data := #[98, 32, 97] } : ByteArray).data.toList = [98, 32, 97] from rfl, live_three] at h3 ⊢
  have HB3 : Hid (Below w.heap.size w w3) := HB2.out.trans (h3.out.2.mono hs2)
  have HR3 : Hid (PRow w3 (some ⟨b1, off1, none⟩) [([97], [98, 32, 99]), ([100], [65])]) := HR2.out.keep h3.out.2
  obtain ⟨ao3, cap3, rfl, _, hr3, _⟩ := h3.out.1.shape
  obtain ⟨b3, off3, rfl⟩ := hr3.form (by simp)
  have HS3 : Hid (SRow w3 (some ⟨b3, off3, none⟩) [[97], [98]]) := hr3
  clear h3 HR2 hr3
  have c1 : w3.cell? ⟨b1, off1 + 1, none⟩ = some (.string { data := #[98, 32, 99] }) := (HR3.out.cell (i := 0) (q := ([97], [98, 32, 99])) rfl).2
  have c2 : w3.cell? ⟨b1, off1 + 2 + 1, none⟩ = some (.string { data := #[65] }) := (HR3.out.cell (i := 1) (q := ([100], [65])) rfl).2
  have c3 : w3.cell? ⟨b3, off3, none⟩ = some (.string { data := #[97] }) := HS3.out.cell (i := 0) (u := [97]) rfl
  go_wp2_with (go_at_call 9; refine (num_any _ _).mono ?_; rintro e w4 ⟨rfl, rfl⟩)
  go_ret
  exact ⟨rfl, HB3.out⟩
end Go.Proofs.YtebcodbmkphgaabDoor
