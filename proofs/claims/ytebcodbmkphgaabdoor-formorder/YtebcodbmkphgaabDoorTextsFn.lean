/- The contract of the laws' texts where both lists are one. -/
import Derived.Test.YtebcodbmkphgaabDoorStrRow
import Derived.BigQuiet
namespace Go.Proofs.YtebcodbmkphgaabDoor
open Go.RowKit

set_option maxHeartbeats 1000000 in
set_option maxRecDepth 100000 in
theorem texts_true (n c d : Nat) (ao bo : Option Addr) (l : List U) (w : World) (hn : n = l.length) (hl : n ≤ 140737488355328) (hx : SRow w ao l) (hy : SRow w bo l) :
    Calls Tryd.prog 16 #[.slice ao n c, .slice bo n d] w fun e w' => e = .returned (.bool true) ∧ ∃ k, w' = w.drewN k := by
  have HN : Hid (n = l.length) := hn
  have HX : Hid (SRow w ao l) := hx
  have HY : Hid (SRow w bo l) := hy
  clear hx hy hn
  go_enter Tryd.func16, Tryd.ntmps16
  go_wp2
  go_loopw [5] (fun i wr => ∃ k : Nat, k ≤ n ∧ i = .int .i64 (k : Int) ∧ ∃ q, wr = w.drewN q) (fun i _ => n - (intOf i).toNat)
  case atStart => exact ⟨0, Nat.zero_le _, rfl, 0, rfl⟩
  case round =>
    obtain ⟨k, hk, rfl, q, rfl⟩ := hrel
    by_cases hlt : k < n
    · obtain ⟨b, off, rfl⟩ := HX.out.form (by rw [← HN.out]; omega)
      obtain ⟨b', off', rfl⟩ := HY.out.form (by rw [← HN.out]; omega)
      obtain ⟨u, hu⟩ : ∃ u, l[k]? = some u := ⟨_, List.getElem?_eq_getElem (by rw [← HN.out]; exact hlt)⟩
      have c0 : w.cell? ⟨b, off + k, none⟩ = some (.string ⟨u.toArray⟩) := HX.out.cell hu
      have c1 : w.cell? ⟨b', off' + k, none⟩ = some (.string ⟨u.toArray⟩) := HY.out.cell hu
      clear hu
      generalize (⟨u.toArray⟩ : ByteArray) = s at *
      have li : (k : Int) < (n : Int) := by omega
      go_wp2
      go_quiet (fail)
      go_wp2
      go_roundw
      case rel => exact ⟨k + 1, by omega, by go_num, q + nq, by simp [World.drewN]⟩
      case measure => simp [intOf]; omega
    · go_wp2
      go_ret
      exact ⟨rfl, q, rfl⟩
end Go.Proofs.YtebcodbmkphgaabDoor
