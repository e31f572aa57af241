/- files answers true where both lists have the same files. -/
import Derived.Test.YtmdgecjflkkhdabDOurs
import Derived.Deep.QuietTactic
import Derived.BigQuiet
namespace Go.Proofs.Ytmdgecjflkkhdab
open Go.RowKit Go.Maps

theorem FSee.drewN {w : World} {ao : Option Addr} {fs : List Fi} (h : FSee w ao fs) (n : Nat) : FSee (w.drewN n) ao fs := h.keep (below_drewN (Below.refl _ _) n)
set_option maxHeartbeats 4000000 in
set_option maxRecDepth 100000 in
theorem files_true (lao wao : Option Addr) (n lc wc : Nat) (fs : List Fi) (w : World) (hl : FSee w lao fs) (hw : FSee w wao fs) (hn : n = fs.length) (hb : n ≤ 4611686018427387903) :
    Calls Try.prog 16 #[.slice lao n lc, .slice wao n wc] w fun e w' => e = .returned (.bool true) ∧ ∃ m, w' = w.drewN m := by
  have HL := hide hl
  have HW := hide hw
  have HN := hide hn
  clear hl hw hn
  go_enter Try.func16, Try.ntmps16
  go_wp2_with fail
  go_loopw [5] (fun i wr => ∃ k : Nat, k ≤ n ∧ i = .int .i64 (k : Int) ∧ ∃ m, wr = w.drewN m) (fun i _ => n - (intOf i).toNat)
  case atStart => exact ⟨0, Nat.zero_le _, rfl, 0, rfl⟩
  case round =>
    obtain ⟨k, hk, rfl, m, rfl⟩ := hrel
    by_cases hlt : k < n
    · obtain ⟨x, hx⟩ : ∃ x, fs[k]? = some x := ⟨_, List.getElem?_eq_getElem (by rw [← HN.out]; exact hlt)⟩
      obtain ⟨lb, loff, lbao, lbc, rfl, a1, a2, a3⟩ := (HL.out.drewN m).cell k x hx
      obtain ⟨wb, woff, wbao, wbc, rfl, b1, b2, b3⟩ := (HW.out.drewN m).cell k x hx
      have c1 : ∀ n, (convert 48 9 (.slice lbao x.2.length lbc)).run Try.prog ((w.drewN m).drewN n) = .ok (.string (bstr x.2)) ((w.drewN m).drewN n) := fun n => conv_row lbc (a3.drewN n)
      have c2 : ∀ n, (convert 48 9 (.slice wbao x.2.length wbc)).run Try.prog ((w.drewN m).drewN n) = .ok (.string (bstr x.2)) ((w.drewN m).drewN n) := fun n => conv_row wbc (b3.drewN n)
      generalize str x.1 = s at *
      generalize x.2.length = bl at *
      generalize bstr x.2 = t at *
      clear hx a3 b3
      have hki : (k : Int) < (n : Int) := by omega
      have hkb : (k : Int) + 1 ≤ 4611686018427387904 := by omega
      have HD : Hid (∀ q, (w.drewN m).drewN q = w.drewN (m + q)) := fun q => World.drewN_drewN w m q
      generalize w.drewN m = wm at *
      go_upto_region 6 with fail
      go_quiet (fail)
      go_wp2_with fail
      go_roundw
      case rel => exact ⟨k + 1, by omega, by simp, _, HD.out _⟩
      case measure => simp [intOf]; omega
    · obtain rfl : k = n := by omega
      go_wp2_with fail
      go_ret
      exact ⟨rfl, m, rfl⟩
end Go.Proofs.Ytmdgecjflkkhdab
