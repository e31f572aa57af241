/- The contract of the document's Within: for every two lists. -/
import Derived.Test.YtlhgjicichjbgaaGreatDoorWithinFn
import Derived.BigQuiet
namespace Go.Proofs.YtlhgjicichjbgaaGreatDoor
open Go.RowKit

def hasB (u : U) (all : List U) (k : Nat) : Bool := decide (u ∈ all.take k)
theorem hasB_step {u v : U} {all : List U} {k : Nat} (h : all[k]? = some v) : hasB u all (k + 1) = (hasB u all k || decide (v = u)) := by
  unfold hasB
  rw [Bool.eq_iff_iff, decide_eq_true_eq, List.take_add_one, h, Bool.or_eq_true, decide_eq_true_eq, decide_eq_true_eq]
  simp [eq_comm]
theorem u_beq (u v : U) : ((⟨v.toArray⟩ : ByteArray).toList == (⟨u.toArray⟩ : ByteArray).toList) = decide (v = u) := by
  rw [Lib.toList_data, Lib.toList_data, Bool.eq_iff_iff]
  simp

set_option maxHeartbeats 1000000 in
set_option maxRecDepth 100000 in
theorem refWithin_any (n m c d : Nat) (ao bo : Option Addr) (l all : List U) (w : World) (hn : n = l.length) (hm : m = all.length) (hl : n ≤ 140737488355328) (hl2 : m ≤ 140737488355328) (hx : SRow w ao l) (hy : SRow w bo all) :
    Calls Tryz.prog 84 #[.slice ao n c, .slice bo m d] w fun e w' => e = .returned (.bool (withinB l all)) ∧ ∃ k, w' = w.drewN k := by
  have HN : Hid (n = l.length) := hn
  have HM : Hid (m = all.length) := hm
  have HX : Hid (SRow w ao l) := hx
  have HY : Hid (SRow w bo all) := hy
  clear hx hy hn hm
  go_enter Tryz.func84, Tryz.ntmps84
  go_wp2
  go_loopw [5] (fun i wr => ∃ k : Nat, k ≤ n ∧ i = .int .i64 (k : Int) ∧ Hid (∀ u ∈ l.take k, u ∈ all) ∧ ∃ q, wr = w.drewN q) (fun i _ => n - (intOf i).toNat)
  case atStart => exact ⟨0, Nat.zero_le _, rfl, by intro u hu; simp at hu, 0, rfl⟩
  case round =>
    obtain ⟨k, hk, rfl, HA, q, rfl⟩ := hrel
    by_cases hlt : k < n
    · obtain ⟨b, off, rfl⟩ := HX.out.form (by rw [← HN.out]; omega)
      obtain ⟨u, hu⟩ : ∃ u, l[k]? = some u := ⟨_, List.getElem?_eq_getElem (by rw [← HN.out]; exact hlt)⟩
      have c0 : w.cell? ⟨b, off + k, none⟩ = some (.string ⟨u.toArray⟩) := HX.out.cell hu
      have HU : Hid (l[k]? = some u) := hu
      clear hu
      have li : (k : Int) < (n : Int) := by omega
      go_wp2
      go_loopw [6, 7] (fun h i wr => ∃ j : Nat, j ≤ m ∧ i = .int .i64 (j : Int) ∧ h = .bool (hasB u all j) ∧ ∃ q, wr = w.drewN q) (fun _ i _ => m - (intOf i).toNat)
      case atStart => exact ⟨0, Nat.zero_le _, rfl, rfl, q, rfl⟩
      case round =>
        obtain ⟨j, hj, rfl, rfl, q, rfl⟩ := hrel
        by_cases hjt : j < m
        · obtain ⟨b', off', rfl⟩ := HY.out.form (by rw [← HM.out]; omega)
          obtain ⟨v, hv⟩ : ∃ v, all[j]? = some v := ⟨_, List.getElem?_eq_getElem (by rw [← HM.out]; exact hjt)⟩
          have c1 : w.cell? ⟨b', off' + j, none⟩ = some (.string ⟨v.toArray⟩) := HY.out.cell hv
          have HS : Hid (hasB u all (j + 1) = (hasB u all j || decide (v = u))) := hasB_step hv
          have HE := hide (u_beq u v)
          clear hv
          have lj : (j : Int) < (m : Int) := by omega
          generalize (⟨u.toArray⟩ : ByteArray) = su at *
          generalize (⟨v.toArray⟩ : ByteArray) = sv at *
          cases hh : hasB u all j with
          | true =>
            have HS2 : Hid (hasB u all (j + 1) = true) := by show _ = _; rw [HS.out, hh]; rfl
            clear HS hh
            go_wp2
            go_quiet (fail)
            go_wp2
            go_roundw
            case rel => exact ⟨j + 1, by omega, by go_num, by rw [HS2.out], q + nq, by simp [World.drewN]⟩
            case measure => simp [intOf]; omega
          | false =>
            have HS2 : Hid (hasB u all (j + 1) = decide (v = u)) := by show _ = _; rw [HS.out, hh]; rfl
            clear HS hh
            by_cases hvu : v = u
            · have hbe : (sv.toList == su.toList) = true := by rw [HE.out, decide_eq_true hvu]
              have HS3 : Hid (hasB u all (j + 1) = true) := by show _ = _; rw [HS2.out, decide_eq_true hvu]
              clear hvu HE HS2
              go_wp2
              go_quiet (fail)
              go_wp2
              go_roundw
              case rel => exact ⟨j + 1, by omega, by go_num, by rw [HS3.out], q + nq, by simp [World.drewN]⟩
              case measure => simp [intOf]; omega
            · have hbe : (sv.toList == su.toList) = false := by rw [HE.out, decide_eq_false hvu]
              have HS3 : Hid (hasB u all (j + 1) = false) := by show _ = _; rw [HS2.out, decide_eq_false hvu]
              clear hvu HE HS2
              go_wp2
              go_quiet (fail)
              go_wp2
              go_roundw
              case rel => exact ⟨j + 1, by omega, by go_num, by rw [HS3.out], q + nq, by simp [World.drewN]⟩
              case measure => simp [intOf]; omega
        · have HT : Hid (hasB u all j = decide (u ∈ all)) := by
            show _ = _
            unfold hasB
            rw [List.take_of_length_le (by rw [← HM.out]; omega)]
          rw [HT.out]
          by_cases hmem : u ∈ all
          · rw [decide_eq_true hmem]
            have HMM : Hid (u ∈ all) := hmem
            clear hmem HT
            go_wp2
            go_roundw
            case rel => exact ⟨k + 1, by omega, by go_num, withinB_step HA.out HU.out HMM.out, q, rfl⟩
            case measure => simp [intOf]; omega
          · rw [decide_eq_false hmem]
            have HMM : Hid (u ∉ all) := hmem
            clear hmem HT
            go_wp2
            go_ret
            refine ⟨?_, q, rfl⟩
            have : withinB l all = false := by
              unfold withinB
              rw [decide_eq_false_iff_not]
              intro h
              exact HMM.out (h u (List.mem_of_getElem? HU.out))
            rw [this]; rfl
    · have HT : Hid (withinB l all = true) := by
        show _ = _
        unfold withinB
        rw [decide_eq_true_eq]
        have := HA.out
        rw [List.take_of_length_le (by rw [← HN.out]; omega)] at this
        exact this
      go_wp2
      go_ret
      exact ⟨by rw [HT.out]; rfl, q, rfl⟩
end Go.Proofs.YtlhgjicichjbgaaGreatDoor
