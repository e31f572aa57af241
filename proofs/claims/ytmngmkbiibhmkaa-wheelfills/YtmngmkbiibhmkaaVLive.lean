/- The law's small functions: num, ids, live. -/
import Derived.Test.YtmngmkbiibhmkaaVAdv
namespace Go.Proofs.Ytmngmkbiibhmkaa
open Go.RowKit Go.Maps

set_option maxHeartbeats 1000000 in
theorem num_any (n : Int) (w : World) : Calls Try.prog 13 #[.int .i64 n] w fun e w' => e = .returned (.int .i64 n) ∧ w' = w := by
  go_enter Try.func13, Try.ntmps13
  go_wp2
  go_ret
  exact ⟨rfl, rfl⟩
theorem take_getD {xs : List Nat} {k : Nat} (h : k < xs.length) : xs.take (k + 1) = xs.take k ++ [xs.getD k 0] := by
  rw [List.take_succ_eq_append_getElem h]; simp [List.getD, h]
set_option maxHeartbeats 4000000 in
set_option maxRecDepth 100000 in
theorem ids_any (ao bo : Option Addr) (n m c d : Nat) (xs ys : List Nat) (w : World) (hx : Row w ao xs) (hy : Row w bo ys) (hn : n = xs.length) (hm : m = ys.length) (hl : n ≤ 1000000000) :
    Calls Try.prog 21 #[.slice ao n c, .slice bo m d] w fun e w' => e = .returned (.bool (decide (xs = ys))) ∧ ∃ q, w' = w.drewN q := by
  obtain ⟨r, hr⟩ : ∃ r, r = decide (xs = ys) := ⟨_, rfl⟩
  rw [← hr]
  have HR := hide hr
  have HN := hide hn
  have HM := hide hm
  have HX := hide hx
  have HY := hide hy
  clear hr hn hm hx hy
  by_cases hnm : n = m
  · subst hnm
    go_enter Try.func21, Try.ntmps21
    go_wp2_with fail
    go_loopw [5] (fun v5 wr => ∃ k : Nat, k ≤ n ∧ v5 = .int .i64 (k : Int) ∧ Hid (xs.take k = ys.take k) ∧ Hid (∃ q, wr = w.drewN q)) (fun v5 _ => n - (intOf v5).toNat)
    case atStart => exact ⟨0, by omega, rfl, rfl, 0, rfl⟩
    case round =>
      obtain ⟨k, hk, rfl, HE, HW⟩ := hrel
      by_cases hkn : k < n
      · obtain ⟨bx, ox, rfl⟩ := HX.out.form (by have := HN.out; omega)
        obtain ⟨by', oy, rfl⟩ := HY.out.form (by have := HM.out; omega)
        have k1 := HX.out.cell k (by have := HN.out; omega)
        have k2 := HY.out.cell k (by have := HM.out; omega)
        have HTX := hide (take_getD (xs := xs) (k := k) (by have := HN.out; omega))
        have HTY := hide (take_getD (xs := ys) (k := k) (by have := HM.out; omega))
        have HGE : Hid (xs = ys → xs.getD k 0 = ys.getD k 0) := fun e => by rw [e]
        generalize xs.getD k 0 = x at *
        generalize ys.getD k 0 = y at *
        have c1 : wr.cell? ⟨bx, ox + k, none⟩ = some (.int .u64 (x : Int)) := by obtain ⟨q, hq⟩ := HW.out; rw [hq]; exact k1
        have c2 : wr.cell? ⟨by', oy + k, none⟩ = some (.int .u64 (y : Int)) := by obtain ⟨q, hq⟩ := HW.out; rw [hq]; exact k2
        have hkl : (k : Int) < (n : Int) := by omega
        clear k1 k2
        by_cases hxy : x = y
        · subst hxy
          have HE2 : Hid (xs.take (k + 1) = ys.take (k + 1)) := by show _ = _; rw [HTX.out, HTY.out, HE.out]
          go_wp2_with fail
          go_quiet (fail)
          go_wp2_with fail
          go_roundw
          case rel =>
            refine ⟨k + 1, by omega, by simp, HE2, ?_⟩
            obtain ⟨q, hq⟩ := HW.out
            exact ⟨_, by rw [hq, World.drewN_drewN]⟩
          case measure => simp [intOf]; omega
        · have hxz : ((x : Int) == (y : Int)) = false := by simp; omega
          have HF : Hid (r = false) := by
            show _ = _
            rw [HR.out, decide_eq_false_iff_not]
            intro e
            exact hxy (HGE.out e)
          go_wp2_with fail
          go_quiet (fail)
          go_wp2_with fail
          go_ret
          obtain ⟨q, hq⟩ := HW.out
          exact ⟨ret_bool HF.out.symm, _, by rw [hq, World.drewN_drewN]⟩
      · have hkl : ¬ (k : Int) < (n : Int) := by omega
        have HF : Hid (r = true) := by
          show _ = _
          rw [HR.out, decide_eq_true_eq]
          have := HE.out
          rw [List.take_of_length_le (by have := HN.out; omega), List.take_of_length_le (by have := HM.out; omega)] at this
          exact this
        go_wp2_with fail
        go_ret
        exact ⟨ret_bool HF.out.symm, HW.out⟩
  · have hnm' : ((n : Int) == (m : Int)) = false := by simp; omega
    have HF : Hid (r = false) := by
      show _ = _
      rw [HR.out, decide_eq_false_iff_not]
      intro e
      have h1 := HN.out
      have h2 := HM.out
      rw [e] at h1
      omega
    go_enter Try.func21, Try.ntmps21
    go_wp2_with fail
    go_ret
    exact ⟨ret_bool HF.out.symm, 0, rfl⟩
end Go.Proofs.Ytmngmkbiibhmkaa
