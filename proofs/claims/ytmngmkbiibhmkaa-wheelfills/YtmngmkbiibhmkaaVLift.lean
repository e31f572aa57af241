/- The contract of lift. -/
import Derived.Test.YtmngmkbiibhmkaaVLiftM
namespace Go.Proofs.Ytmngmkbiibhmkaa
open Go.RowKit Go.Maps

set_option maxHeartbeats 8000000 in
set_option maxRecDepth 100000 in
theorem lift_any (wp now tt : Nat) (L : List Tm) (S : List (List Nat)) (Y : Lay) (w : World) (h : Rep w wp now L S Y) (hok : Ok now L S) (htt : tt < 18446744073709551616) :
    Calls Try.prog 35 #[pw wp, .int .u64 (tt : Int)] w fun e w' => ∃ ao n c, e = .returned (.slice ao n c) ∧ LiftInv w w' wp now L S Y (.slice ao n c) (slotN now tt + 1) := by
  have HC := hide (ringOf_any wp now tt w h.now hok.nowb htt)
  have HK := hide (slotN_eq now tt)
  have HR := hide (ringN_le now tt)
  have HX : Hid (∀ k, k < 257 → ∃ xs, S[k]? = some xs ∧ (S.take k).flatten.length + xs.length ≤ 17592186044416) := fun k hk => by
    have hx : S[k]? = some (S[k]'(by rw [h.slen]; exact hk)) := List.getElem?_eq_getElem _
    have h1 := take_short hok (k := k) (by rw [h.slen]; omega)
    have h2 := hok.short hx
    exact ⟨_, hx, by omega⟩
  have HS := hide (fun q => LiftInv.drewN (LiftInv.start h) q)
  have HY := hide h.lt
  have HD : Hid (∀ W, ringN now tt < 4 → Calls Try.prog 42 #[.int .u64 (tt : Int), .int .i64 (ringN now tt : Int)] W fun e w' => e = .returned (.int .i64 (dig tt (ringN now tt) : Int)) ∧ w' = W) := fun W h4 => digitOf_any tt _ W (by omega)
  have HDL := hide (dig_lt tt (ringN now tt))
  generalize dig tt (ringN now tt) = d at *
  generalize slotN now tt = K at *
  generalize ringN now tt = r at *
  clear h hok htt
  unfold pw at *
  go_enter Try.func35, Try.ntmps35
  go_wp2_with (go_at_call 41; refine HC.out.mono ?_; rintro e w2 ⟨rfl, hw2⟩; have HW2 := hide hw2; clear hw2)
  clear HC
  go_loopw [12, 6] (fun v12 v6 wr => ∃ (i : Nat) (ao : Option Addr) (n c : Nat), i ≤ 4 ∧ v12 = .int .i64 (i : Int) ∧ v6 = .slice ao n c ∧ Hid (LiftInv w wr wp now L S Y (.slice ao n c) (64 * i)) ∧ Hid (64 * i ≤ K + 1)) (fun v12 _ _ => 4 - (intOf v12).toNat)
  case atStart =>
    obtain ⟨q, hq⟩ := HW2.out
    exact ⟨0, none, 0, 0, by omega, rfl, rfl, by rw [hq]; exact HS.out q, by show _ ≤ _; omega⟩
  case round =>
    clear HW2 HS
    obtain ⟨i, ao, n, c, hi, rfl, rfl, HI, HL⟩ := hrel
    by_cases h4 : i < 4
    · have hdec : decide ((i : Int) < 4) = true := decide_eq_true (by omega)
      go_wp2_with fail
      go_loopw [15, 6] (fun v15 v6 wr => ∃ (j : Nat) (ao : Option Addr) (n c : Nat), j ≤ 64 ∧ v15 = .int .i64 (j : Int) ∧ v6 = .slice ao n c ∧ Hid (LiftInv w wr wp now L S Y (.slice ao n c) (64 * i + j)) ∧ Hid (64 * i + j ≤ K + 1)) (fun v15 _ _ => 64 - (intOf v15).toNat)
      case atStart => exact ⟨0, ao, n, c, by omega, rfl, rfl, HI, HL⟩
      case round =>
        clear HI HL
        obtain ⟨j, ao1, n1, c1, hj, rfl, rfl, HI, HL⟩ := hrel
        by_cases h64 : j < 64
        · obtain ⟨xs, hx, hxl⟩ := HX.out (64 * i + j) (by omega)
          obtain ⟨ao2, c2, hc, hrow, hstep⟩ := HI.out.step HY.out (by omega) hx
          rw [show 2 + (64 * i + j) = 2 + i * 64 + j by omega] at hc hstep
          have HRow := hide hrow
          have HStep := hide hstep
          have HXL := hide hxl
          clear hrow hstep hxl hx
          by_cases hA : r < i
          · have hEQ : 64 * i + j = K + 1 := by have h1 := HK.out; have h2 := HL.out; have h3 := HDL.out; rw [if_neg (by omega)] at h1; omega
            rw [hEQ] at HI
            have hA' : (r : Int) < (i : Int) := by omega
            clear hEQ hA
            go_wp2_with fail
            go_ret
            exact ⟨_, _, _, rfl, HI.out⟩
          by_cases hD : i < r
          · have HKK : Hid (64 * i + (j + 1) ≤ K + 1) := by show _ ≤ _; have h1 := HK.out; split at h1 <;> omega
            have hA' : ¬ (r : Int) < (i : Int) := by omega
            have hD' : ¬ (i : Int) = (r : Int) := by omega
            clear hA hD
            go_wp2_with (at_builtin; refine wpList_append_nums rfl _ _ 48 65 Try.underlying48 Try.underlying65 rfl w.heap.size _ _ rfl HI.out.own ao2 _ c2 xs rfl rfl HRow.out HXL.out HI.out.fr.size ?_; intro v2 w3 h3 g3 l3; obtain ⟨hc3, hf3, hi3⟩ := HStep.out v2 w3 h3 g3; obtain ⟨ao3, n3, c3, rfl⟩ := own_shape h3; have HI3 := hide hi3; clear h3 g3 l3 hi3 hc)
            go_roundw
            case rel => exact ⟨j + 1, ao3, n3, c3, by omega, by simp, rfl, HI3, HKK⟩
            case measure => simp [intOf]; omega
          · have hir : i = r := by omega
            have HDC := hide (HD.out wr (by omega))
            rw [← hir] at HDC
            have HKE : Hid (K = 64 * i + d) := by show _ = _; have h1 := HK.out; rw [if_neg (by omega)] at h1; omega
            have hE' : ((i : Int) == (r : Int)) = true := by rw [hir]; simp
            have hA' : ¬ (r : Int) < (i : Int) := by omega
            clear hir
            by_cases hB : d < j
            · have hEQ : 64 * i + j = K + 1 := by have h1 := HKE.out; have h2 := HL.out; omega
              rw [hEQ] at HI
              have hB' : (d : Int) < (j : Int) := by omega
              clear hEQ hA hD hB
              go_wp2_with (go_at_call 42; refine HDC.out.mono ?_; rintro e w3 ⟨rfl, hw3⟩; have h3 := hw3.symm; subst h3)
              go_ret
              exact ⟨_, _, _, rfl, HI.out⟩
            · have HKK : Hid (64 * i + (j + 1) ≤ K + 1) := by show _ ≤ _; have h1 := HKE.out; omega
              have hB' : ¬ (d : Int) < (j : Int) := by omega
              clear hA hD hB
              go_wp2_with (first | (go_at_call 42; refine HDC.out.mono ?_; rintro e w3 ⟨rfl, hw3⟩; have h3 := hw3.symm; subst h3) | (at_builtin; refine wpList_append_nums rfl _ _ 48 65 Try.underlying48 Try.underlying65 rfl w.heap.size _ _ rfl HI.out.own ao2 _ c2 xs rfl rfl HRow.out HXL.out HI.out.fr.size ?_; intro v2 w3 h3 g3 l3; obtain ⟨hc3, hf3, hi3⟩ := HStep.out v2 w3 h3 g3; obtain ⟨ao3, n3, c3, rfl⟩ := own_shape h3; have HI3 := hide hi3; clear h3 g3 l3 hi3 hc))
              go_roundw
              case rel => exact ⟨j + 1, ao3, n3, c3, by omega, by simp, rfl, HI3, HKK⟩
              case measure => simp [intOf]; omega
        · have hj64 : j = 64 := by omega
          subst hj64
          rw [show 64 * i + 64 = 64 * (i + 1) by omega] at HI HL
          go_wp2_with fail
          go_roundw
          case rel => exact ⟨i + 1, ao1, n1, c1, by omega, by simp, rfl, HI, HL⟩
          case measure => simp [intOf]; omega
    · have hi4 : i = 4 := by omega
      subst hi4
      by_cases hr4 : r = 4
      · subst hr4
        obtain ⟨xs, hx, hxl⟩ := HX.out (64 * 4) (by omega)
        obtain ⟨ao2, c2, hc, hrow, hstep⟩ := HI.out.step HY.out (by omega) hx
        have HKE : Hid (K + 1 = 64 * 4 + 1) := by show _ = _; have h1 := HK.out; rw [if_pos rfl] at h1; omega
        rw [show 2 + 64 * 4 = 258 by rfl] at hc hstep
        have HRow := hide hrow
        have HStep := hide hstep
        have HXL := hide hxl
        clear hrow hstep hxl hx
        go_wp2_with (at_builtin; refine wpList_append_nums rfl _ _ 48 65 Try.underlying48 Try.underlying65 rfl w.heap.size _ _ rfl HI.out.own ao2 _ c2 xs rfl rfl HRow.out HXL.out HI.out.fr.size ?_; intro v2 w3 h3 g3 l3; obtain ⟨hc3, hf3, hi3⟩ := HStep.out v2 w3 h3 g3; obtain ⟨ao3, n3, c3, rfl⟩ := own_shape h3; have HI3 := hide hi3; clear h3 g3 l3 hi3 hc)
        go_ret
        exact ⟨_, _, _, rfl, by rw [HKE.out]; exact HI3.out⟩
      · have hEQ : 64 * 4 = K + 1 := by have h1 := HK.out; have h2 := HL.out; have h3 := HDL.out; have h5 := HR.out; rw [if_neg hr4] at h1; omega
        rw [hEQ] at HI
        have hr4' : ¬ (r : Int) = 4 := by omega
        clear hEQ
        go_wp2_with fail
        go_ret
        exact ⟨_, _, _, rfl, HI.out⟩
end Go.Proofs.Ytmngmkbiibhmkaa
