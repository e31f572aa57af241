/- The walk of the law FormOrder: every text and every number: true, and nothing old turns. -/
import Derived.Test.YtebcodbmkphgaabDoorLiveFn
import Derived.Test.YtebcodbmkphgaabDoorScopesM
import Derived.Test.YtebcodbmkphgaabDoorJoinU
import Derived.Test.YtebcodbmkphgaabDoorWithinFn
import Derived.Test.YtebcodbmkphgaabDoorTextsFn
import Derived.Test.YtebcodbmkphgaabDoorAppStrs
import Derived.BigQuiet
import Derived.Deep.DeepCutAuto
namespace Go.Proofs.YtebcodbmkphgaabDoor
open Go.RowKit

theorem drop_rev {l : List U} {j : Nat} {u : U} (h : l[j]? = some u) : (l.drop j).reverse = (l.drop (j + 1)).reverse ++ [u] := by
  obtain ⟨h1, e1⟩ := List.getElem?_eq_some_iff.1 h
  rw [List.drop_eq_getElem_cons h1, e1, List.reverse_cons]
theorem SOwn.app {w : World} {B : Nat} {v : Value} {l : List U} {u : U} (h : w.ownsRow B 9 1 v (l.length + 1) (l.map encStr ++ [.string ⟨u.toArray⟩])) : SOwn w B v (l ++ [u]) := by
  unfold SOwn
  rw [List.length_append, List.map_append]
  exact h

set_option linter.unusedSimpArgs false in
set_option maxHeartbeats 1600000 in
set_option maxRecDepth 100000 in
theorem formOrder_walk (s : ByteArray) (again : Int) (w : World) (hs : s.size ≤ 9223372036854775807) (hag : -9223372036854775808 ≤ again ∧ again ≤ 9223372036854775807) (hM : MaxL w) :
    Calls Tryd.prog 6 #[.string s, .int .i64 again] w fun e w' => e = .returned (.bool true) ∧ Below w.heap.size w w' := by
  have HM : Hid (MaxL w) := hM
  have HS : Hid (s.size ≤ 9223372036854775807) := hs
  obtain ⟨l, er, HO⟩ : ∃ l er, Hid (scoOut s.data.toList = (l, er)) := ⟨_, _, rfl⟩
  obtain ⟨m, hm⟩ : ∃ m, m = l.length := ⟨_, rfl⟩
  have HML : Hid (m = l.length) := hm
  have hml : m ≤ 32 := by have := scoOut_len s.data.toList; rw [HO.out] at this; rw [hm]; exact this
  obtain ⟨i0, hi, hz0, hz1, hz2⟩ := info_parts infoStr
  obtain ⟨hag1, hag2⟩ := hag
  clear hm hM hs
  go_enter Tryd.func6, Tryd.ntmps6
  go_wp2_with fail
  refine (scopes_m s l er m w HO.out HML.out HS.out HM.out).mono ?_
  rintro e w1 ⟨f1, c1, rfl, h1⟩
  have HB1 : Hid (Below w.heap.size w w1) := h1.out.2
  have HR1 : Hid (SRow w1 f1 l) := h1.out.1.row
  have hs1 := HB1.out.size
  clear h1
  by_cases he : er = 0
  · subst he
    by_cases hm0 : m = 0
    · subst hm0
      go_wp2_with (go_at_call 9; refine (num_any _ _).mono ?_; rintro e wn ⟨rfl, rfl⟩)
      refine (live_true _ (HM.out.keep HB1.out)).mono ?_
      rintro e w7 ⟨rfl, hb7⟩
      have HB7 : Hid (Below w.heap.size w w7) := HB1.out.trans (hb7.mono hs1)
      go_wp2
      go_ret
      exact ⟨rfl, HB7.out⟩
    · have hmp : 0 < m := by omega
      have hmi : ((m : Int) == 0) = false := by rw [beq_eq_false_iff_ne]; omega
      have HK := hide (sco_ok HO.out)
      obtain ⟨b, off, rfl⟩ := HR1.out.form (by rw [← HML.out]; exact hmp)
      clear hm0
      go_wp2_with (go_at_call 9; refine (num_any _ _).mono ?_; rintro e wn ⟨rfl, rfl⟩)
      go_loopw [7, 8] (fun v i wr => ∃ j : Nat, j ≤ m ∧ i = .int .i64 ((j : Int) - 1) ∧ Hid (SOwn wr wn.heap.size v (l.drop j).reverse) ∧ Hid (Below wn.heap.size wn wr)) (fun _ i _ => (intOf i + 1).toNat)
      case atStart => exact ⟨m, Nat.le_refl _, rfl, by rw [HML.out, List.drop_length]; exact sown_nil _ _, Below.refl _ _⟩
      case round =>
        obtain ⟨j, hj, rfl, HV, HBW⟩ := hrel
        have hsw := HBW.out.size
        cases j with
        | succ j =>
          obtain ⟨u, hu⟩ : ∃ u, l[j]? = some u := ⟨_, List.getElem?_eq_getElem (by rw [← HML.out]; omega)⟩
          have c0 : wr.cell? ⟨b, off + j, none⟩ = some (.string ⟨u.toArray⟩) := (HR1.out.keep HBW.out).cell hu
          have HD := hide (drop_rev hu)
          have HDL : Hid ((l.drop (j + 1)).reverse.length ≤ 32) := by show _ ≤ _; rw [List.length_reverse, List.length_drop, ← HML.out]; omega
          rw [show (((j + 1 : Nat) : Int) - 1) = (j : Int) by omega]
          clear hu
          generalize (l.drop (j + 1)).reverse = bk at *
          go_wp2_with (first | (at_builtin; refine wpList_append_own _ rfl (.tmp 39) (.tmp 44) 36 rfl wn.heap.size 9 i0 (.string { data := #[] }) 1 16 Tryd.underlying36 hi hz0 hz1 hz2 rfl (by decide) _ bk.length (bk.map encStr) rfl (World.ownsRow.alloc HV.out _) ⟨wr.heap.size, 0, none⟩ 1 1 [.string ⟨u.toArray⟩] rfl rfl (one_new _ _ (by simp) _ _) (by intro u hu; simp at hu; rcases hu with rfl; rfl) (by unfold maxLen; have := HDL.out; omega) (by have := HDL.out; omega) (by simp; omega) ?_) | fail)
          intro v3 w3 hown3 hgrow3 _
          have HV3 : Hid (SOwn w3 wn.heap.size v3 (bk ++ [u])) := SOwn.app hown3
          have HB3 : Hid (Below wn.heap.size wn w3) := (HBW.out.alloc hsw _).grown hgrow3 (by simp; omega) HV.out.ge
          clear hown3 hgrow3
          go_wp2
          go_roundw
          case rel => exact ⟨j, by omega, by go_num, by rw [HD.out]; exact HV3, HB3⟩
          case measure => simp [intOf]
        | zero =>
          rw [show (((0 : Nat) : Int) - 1) = -1 by omega]
          rw [List.drop_zero] at HV
          go_upto_if 47 with fail
          go_cut [1] (fun g wx => ∃ x : Nat, g = .int .i64 (x : Int) ∧ x ≤ 9223372036854775807 ∧ wx = wr)
          case first =>
            by_cases hneg : again < 0
            · go_wp2
              go_meet
              case rel => exact ⟨(-(again + 1)).toNat, by go_num, by omega, rfl⟩
            · have hnn : 0 ≤ again := by omega
              go_wp2
              go_meet
              case rel => exact ⟨again.toNat, by go_num, by omega, rfl⟩
          case rest =>
            obtain ⟨g, rfl, hg, rfl⟩ := hcut
            obtain ⟨x, hx⟩ : ∃ x, x = g % m := ⟨_, rfl⟩
            have hxm : x < m := by rw [hx]; exact Nat.mod_lt _ hmp
            have hrem : (g : Int).tmod (m : Int) = (x : Int) := by rw [hx, Int.tmod_eq_emod_of_nonneg (by omega)]; omega
            obtain ⟨y, hy⟩ : ∃ u, l[x]? = some u := ⟨_, List.getElem?_eq_getElem (by rw [← HML.out]; exact hxm)⟩
            have c0 : wc.cell? ⟨b, off + x, none⟩ = some (.string ⟨y.toArray⟩) := (HR1.out.keep HBW.out).cell hy
            have HYM : Hid (y ∈ l) := List.mem_of_getElem? hy
            have HRL : Hid (l.reverse.length ≤ 32) := by show _ ≤ _; rw [List.length_reverse, ← HML.out]; omega
            clear hx hy
            obtain ⟨rl, HRV⟩ : ∃ rl, Hid (rl = l.reverse) := ⟨_, rfl⟩
            rw [← HRV.out] at HV HRL
            go_wp2_with (first | (at_builtin; refine wpList_append_own _ rfl (.tmp 51) (.tmp 59) 36 rfl wn.heap.size 9 i0 (.string { data := #[] }) 1 16 Tryd.underlying36 hi hz0 hz1 hz2 rfl (by decide) _ rl.length (rl.map encStr) rfl (World.ownsRow.alloc HV.out _) ⟨wc.heap.size, 0, none⟩ 1 1 [.string ⟨y.toArray⟩] rfl rfl (one_new _ _ (by simp) _ _) (by intro u hu; simp at hu; rcases hu with rfl; rfl) (by unfold maxLen; have := HRL.out; omega) (by have := HRL.out; omega) (by simp; omega) ?_) | fail)
            intro v3 w3 hown3 hgrow3 _
            have HV3 : Hid (SOwn w3 wn.heap.size v3 (rl ++ [y])) := SOwn.app hown3
            have HB3 : Hid (Below wn.heap.size wn w3) := (HBW.out.alloc hsw _).grown hgrow3 (by simp; omega) HV.out.ge
            clear hown3 hgrow3
            obtain ⟨f3, c3, hv, _, hr3, _⟩ := HV3.out.shape
            obtain ⟨bn, HBN⟩ : ∃ bn, Hid (bn = (rl ++ [y]).length) := ⟨_, rfl⟩
            rw [← HBN.out] at hv
            subst hv
            have hbn : bn = m + 1 := by rw [HBN.out, HRV.out]; simp [HML.out]
            have HR3 : Hid (SRow w3 f3 (rl ++ [y])) := hr3
            have HL3 : Hid (SRow w3 (some ⟨b, off, none⟩) l) := HR1.out.keep HB3.out
            have HBW3 : Hid (Below w.heap.size w w3) := HB1.out.trans (HB3.out.mono hs1)
            have hs3 := HBW3.out.size
            clear hr3 HV3 c0
            go_wp2
            go_loopw [9] (fun i wr => ∃ k : Nat, k < m ∧ i = .int .i64 ((k : Int) + 1) ∧ ∃ q, wr = w3.drewN q) (fun i _ => (m + 1 - (intOf i).toNat))
            case atStart => exact ⟨0, hmp, rfl, 0, rfl⟩
            case round =>
              obtain ⟨k, hk, rfl, q, rfl⟩ := hrel
              by_cases hlt : k + 1 < m
              · obtain ⟨u, hu⟩ : ∃ u, l[k]? = some u := ⟨_, List.getElem?_eq_getElem (by rw [← HML.out]; omega)⟩
                obtain ⟨v, hv⟩ : ∃ u, l[k + 1]? = some u := ⟨_, List.getElem?_eq_getElem (by rw [← HML.out]; omega)⟩
                have d0 : w3.cell? ⟨b, off + k, none⟩ = some (.string ⟨u.toArray⟩) := HL3.out.cell hu
                have d1 : w3.cell? ⟨b, off + (k + 1), none⟩ = some (.string ⟨v.toArray⟩) := HL3.out.cell hv
                have hless := u_less (rising_get HK.out.2.1 hu hv)
                have li : (k : Int) + 1 < (m : Int) := by omega
                clear hu hv
                generalize (⟨u.toArray⟩ : ByteArray) = su at *
                generalize (⟨v.toArray⟩ : ByteArray) = sv at *
                go_wp2
                go_quiet (fail)
                go_wp2
                go_roundw
                case rel => exact ⟨k + 1, by omega, by go_num, q + nq, by simp [World.drewN]⟩
                case measure => simp [intOf]; omega
              · have hkm : k + 1 = m := by omega
                have li : ¬ ((k : Int) + 1 < (m : Int)) := by omega
                obtain ⟨t, HT⟩ : ∃ t : ByteArray, Hid (t = ⟨(joinU (rl ++ [y])).toArray⟩) := ⟨_, hide rfl⟩
                have HTZ : Hid (t.size = (joinU (rl ++ [y])).length) := by show _ = _; rw [HT.out, u_size]
                have HTD : Hid (t.data.toList = joinU (rl ++ [y])) := by show _ = _; rw [HT.out]
                have HBM : Hid (∀ u ∈ rl ++ [y], u ∈ l) := by
                  intro u hu
                  rw [HRV.out] at hu
                  rcases List.mem_append.1 hu with hu | hu
                  · exact List.mem_reverse.1 hu
                  · simp at hu; subst hu; exact HYM.out
                have HTL : Hid (t.size ≤ 9223372036854775807) := by
                  show _ ≤ _
                  have h1 := joinU_len (M := 256) (rl ++ [y]) (fun u hu => (HK.out.1 u (HBM.out u hu)).2)
                  have h2 : (rl ++ [y]).length * (256 + 1) ≤ 33 * (256 + 1) := Nat.mul_le_mul_right _ (by rw [← HBN.out]; omega)
                  rw [HTZ.out]; omega
                go_wp2_with fail
                subst hbn
                refine (joined_any _ c3 f3 (rl ++ [y]) _ HBN.out (by omega) (fun u hu => (HK.out.1 u (HBM.out u hu)).2) (by exact HR3.out)).mono ?_
                rintro e w4 ⟨rfl, rfl⟩
                rw [← HT.out]
                have HMW : Hid (MaxL (w3.drewN q)) := HM.out.keep (below_drewN HBW3.out q)
                go_wp2_with fail
                by_cases hN : 256 < t.size
                · refine (scopes_m t [] 1 0 _ (by rw [HTD.out]; exact sco_long (by rw [← HTZ.out]; exact hN)) rfl HTL.out HMW.out).mono ?_
                  rintro e w5 ⟨f5, c5, rfl, h5⟩
                  have HB5 : Hid (Below w.heap.size w w5) := (below_drewN HBW3.out q).trans (h5.out.2.mono (by simp; omega))
                  clear h5
                  have hNi : (256 : Int) < (t.size : Int) := by omega
                  go_wp2_with (go_at_call 9; refine (num_any _ _).mono ?_; rintro e wn ⟨rfl, rfl⟩)
                  go_ret
                  exact ⟨rfl, HB5.out⟩
                · have hNi : (t.size : Int) ≤ 256 := by omega
                  have HSB : Hid (scoOut t.data.toList = (l, 0)) := by
                    show _ = _
                    rw [HTD.out, HRV.out]
                    refine sco_back HYM.out (fun u hu => (HK.out.1 u hu).1) HK.out.2.1 HK.out.2.2 ?_
                    rw [← HRV.out, ← HTZ.out]; omega
                  refine (scopes_m t l 0 m _ HSB.out HML.out HTL.out HMW.out).mono ?_
                  rintro e w5 ⟨f5, c5, rfl, h5⟩
                  have HB5 : Hid (Below w.heap.size w w5) := (below_drewN HBW3.out q).trans (h5.out.2.mono (by simp; omega))
                  have HR5 : Hid (SRow w5 f5 l) := h5.out.1.row
                  have HR35 : Hid (SRow w5 f3 (rl ++ [y])) := SRow.keep (w := w3.drewN q) (by exact HR3.out) h5.out.2
                  have HL35 : Hid (SRow w5 (some ⟨b, off, none⟩) l) := SRow.keep (w := w3.drewN q) (by exact HL3.out) h5.out.2
                  have hs5 := HB5.out.size
                  clear h5
                  have HW1 : Hid (withinB l (rl ++ [y]) = true) := by
                    show _ = _
                    unfold withinB
                    rw [decide_eq_true_eq]
                    intro u hu
                    rw [HRV.out]
                    simp [hu]
                  have HW2 : Hid (withinB (rl ++ [y]) l = true) := by
                    show _ = _
                    unfold withinB
                    rw [decide_eq_true_eq]
                    exact HBM.out
                  go_wp2_with (go_at_call 9; refine (num_any _ _).mono ?_; rintro e wn ⟨rfl, rfl⟩)
                  refine (texts_true m c1 c5 _ f5 l _ HML.out (by omega) HL35.out HR5.out).mono ?_
                  rintro e w6 ⟨rfl, k6, rfl⟩
                  go_wp2_with fail
                  refine (within_any m (m + 1) c5 c3 f5 f3 l (rl ++ [y]) _ HML.out HBN.out (by omega) (by omega) (by exact HR5.out) (by exact HR35.out)).mono ?_
                  rintro e w7 ⟨rfl, rfl⟩
                  rw [HW1.out]
                  go_wp2_with fail
                  refine (within_any (m + 1) m c3 c5 f3 f5 (rl ++ [y]) l _ HBN.out HML.out (by omega) (by omega) (by exact HR35.out) (by exact HR5.out)).mono ?_
                  rintro e w8 ⟨rfl, rfl⟩
                  rw [HW2.out]
                  go_wp2_with fail
                  refine (live_true _ (by exact HM.out.keep (below_drewN HB5.out k6))).mono ?_
                  rintro e w9 ⟨rfl, hb9⟩
                  have HB9 : Hid (Below w.heap.size w w9) := (below_drewN HB5.out k6).trans (hb9.mono (by simp; omega))
                  go_wp2
                  go_ret
                  exact ⟨rfl, HB9.out⟩
  · have hei : ((er : Int) != 0) = true := by rw [bne_iff_ne]; omega
    have hm0 : m = 0 := by rw [HML.out, sco_none HO.out he]; rfl
    subst hm0
    have HEr : Hid (er ≠ 0) := he
    clear he
    go_wp2_with (go_at_call 9; refine (num_any _ _).mono ?_; rintro e wn ⟨rfl, rfl⟩)
    refine (live_true _ (HM.out.keep HB1.out)).mono ?_
    rintro e w7 ⟨rfl, hb7⟩
    have HB7 : Hid (Below w.heap.size w w7) := HB1.out.trans (hb7.mono hs1)
    go_wp2
    go_ret
    exact ⟨rfl, HB7.out⟩
end Go.Proofs.YtebcodbmkphgaabDoor
