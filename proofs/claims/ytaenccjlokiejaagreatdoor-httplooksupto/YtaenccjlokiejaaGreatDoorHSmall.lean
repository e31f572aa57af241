/- Small letters; names that are the same; fields that may be; a field's line. -/
import Derived.Test.YtaenccjlokiejaaGreatDoorHRow
import Derived.BigQuiet
import Derived.Deep.Cut
import Derived.Deep.CutBlock
import Derived.Deep.RegionHeld3
namespace Go.Proofs.YtaenccjlokiejaaGreatDoor
open Go.RowKit Go.Shelf

theorem lows_take (l : U) (k : Nat) (h : k < l.length) : lows (l.take (k + 1)) = lows (l.take k) ++ [lo (l.getD k 0)] := by
  unfold lows
  rw [List.take_succ_eq_append_getElem h, List.map_append]
  simp [List.getD, h]
set_option maxHeartbeats 1000000 in
set_option maxRecDepth 100000 in
theorem small_any (l : U) (w : World) (hl : l.length ≤ 140737488355328) : Calls Tryz.prog 58 #[.string (str l)] w fun e w' => e = .returned (.string (str (lows l))) ∧ Below w.heap.size w w' := by
  have hz := str_size l
  have HIX := hide (str_at l)
  obtain ⟨n, hn⟩ : ∃ n, n = l.length := ⟨_, rfl⟩
  rw [← hn] at hz hl
  have HN := hide hn
  generalize str l = s at *
  clear hn
  go_enter Tryz.func58, Tryz.ntmps58
  go_wp2
  go_loopw [7] (fun i wr => ∃ k : Nat, k ≤ n ∧ i = .int .i64 k ∧ Hid (BU w.heap.size w.heap.size w wr (lows (l.take k)))) (fun i _ => n - (intOf i).toNat)
  case atStart => exact ⟨0, by omega, rfl, bu_fresh w⟩
  case round =>
    obtain ⟨k, hk, rfl, HS⟩ := hrel
    have hs := HS.out.size
    by_cases hlt : k < n
    · have hix := HIX.out k (by rw [← HN.out]; exact hlt)
      have HT := hide (lows_take l k (by rw [← HN.out]; exact hlt))
      have HZ : Hid ((lows (l.take k)).length + 1 ≤ 140737488355328) := by
        show _ ≤ _
        unfold lows
        rw [List.length_map, List.length_take]
        omega
      generalize l.getD k 0 = c at *
      go_wp2_with fail
      refine (smallByte_any c wr).mono ?_
      rintro e w2 ⟨rfl, h2⟩
      have h3 := h2.symm
      subst h3
      clear h2
      go_wp2_with fail
      refine (putB_any _ _ w _ _ (lo c) (Nat.le_refl _) HS.out HZ.out).mono ?_
      rintro e w3 ⟨rfl, HS3, -⟩
      rw [← HT.out] at HS3
      clear HS
      go_wp2
      go_roundw
      case rel => exact ⟨k + 1, by omega, by go_num, HS3⟩
      case measure => simp [intOf]; omega
    · obtain rfl : k = n := by omega
      have HE : Hid (l.take k = l) := by show _ = _; rw [HN.out, List.take_length]
      rw [HE.out] at HS
      go_wp2_with fail
      refine (getS_any _ _ w _ _ (Nat.le_refl _) HS.out).mono ?_
      rintro e w3 ⟨rfl, HB3⟩
      go_wp2
      go_ret
      exact ⟨rfl, HB3.out⟩
theorem lows_same (a b : U) (n : Nat) (ha : n = a.length) (hb : n = b.length) (h : ∀ j, j < n → lo (a.getD j 0) = lo (b.getD j 0)) : lows a = lows b := by
  unfold lows
  refine List.ext_getElem (by simp; omega) fun i h1 h2 => ?_
  simp only [List.length_map] at h1 h2
  have := h i (by omega)
  simp only [List.getElem_map]
  simpa [List.getD, h1, h2] using this
theorem lows_not (a b : U) (j : Nat) (ha : j < a.length) (hb : j < b.length) (h : lo (a.getD j 0) ≠ lo (b.getD j 0)) : lows a ≠ lows b := by
  intro e
  apply h
  have := congrArg (fun l : U => l[j]?) e
  simpa [lows, List.getD, ha, hb] using this
set_option maxHeartbeats 1000000 in
set_option maxRecDepth 100000 in
theorem sameName_any (a b : U) (w : World) (hl : a.length ≤ 9223372036854775807) (hl2 : b.length ≤ 9223372036854775807) : Calls Tryz.prog 55 #[.string (str a), .string (str b)] w fun e w' => e = .returned (.bool (decide (lows a = lows b))) ∧ Below w.heap.size w w' := by
  have hza := str_size a
  have hzb := str_size b
  have HIA := hide (str_at a)
  have HIB := hide (str_at b)
  obtain ⟨n, hn⟩ : ∃ n, n = a.length := ⟨_, rfl⟩
  obtain ⟨m, hm⟩ : ∃ m, m = b.length := ⟨_, rfl⟩
  rw [← hn] at hza hl
  rw [← hm] at hzb hl2
  have HN := hide hn
  have HM := hide hm
  obtain ⟨r, hr⟩ : ∃ r, r = decide (lows a = lows b) := ⟨_, rfl⟩
  rw [← hr]
  have HR := hide hr
  generalize str a = sa at *
  generalize str b = sb at *
  clear hn hm hr
  by_cases hnm : n = m
  · subst hnm
    go_enter Tryz.func55, Tryz.ntmps55
    go_wp2
    go_loopw [13] (fun i wr => ∃ k : Nat, k ≤ n ∧ i = .int .i64 k ∧ Hid (∀ j, j < k → lo (a.getD j 0) = lo (b.getD j 0)) ∧ Hid (Below w.heap.size w wr)) (fun i _ => n - (intOf i).toNat)
    case atStart => exact ⟨0, by omega, rfl, (fun j hj => by omega), Below.refl _ _⟩
    case round =>
      obtain ⟨k, hk, rfl, HK, HW⟩ := hrel
      by_cases hlt : k < n
      · have hia := HIA.out k (by rw [← HN.out]; exact hlt)
        have hib := HIB.out k (by rw [← HM.out]; exact hlt)
        by_cases he : lo (a.getD k 0) = lo (b.getD k 0)
        · have HK2 : Hid (∀ j, j < k + 1 → lo (a.getD j 0) = lo (b.getD j 0)) := fun j hj => by
            by_cases h : j < k
            · exact HK.out j h
            · rw [show j = k by omega]; exact he
          have SA := hide (smallByte_any (a.getD k 0))
          have SB := hide (smallByte_any (b.getD k 0))
          rw [he] at SA
          generalize (lo (b.getD k 0)).toNat = z at *
          generalize (a.getD k 0).toNat = x at *
          generalize (b.getD k 0).toNat = y at *
          clear HK he
          go_wp2
          go_quiet (first
            | (go_at_call 83; with_reducible exact (SA.out _).mono fun _ _ h => ⟨h.1, _, h.2⟩)
            | (go_at_call 83; with_reducible exact (SB.out _).mono fun _ _ h => ⟨h.1, _, h.2⟩))
          go_wp2
          go_roundw
          case rel => exact ⟨k + 1, by omega, by go_num, HK2, below_drewN HW.out _⟩
          case measure => simp [intOf]; omega
        · have HE : Hid (r = false) := by
            show _ = _
            rw [HR.out]
            simpa using lows_not a b k (by rw [← HN.out]; exact hlt) (by rw [← HM.out]; exact hlt) he
          have hne : (((lo (a.getD k 0)).toNat : Int) != ((lo (b.getD k 0)).toNat : Int)) = true := by
            rw [bne_iff_ne]
            intro h
            exact he (u8_ext (by omega))
          have SA := hide (smallByte_any (a.getD k 0))
          have SB := hide (smallByte_any (b.getD k 0))
          generalize (lo (b.getD k 0)).toNat = z at *
          generalize (lo (a.getD k 0)).toNat = z2 at *
          generalize (a.getD k 0).toNat = x at *
          generalize (b.getD k 0).toNat = y at *
          clear HK he
          go_wp2
          go_quiet (first
            | (go_at_call 83; with_reducible exact (SA.out _).mono fun _ _ h => ⟨h.1, _, h.2⟩)
            | (go_at_call 83; with_reducible exact (SB.out _).mono fun _ _ h => ⟨h.1, _, h.2⟩))
          go_wp2
          go_ret
          exact ⟨by rw [HE.out]; rfl, below_drewN HW.out _⟩
      · have HE : Hid (r = true) := by
          show _ = _
          rw [HR.out]
          simpa using lows_same a b n HN.out HM.out (fun j hj => HK.out j (by omega))
        clear HK
        go_wp2
        go_ret
        exact ⟨by rw [HE.out]; rfl, HW.out⟩
  · have HE : Hid (r = false) := by
      show _ = _
      rw [HR.out]
      simp only [decide_eq_false_iff_not]
      intro e
      have := congrArg List.length e
      simp only [lows, List.length_map] at this
      exact hnm (by rw [HN.out, HM.out, this])
    have hne : ((n : Int) != (m : Int)) = true := by rw [bne_iff_ne]; omega
    go_enter Tryz.func55, Tryz.ntmps55
    go_wp2
    go_ret
    exact ⟨by rw [HE.out]; rfl, Below.refl _ _⟩
end Go.Proofs.YtaenccjlokiejaaGreatDoor
