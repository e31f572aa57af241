/- The contract of the document's put: for every text and every list of the call's own. -/
import Derived.Test.YtlhgjicichjbgaaGreatDoorPutMath
namespace Go.Proofs.YtlhgjicichjbgaaGreatDoor
open Go.RowKit

theorem sown_snoc {w : World} {B : Nat} {v : Value} {l : List U} {u : U} (h : w.ownsRow B 9 1 v (l.length + 1) (l.map encStr ++ [encStr u])) : SOwn w B v (l ++ [u]) := by
  unfold SOwn
  rw [List.length_append, List.map_append]
  exact h
theorem ins_len (l : List U) (s : U) : (ins l s).length ≤ l.length + 1 := by
  by_cases hs : s ∈ l
  · unfold ins; rw [if_pos hs]; omega
  · unfold ins
    rw [if_neg hs]
    have := List.takeWhile_append_dropWhile (p := fun x => !decide (s < x)) (l := l)
    have h2 := congrArg List.length this
    rw [List.length_append] at h2
    rw [List.length_append, List.length_cons]
    omega
set_option linter.unusedSimpArgs false in
set_option maxHeartbeats 1600000 in
set_option maxRecDepth 100000 in
theorem refPut_any (B n c : Nat) (ao : Option Addr) (l : List U) (s : U) (w : World) (hn : n = l.length) (hl : n ≤ 1000000) (hB : B ≤ w.heap.size) (hown : SOwn w B (.slice ao n c) l) :
    Calls Tryz.prog 68 #[.slice ao n c, .string ⟨s.toArray⟩] w fun e w' => ∃ v, e = .returned v ∧ Hid (SOwn w' B v (ins l s) ∧ Below w.heap.size w w') := by
  have HN : Hid (n = l.length) := hn
  have HO : Hid (SOwn w B (.slice ao n c) l) := hown
  have HR : Hid (SRow w ao l) := by
    obtain ⟨a, c', e, _, hr, _⟩ := hown.shape
    cases e
    exact hr
  obtain ⟨i0, hi, hz0, hz1, hz2⟩ := info_parts infoStr
  obtain ⟨bs, HBS⟩ : ∃ bs : ByteArray, Hid (bs = ⟨s.toArray⟩) := ⟨_, rfl⟩
  have HSL : Hid (bs.toList = s) := by show _ = _; rw [HBS.out, Lib.toList_data]
  rw [← HBS.out]
  clear hn hown
  go_enter Tryz.func68, Tryz.ntmps68
  go_wp2
  go_loopw [5, 6, 7] (fun v d i wr => ∃ k : Nat, k ≤ n ∧ d = .bool (laidAt l s k) ∧ i = .int .i64 k ∧ Hid (SOwn wr w.heap.size v (laid l s k) ∧ Below w.heap.size w wr) ∧ Hid (∀ j u, j < k → l[j]? = some u → u ≠ s)) (fun _ _ i _ => n - (intOf i).toNat)
  case atStart => exact ⟨0, Nat.zero_le _, rfl, rfl, ⟨sown_nil _ _, Below.refl _ _⟩, fun j u hj => by omega⟩
  case round =>
    obtain ⟨k, hk, rfl, rfl, HI, HK⟩ := hrel
    have hs := HI.out.2.size
    have hll := laid_len l s k
    by_cases hlt : k < n
    · obtain ⟨b, off, rfl⟩ := HR.out.form (by rw [← HN.out]; omega)
      obtain ⟨u, hu⟩ : ∃ u, l[k]? = some u := ⟨_, List.getElem?_eq_getElem (by rw [← HN.out]; exact hlt)⟩
      have HU : Hid (l[k]? = some u) := hu
      obtain ⟨bu, HBU⟩ : ∃ bu : ByteArray, Hid (bu = ⟨u.toArray⟩) := ⟨_, rfl⟩
      have HUL : Hid (bu.toList = u) := by show _ = _; rw [HBU.out, Lib.toList_data]
      have HCW : Hid (∀ W, Below w.heap.size w W → W.cell? ⟨b, off + k, none⟩ = some (.string bu)) := fun W hW => by rw [HBU.out]; exact (HR.out.keep hW).cell HU.out
      have c0 : wr.cell? ⟨b, off + k, none⟩ = some (.string bu) := HCW.out wr HI.out.2
      have HEN : Hid (encStr u = .string bu) := by show _ = _; rw [HBU.out]
      have HES : Hid (encStr s = .string bs) := by show _ = _; rw [HBS.out]
      clear hu
      by_cases he : u = s
      · have hb : (bu.toList == bs.toList) = true := by rw [HUL.out, HSL.out, he]; simp
        have HRS : Hid (ins l s = l) := by
          show _ = _
          unfold ins; rw [if_pos (by rw [← he]; exact List.mem_of_getElem? HU.out)]
        clear HK
        go_wp2
        go_ret
        exact ⟨_, rfl, by rw [HRS.out]; exact HO.out.keep HI.out.2, HI.out.2⟩
      · have hb : (bu.toList == bs.toList) = false := by rw [HUL.out, HSL.out]; simpa using he
        have HK2 : Hid (∀ j v, j < k + 1 → l[j]? = some v → v ≠ s) := fun j v hj hv => by
          by_cases hjk : j < k
          · exact HK.out j v hjk hv
          · rw [show j = k by omega, HU.out] at hv; cases hv; exact he
        cases hd : laidAt l s k with
        | true =>
          have HL2 : Hid (laid l s (k + 1) = laid l s k ++ [u]) := laid_after HU.out hd
          have HD2 : Hid (laidAt l s (k + 1) = true) := by show _ = _; rw [laidAt_snoc HU.out, hd]; rfl
          clear HK hd he
          go_wp2_with (first | (at_builtin; refine wpList_append_own _ rfl (.tmp 35) (.tmp 40) 25 rfl w.heap.size 9 i0 (.string { data := #[] }) 1 16 Tryz.underlying25 hi hz0 hz1 hz2 rfl (by decide) _ (laid l s k).length ((laid l s k).map encStr) rfl (World.ownsRow.alloc HI.out.1 _) ⟨wr.heap.size, 0, none⟩ 1 1 [.string bu] rfl rfl (one_new _ _ (by simp) _ _) (by intro u hu; simp at hu; rcases hu with rfl; rfl) (by unfold maxLen; omega) (by omega) (by simp; omega) ?_) | fail)
          intro v3 w3 hown hgrow hnil
          go_wp2
          have HI3 : Hid (SOwn w3 w.heap.size v3 (laid l s (k + 1)) ∧ Below w.heap.size w w3) := by
            refine ⟨?_, (HI.out.2.alloc hs _).grown hgrow (by simp; omega) HI.out.1.ge⟩
            rw [HL2.out]; refine sown_snoc ?_; rw [HEN.out]; exact hown
          clear hown hgrow hnil
          go_roundw
          case rel => exact ⟨k + 1, by omega, by rw [HD2.out], by go_num, HI3, HK2⟩
          case measure => simp [intOf]; omega
        | false =>
          by_cases hsu : s < u
          · have HL2 : Hid (laid l s (k + 1) = laid l s k ++ [s] ++ [u]) := laid_now HU.out hd hsu
            have HD2 : Hid (laidAt l s (k + 1) = true) := by show _ = _; rw [laidAt_snoc HU.out, hd]; simp [hsu]
            have hless : Op.bytesLess bu.toList bs.toList = false := by
              rw [HUL.out, HSL.out, less_eq, decide_eq_false_iff_not]
              exact fun h => u_irrefl _ (u_trans h hsu)
            clear HK hd he hsu
            go_wp2_with (first | (at_builtin; refine wpList_append_own _ rfl (.tmp 31) (.tmp 33) 25 rfl w.heap.size 9 i0 (.string { data := #[] }) 1 16 Tryz.underlying25 hi hz0 hz1 hz2 rfl (by decide) _ (laid l s k).length ((laid l s k).map encStr) rfl (World.ownsRow.alloc HI.out.1 _) ⟨wr.heap.size, 0, none⟩ 1 1 [.string bs] rfl rfl (one_new _ _ (by simp) _ _) (by intro u hu; simp at hu; rcases hu with rfl; rfl) (by unfold maxLen; omega) (by omega) (by simp; omega) ?_) | fail)
            intro v3 w3 hown hgrow hnil
            obtain ⟨L2, HLE⟩ : ∃ L2, Hid (L2 = laid l s k ++ [s]) := ⟨_, rfl⟩
            have HI3 : Hid (SOwn w3 w.heap.size v3 L2 ∧ Below w.heap.size w w3) := by
              refine ⟨?_, (HI.out.2.alloc hs _).grown hgrow (by simp; omega) HI.out.1.ge⟩
              rw [HLE.out]; refine sown_snoc ?_; rw [HES.out]; exact hown
            have hs3 := HI3.out.2.size
            have c3 : w3.cell? ⟨b, off + k, none⟩ = some (.string bu) := HCW.out w3 HI3.out.2
            have hl3 : L2.length ≤ k + 2 := by rw [HLE.out]; simp; omega
            clear hown hgrow hnil c0
            go_wp2_with (first | (at_builtin; refine wpList_append_own _ rfl (.tmp 35) (.tmp 40) 25 rfl w.heap.size 9 i0 (.string { data := #[] }) 1 16 Tryz.underlying25 hi hz0 hz1 hz2 rfl (by decide) _ (L2).length ((L2).map encStr) rfl (World.ownsRow.alloc HI3.out.1 _) ⟨w3.heap.size, 0, none⟩ 1 1 [.string bu] rfl rfl (one_new _ _ (by simp) _ _) (by intro u hu; simp at hu; rcases hu with rfl; rfl) (by unfold maxLen; omega) (by omega) (by simp; omega) ?_) | fail)
            intro v5 w5 hown hgrow hnil
            go_wp2
            have HI5 : Hid (SOwn w5 w.heap.size v5 (laid l s (k + 1)) ∧ Below w.heap.size w w5) := by
              refine ⟨?_, (HI3.out.2.alloc hs3 _).grown hgrow (by simp; omega) HI3.out.1.ge⟩
              rw [HL2.out, ← HLE.out]; refine sown_snoc ?_; rw [HEN.out]; exact hown
            clear hown hgrow hnil
            go_roundw
            case rel => exact ⟨k + 1, by omega, by rw [HD2.out], by go_num, HI5, HK2⟩
            case measure => simp [intOf]; omega
          · have HL2 : Hid (laid l s (k + 1) = laid l s k ++ [u]) := (laid_not HU.out hd hsu).1
            have HD2 : Hid (laidAt l s (k + 1) = false) := (laid_not HU.out hd hsu).2
            have hless : Op.bytesLess bu.toList bs.toList = true := by
              rw [HUL.out, HSL.out, less_eq, decide_eq_true_eq]
              exact u_total hsu (fun e => he e.symm)
            clear HK hd he hsu
            go_wp2_with (first | (at_builtin; refine wpList_append_own _ rfl (.tmp 35) (.tmp 40) 25 rfl w.heap.size 9 i0 (.string { data := #[] }) 1 16 Tryz.underlying25 hi hz0 hz1 hz2 rfl (by decide) _ (laid l s k).length ((laid l s k).map encStr) rfl (World.ownsRow.alloc HI.out.1 _) ⟨wr.heap.size, 0, none⟩ 1 1 [.string bu] rfl rfl (one_new _ _ (by simp) _ _) (by intro u hu; simp at hu; rcases hu with rfl; rfl) (by unfold maxLen; omega) (by omega) (by simp; omega) ?_) | fail)
            intro v3 w3 hown hgrow hnil
            go_wp2
            have HI3 : Hid (SOwn w3 w.heap.size v3 (laid l s (k + 1)) ∧ Below w.heap.size w w3) := by
              refine ⟨?_, (HI.out.2.alloc hs _).grown hgrow (by simp; omega) HI.out.1.ge⟩
              rw [HL2.out]; refine sown_snoc ?_; rw [HEN.out]; exact hown
            clear hown hgrow hnil
            go_roundw
            case rel => exact ⟨k + 1, by omega, by rw [HD2.out], by go_num, HI3, HK2⟩
            case measure => simp [intOf]; omega
    · obtain rfl : k = n := by omega
      have hns : s ∉ l := fun hm => by
        obtain ⟨j, hj, e⟩ := List.getElem_of_mem hm
        exact HK.out j s (by rw [← HN.out] at hj; exact hj) (by rw [List.getElem?_eq_getElem hj, e]) rfl
      have HIN : Hid (ins l s = if laidAt l s k = true then laid l s k else laid l s k ++ [s]) := by show _ = _; rw [laid_end hns, HN.out]
      have HES : Hid (encStr s = .string bs) := by show _ = _; rw [HBS.out]
      clear HK hns
      cases hd : laidAt l s k with
      | true =>
        have HR2 : Hid (ins l s = laid l s k) := by show _ = _; rw [HIN.out, if_pos hd]
        clear hd
        go_wp2
        go_ret
        exact ⟨_, rfl, by rw [HR2.out]; exact HI.out.1.lower hB, HI.out.2⟩
      | false =>
        have HR2 : Hid (ins l s = laid l s k ++ [s]) := by show _ = _; rw [HIN.out, if_neg (by rw [hd]; simp)]
        clear hd
        go_wp2_with (first | (at_builtin; refine wpList_append_own _ rfl (.tmp 44) (.tmp 46) 25 rfl w.heap.size 9 i0 (.string { data := #[] }) 1 16 Tryz.underlying25 hi hz0 hz1 hz2 rfl (by decide) _ (laid l s k).length ((laid l s k).map encStr) rfl (World.ownsRow.alloc HI.out.1 _) ⟨wr.heap.size, 0, none⟩ 1 1 [.string bs] rfl rfl (one_new _ _ (by simp) _ _) (by intro u hu; simp at hu; rcases hu with rfl; rfl) (by unfold maxLen; omega) (by omega) (by simp; omega) ?_) | fail)
        intro v3 w3 hown hgrow hnil
        have HI3 : Hid (SOwn w3 w.heap.size v3 (laid l s k ++ [s]) ∧ Below w.heap.size w w3) := by
          refine ⟨?_, (HI.out.2.alloc hs _).grown hgrow (by simp; omega) HI.out.1.ge⟩
          refine sown_snoc ?_; rw [HES.out]; exact hown
        clear hown hgrow hnil
        go_wp2
        go_ret
        exact ⟨_, rfl, by rw [HR2.out]; exact HI3.out.1.lower hB, HI3.out.2⟩
end Go.Proofs.YtlhgjicichjbgaaGreatDoor
