/- The document's Print: every list of clients. -/
import Derived.Test.YtjehbdekipmllaaGreatDoorLSaid
import Derived.Test.YtjehbdekipmllaaGreatDoorLRCheckB
namespace Go.Proofs.YtjehbdekipmllaaGreatDoor
open Go.RowKit

theorem CRow.take {w : World} {ao : Option Addr} {l : List Cl} (h : CRow w ao l) (k : Nat) : CRow w ao (l.take k) := by
  rcases h with rfl | ⟨b, off, rfl, hc⟩
  · exact .inl (by simp)
  · refine .inr ⟨b, off, rfl, fun i c hi => hc i c ?_⟩
    rw [List.getElem?_take] at hi
    split at hi
    · exact hi
    · cases hi
theorem slice_hiR (g off n cap m : Nat) (hm : m ≤ cap) (h0 : 0 < cap) (w : World) : (Instr.slice 26 (.slice (some ⟨g, off, none⟩) n cap) none (some (.int .i64 (m : Int))) none).run Tryz.prog w = .ok (.slice (some ⟨g, off, none⟩) m cap) w := by
  have hne : ¬ cap = 0 := by omega
  simp [go_sem, Tryz.underlying26, hne, hm]
theorem pos_some (l : List Cl) (x : ByteArray) : (posOf l x).isSome = true ↔ x ∈ l.map Cl.id := by
  unfold posOf
  rw [List.findIdx?_isSome, List.any_eq_true]
  constructor
  · rintro ⟨c, hc, he⟩
    exact List.mem_map.2 ⟨c, hc, by simpa using he⟩
  · intro h
    obtain ⟨c, hc, he⟩ := List.mem_map.1 h
    exact ⟨c, hc, by simpa using he⟩
theorem find_posP (l : List Cl) (x : ByteArray) : (findR l x).isSome = (posOf l x).isSome := by
  unfold findR
  cases h : posOf l x with
  | none => rfl
  | some i =>
    have hi : i < l.length := posOf_lt h
    simp [hi]
theorem nod_step {L : List Cl} {k : Nat} {q : Cl} (hq : L[k]? = some q) (h : ((L.take k).map Cl.id).Nodup) (hn : (findR (L.take k) q.id).isSome = false) : ((L.take (k + 1)).map Cl.id).Nodup := by
  have hn : ¬ q.id ∈ (L.take k).map Cl.id := fun h => by
    have := (pos_some _ _).2 h
    rw [← find_posP, hn] at this
    cases this
  rw [List.take_add_one, hq, List.map_append]
  refine List.nodup_append.2 ⟨h, by simp, fun x hx y hy e => ?_⟩
  simp at hy
  subst hy
  exact hn (by rw [← e]; exact hx)
theorem nod_bad {L : List Cl} {k : Nat} {q : Cl} (hq : L[k]? = some q) (hn : (findR (L.take k) q.id).isSome = true) : twB L = true := by
  have hn : q.id ∈ (L.take k).map Cl.id := (pos_some _ _).1 (by rw [← find_posP]; exact hn)
  unfold twB
  refine decide_eq_true (fun h => ?_)
  have h2 : ((L.take (k + 1)).map Cl.id).Nodup := by
    rw [List.map_take]
    exact h.sublist (List.take_sublist _ _)
  rw [List.take_add_one, hq, List.map_append] at h2
  exact (List.nodup_append.1 h2).2.2 q.id hn q.id (by simp) rfl
set_option linter.unusedSimpArgs false in
set_option maxHeartbeats 4000000 in
set_option maxRecDepth 100000 in
theorem rclPrint_any (n c : Nat) (ao : Option Addr) (L : List Cl) (w : World) (hn : n = L.length) (hnc : n ≤ c) (hl : n ≤ 1099511627776) (hz : ∀ c ∈ L, ClBd c) (hr : CRow w ao L) :
    Calls Tryz.prog 14 #[.slice ao n c] w fun e w' => e = .returned (.tuple #[.string (bstr (printR L).1), .int .i64 ((printR L).2 : Int)]) ∧ Below w.heap.size w w' := by
  have HN := hide hn
  have HR := hide hr
  have HZ : Hid (∀ c ∈ L, ClBd c) := hz
  obtain ⟨R, hR⟩ : ∃ R, R = printR L := ⟨_, rfl⟩
  have HRE : Hid (R = printR L) := hR
  rw [← hR]
  clear hn hr hz hR
  go_enter Tryz.func14, Tryz.ntmps14
  go_wp2
  go_loopw [4] (fun i wr => ∃ k : Nat, k ≤ n ∧ i = .int .i64 (k : Int) ∧ Hid ((L.take k).all checkB = true) ∧ Hid (Below w.heap.size w wr)) (fun i _ => n - (intOf i).toNat)
  case atStart => exact ⟨0, by omega, rfl, rfl, Below.refl _ _⟩
  case round =>
    obtain ⟨k, hk, rfl, HA, HB⟩ := hrel
    have hsr := HB.out.size
    by_cases hlt : k < n
    · obtain ⟨b, off, rfl⟩ := HR.out.form (by rw [← HN.out]; omega)
      obtain ⟨q, hq⟩ : ∃ q, L[k]? = some q := ⟨_, List.getElem?_eq_getElem (by rw [← HN.out]; exact hlt)⟩
      obtain ⟨so, m, cp, d0, d1, d2, d3, d4, d5, hsat⟩ := (HR.out.keep HB.out).cell hq
      have HQ := hide hq
      have hqs := HZ.out q (List.mem_of_getElem? hq)
      have hki : (k : Int) < (n : Int) := by omega
      have HCK := hide (rcheck_any q.id q.secret q.url q.grants q.ping q.scopes so m cp wr hsat (by have := hsat.1; have := hqs.2.2.2.1; omega) (by have := hqs.2.2.2.2; omega) (by have := hqs.1; omega) (by have := hqs.2.1; omega) (by have := hqs.2.2.1; omega))
      clear hq hsat hqs
      go_wp2_with fail
      refine HCK.out.mono ?_
      rintro e w2 ⟨rfl, hb2⟩
      have HB2 : Hid (Below w.heap.size w w2) := HB.out.trans (hb2.mono hsr)
      clear hb2 HCK
      by_cases hck : checkB q = true
      · have hE : errIf (checkB ⟨q.id, q.secret, q.grants, q.ping, q.url, q.scopes⟩) 111 = 0 := if_pos hck
        have HA2 := hide (all_take HA.out HQ.out hck)
        rw [hE]
        clear hE hck
        go_wp2
        go_roundw
        case rel => exact ⟨k + 1, by omega, by go_num, HA2, HB2⟩
        case measure => simp [intOf]; omega
      · have hE : errIf (checkB ⟨q.id, q.secret, q.grants, q.ping, q.url, q.scopes⟩) 111 = 111 := if_neg hck
        have HF : Hid (R = ([], 111)) := by show _ = _; rw [HRE.out]; unfold printR; rw [all_bad HQ.out (by simpa using hck)]; rfl
        rw [hE]
        clear hE hck
        go_wp2
        go_ret2
        refine ⟨?_, HB2.out⟩
        rw [HF.out]
        rfl
    · obtain rfl : k = n := by omega
      have HAE : Hid (L.all checkB = true) := by
        have h := HA.out
        rw [List.take_of_length_le (by rw [← HN.out]; omega)] at h
        exact h
      have HFR : Hid (faultR L = if twB L = true then 8 else if 256 < L.length then 32 else 0) := by show _ = _; unfold faultR; rw [if_pos HAE.out]
      have HOK : Hid (∀ c ∈ L, ClOk c) := fun c hc => clok (List.all_eq_true.1 HAE.out c hc)
      have hki : ¬ (k : Int) < (k : Int) := by omega
      have HBA := HB
      clear HA HAE HB hk hlt
      generalize wr = wa at *
      go_wp2
      go_loopw [5] (fun i wr => ∃ j : Nat, j ≤ k ∧ i = .int .i64 (j : Int) ∧ Hid (((L.take j).map Cl.id).Nodup) ∧ Hid (Below wa.heap.size wa wr)) (fun i _ => k - (intOf i).toNat)
      case atStart => exact ⟨0, by omega, rfl, by simp [Hid], Below.refl _ _⟩
      case round =>
        obtain ⟨j, hj, rfl, HA, HB⟩ := hrel
        have hsr2 := HB.out.size
        by_cases hlt : j < k
        · obtain ⟨b, off, rfl⟩ := HR.out.form (by rw [← HN.out]; omega)
          obtain ⟨q, hq⟩ : ∃ q, L[j]? = some q := ⟨_, List.getElem?_eq_getElem (by rw [← HN.out]; exact hlt)⟩
          obtain ⟨so, m, cp, d0, d1, d2, d3, d4, d5, hsat⟩ := ((HR.out.keep HBA.out).keep HB.out).cell hq
          have HQ := hide hq
          have hji : (j : Int) < (k : Int) := by omega
          have hsl := slice_hiR b off k c j (by omega) (by omega)
          have HRT := hide (((HR.out.keep HBA.out).keep HB.out).take j)
          have HFI : Hid (∀ W, Below wr.heap.size wr W → Calls Tryz.prog 21 #[.slice (some ⟨b, off, none⟩) j c, .string q.id] W fun e w' => True ∧ RFdEnd W (findR (L.take j) q.id) e w') := fun W hW => rfind_any j c (some ⟨b, off, none⟩) (L.take j) q.id W (by rw [List.length_take]; have := HN.out; omega) (by omega) (HRT.out.keep hW)
          have HZ0 := hide (D6.new wr)
          have HBN : Hid (Below wr.heap.size wr (wr.alloc (.cells #[.string { data := #[] }, .string { data := #[] }, .int .i64 0, .bool false, .string { data := #[] }, .slice none 0 0] 50))) := below_new wr _
          have hbw := World.block_lt_of_cell? wr _ d0
          have hb1 : ¬ b = wr.heap.size := by simp only at hbw; omega
          have hb2 : ¬ wr.heap.size = b := by simp only at hbw; omega
          clear hq hsat d1 d2 d3 d4 d5 hbw
          go_wp2
          go_region_held3 (fun W => W.cell? ⟨b, off + j * 6, none⟩ = some (.string q.id)) (go_keep) (first | (go_at_call 21; refine (HFI.out _ (below_drewN (Below.refl _ _) 1)).mono ?_; rintro e wx ⟨-, q2, so2, n2, cp2, rfl, -, -, hbx⟩; have hbx' := below_undrewN1 hbx; have HBX := hide hbx'; have z0 := cell_kept d0 hbx'; have HNE := hide (World.new_ne wx _ z0); clear hbx hbx') | (go_at_call 21; refine (HFI.out _ (below_drewN HBN.out 1)).mono ?_; rintro e wx ⟨-, q2, so2, n2, cp2, rfl, -, -, hbx⟩; have hbx' := below_undrewN1 hbx; have HBX := hide (HBN.out.trans (hbx'.mono HBN.out.size)); have z0 := cell_kept d0 HBX.out; have HZX := hide (HZ0.out.keep hbx' HZ0.out.lt); obtain ⟨m0, m1, m2, m3, m4, m5⟩ := HZX.out.cells; obtain ⟨y0, y1, y2, y3, y4, y5⟩ := HZX.out.thaw; clear hbx hbx'))
          all_goals
            obtain ⟨P, hP⟩ : ∃ P, P = (findR (L.take j) q.id).isSome := ⟨_, rfl⟩
            rw [← hP]
            have HP := hide hP
            clear hP
            cases P with
            | true =>
              have HF : Hid (R = ([], 8)) := by
                show _ = _
                rw [HRE.out]; unfold printR; rw [HFR.out, if_pos (nod_bad HQ.out HP.out.symm)]; rfl
              go_wp2
              go_ret2
              refine ⟨?_, (HBA.out.trans (HB.out.mono HBA.out.size)).trans (Below.mono (B := wr.heap.size) ?_ (by have := HBA.out.size; omega))⟩
              · rw [HF.out]
                rfl
              · first | (have hzz := HZX; exact HBX.out.trans (below_of_grown (putD_grown wx wr.heap.size _ _ _ _ _ _) (Nat.le_refl _) HBX.out.size)) | (have hzz := HNE; exact HBX.out.trans ((below_new _ _).mono HBX.out.size))
            | false =>
              have HA2 := hide (nod_step HQ.out HA.out HP.out.symm)
              go_wp2
              go_roundw
              case rel =>
                refine ⟨j + 1, by omega, by go_num, HA2, HB.out.trans (Below.mono (B := wr.heap.size) ?_ hsr2)⟩
                first | (have hzz := HZX; exact HBX.out.trans (below_of_grown (putD_grown wx wr.heap.size _ _ _ _ _ _) (Nat.le_refl _) HBX.out.size)) | (have hzz := HNE; exact HBX.out.trans ((below_new _ _).mono HBX.out.size))
              case measure => simp [intOf]; omega
        · obtain rfl : j = k := by omega
          have hji : ¬ (j : Int) < (j : Int) := by omega
          have HTW : Hid (twB L = false) := by
            have h := HA.out
            rw [List.take_of_length_le (by rw [← HN.out]; omega)] at h
            show _ = _
            unfold twB
            simpa using h
          have HF2 : Hid (faultR L = if 256 < L.length then 32 else 0) := by show _ = _; rw [HFR.out, if_neg (by rw [HTW.out]; decide)]
          have HBR := hide (HBA.out.trans (HB.out.mono HBA.out.size))
          clear HA HB HFR HTW hj hlt hsr2 hsr
          by_cases h256 : 256 < j
          · have h256i : (256 : Int) < (j : Int) := by omega
            have HF : Hid (R = ([], 32)) := by
              show _ = _
              rw [HRE.out]; unfold printR; rw [HF2.out, if_pos (show 256 < L.length by rw [← HN.out]; exact h256)]; rfl
            go_wp2
            go_ret2
            refine ⟨?_, HBR.out⟩
            rw [HF.out]
            rfl
          have h256i : ¬ (256 : Int) < (j : Int) := by omega
          have HRT : Hid (R = if 65536 < (textR L).length then ([], 1) else (textR L, 0)) := by
            show _ = _
            rw [HRE.out]; unfold printR; rw [HF2.out, if_neg (show ¬ 256 < L.length by rw [← HN.out]; exact h256)]; rfl
          clear HRE HF2
          generalize wr = wb at *
          go_wp2
          go_loopw [8, 9] (fun s i wr => ∃ k : Nat, k ≤ j ∧ s = .string (bstr (textR (L.take k))) ∧ i = .int .i64 (k : Int) ∧ Hid (Below wb.heap.size wb wr)) (fun _ i _ => j - (intOf i).toNat)
          case atStart => exact ⟨0, by omega, rfl, rfl, Below.refl _ _⟩
          case round =>
            obtain ⟨k, hk, rfl, rfl, HB⟩ := hrel
            have hsr3 := HB.out.size
            by_cases hlt : k < j
            · obtain ⟨b, off, rfl⟩ := HR.out.form (by rw [← HN.out]; omega)
              obtain ⟨q, hq⟩ : ∃ q, L[k]? = some q := ⟨_, List.getElem?_eq_getElem (by rw [← HN.out]; exact hlt)⟩
              obtain ⟨so, m, cp, d0, d1, d2, d3, d4, d5, hsat⟩ := ((HR.out.keep HBR.out).keep HB.out).cell hq
              have HQO := hide (HOK.out q (List.mem_of_getElem? hq))
              have HT : Hid (textR (L.take (k + 1)) = textR (L.take k) ++ lineT q) := by show _ = _; rw [List.take_add_one, hq]; exact textR_snoc _ _
              have HTL : Hid ((textR (L.take k)).length ≤ 75539200) := by
                show _ ≤ _
                have h1 := (textR_ok (L := L.take k) (fun d hd => HOK.out d (List.mem_of_mem_take hd))).1
                have h2 : (L.take k).length ≤ 256 := by rw [List.length_take]; omega
                have h3 : 295075 * (L.take k).length ≤ 295075 * 256 := Nat.mul_le_mul_left _ h2
                omega
              have hki : (k : Int) < (j : Int) := by omega
              have HSD := hide (said_any q HQO.out so m cp wr hsat)
              obtain ⟨S1, hS1⟩ : ∃ x, x = bstr (textR (L.take k)) := ⟨_, rfl⟩
              obtain ⟨S2, hS2⟩ : ∃ x, x = bstr (lineT q) := ⟨_, rfl⟩
              obtain ⟨S3, hS3⟩ : ∃ x, x = bstr (textR (L.take (k + 1))) := ⟨_, rfl⟩
              have hadd : ∀ w, (Op.stringOp .add S1 S2).run Tryz.prog w = .ok (.string S3) w := fun w => add_str S1 S2 S3 (by
                rw [hS1, hS2, hS3, HT.out]
                simp [bstr]) (by
                rw [hS1, hS2, bstr_size, bstr_size]
                have h1 := lineT_len HQO.out
                have h2 := HTL.out
                omega) w
              rw [← hS2] at HSD
              rw [← hS1]
              have HS3 := hide hS3
              clear hq hsat hS1 hS2 hS3
              go_wp2_with fail
              refine HSD.out.mono ?_
              rintro e w2 ⟨rfl, hb2⟩
              have HB2 : Hid (Below wb.heap.size wb w2) := HB.out.trans (hb2.mono hsr3)
              clear hb2 HSD
              go_wp2
              go_roundw
              case rel => exact ⟨k + 1, by omega, by rw [HS3.out], by go_num, HB2⟩
              case measure => simp [intOf]; omega
            · obtain rfl : k = j := by omega
              have hki : ¬ (k : Int) < (k : Int) := by omega
              have HTE : Hid (textR (L.take k) = textR L) := by show _ = _; rw [List.take_of_length_le (by rw [← HN.out]; omega)]
              rw [HTE.out]
              obtain ⟨m, hm⟩ : ∃ m, m = (textR L).length := ⟨_, rfl⟩
              rw [← hm] at HRT
              obtain ⟨T, hT⟩ : ∃ T, T = bstr (textR L) := ⟨_, rfl⟩
              have hTs : T.size = m := by rw [hT, bstr_size, hm]
              have HTT := hide hT
              have HBE := hide (HBR.out.trans (HB.out.mono HBR.out.size))
              rw [← hT]
              clear hT hm
              by_cases hlg : 65536 < m
              · have hli : (65536 : Int) < (T.size : Int) := by omega
                have HF : Hid (R = ([], 1)) := by show _ = _; rw [HRT.out, if_pos hlg]
                go_wp2
                go_ret2
                refine ⟨?_, HBE.out⟩
                rw [HF.out]
                rfl
              · have hli : ¬ (65536 : Int) < (T.size : Int) := by omega
                have HF : Hid (R = (textR L, 0)) := by show _ = _; rw [HRT.out, if_neg hlg]
                go_wp2
                go_ret2
                refine ⟨?_, HBE.out⟩
                rw [HF.out, HTT.out]
                rfl
end Go.Proofs.YtjehbdekipmllaaGreatDoor
