/- The contract of Advance. -/
import Derived.Test.YtmngmkbiibhmkaaVAdvS
namespace Go.Proofs.Ytmngmkbiibhmkaa
open Go.RowKit Go.Maps

theorem AInv.dueLen {now tt : Nat} {L L' D : List Tm} {S' : List (List Nat)} {pre : List Nat} (h : AInv now tt L pre L' S' D) (hl : L.length ≤ 8192) : D.length ≤ 8192 := by
  rw [h.due.length_eq]
  exact Nat.le_trans (List.length_filter_le ..) hl
theorem AInv.slotLen {now tt : Nat} {L L' D : List Tm} {S' : List (List Nat)} {pre : List Nat} (h : AInv now tt L pre L' S' D) (hl : L.length ≤ 8192) {k : Nat} {xs : List Nat} (hx : S'[k]? = some xs) : xs.length ≤ 8192 := by
  rw [(h.slot k xs hx).length_eq, List.length_map]
  exact Nat.le_trans (List.length_filter_le ..) hl
theorem AInv.get {now tt : Nat} {L L' D : List Tm} {S' : List (List Nat)} {pre : List Nat} (h : AInv now tt L pre L' S' D) (hL : Rise L) {id a : Nat} (hm : (id, a) ∈ L) (hn : id ∉ pre) : tget id L' = some a := by
  have hR : Rise L' := by rw [h.rest]; exact List.Pairwise.filter _ hL
  have := tget_mem hR (p := (id, a)) (by rw [h.rest, List.mem_filter]; exact ⟨hm, by simp [hn]⟩)
  exact this
theorem lifted {now tt : Nat} {L : List Tm} {S : List (List Nat)} (hok : Ok now L S) (hS : S.length = 257) {j : Nat} (hj : j < (S.take (slotN now tt + 1)).flatten.length) :
    ∃ id a, (S.take (slotN now tt + 1)).flatten[j]? = some id ∧ (S.take (slotN now tt + 1)).flatten.getD j 0 = id ∧ (id, a) ∈ L ∧ slotN now a ≤ slotN now tt ∧ id ∉ (S.take (slotN now tt + 1)).flatten.take j ∧ (S.take (slotN now tt + 1)).flatten.take (j + 1) = (S.take (slotN now tt + 1)).flatten.take j ++ [id] := by
  have hp := take_perm hok (slotN now tt + 1) (by rw [hS]; have := slotN_lt now tt; omega)
  have hnd : ((S.take (slotN now tt + 1)).flatten).Nodup := by
    rw [hp.nodup_iff]
    exact (rise_nodup hok.rise).sublist (List.Sublist.map _ List.filter_sublist)
  generalize (S.take (slotN now tt + 1)).flatten = I at *
  have hx : I[j]? = some I[j] := List.getElem?_eq_getElem hj
  have hm : I[j] ∈ (L.filter fun p => decide (slotN now p.2 < slotN now tt + 1)).map (·.1) := hp.mem_iff.1 (List.getElem_mem hj)
  obtain ⟨p, hp1, hp2⟩ := List.mem_map.1 hm
  have hp3 := List.mem_filter.1 hp1
  have hp4 := of_decide_eq_true hp3.2
  refine ⟨I[j], p.2, hx, by simp [List.getD, hx], by rw [← hp2]; exact hp3.1, by omega, fun hin => ?_, by rw [List.take_add_one, hx]; rfl⟩
  obtain ⟨i, hi, e⟩ := List.getElem_of_mem hin
  have hi2 : i < j := by have := hi; simp at this; omega
  rw [List.getElem_take] at e
  have := (List.getElem_inj hnd).1 e
  omega
set_option maxHeartbeats 8000000 in
set_option maxRecDepth 100000 in
theorem advance_any (wp now tt : Nat) (L : List Tm) (Y : Lay) (w : World) (h : Whl w wp now L Y) (htt : tt < 18446744073709551616) :
    Calls Try.prog 19 #[pw wp, .int .u64 (tt : Int)] w fun e w' => ∃ ao n c Y', e = .returned (.tuple #[.slice ao n c, .int .i64 (if tt < now then 70 else 0)]) ∧ Own w' w.heap.size (.slice ao n c) (((advD tt L).mergeSort leT).map (·.1)) ∧ (∀ g, (Value.slice ao n c).ownBlock = some g → g ∉ Y'.blocks wp) ∧ Whl w' wp (max now tt) (advL tt L) Y' ∧ Aft wp Y Y' w w' := by
  obtain ⟨S, hr, hok⟩ := h
  have c0 := hr.now
  by_cases hlt : tt < now
  · rw [if_pos hlt]
    have e1 : advD tt L = [] := by
      rw [advD, List.filter_eq_nil_iff]
      intro p hp
      have := (hok.big p hp).2.2
      simp; omega
    have e2 : advL tt L = L := by
      rw [advL, List.filter_eq_self]
      intro p hp
      have := (hok.big p hp).2.2
      simp; omega
    have HP : Hid (Own w w.heap.size (.slice none 0 0) (((advD tt L).mergeSort leT).map (·.1)) ∧ Whl w wp (max now tt) (advL tt L) Y) := by
      rw [e1, e2, show max now tt = now by omega]
      exact ⟨by simpa using own_nil w w.heap.size, S, hr, hok⟩
    have hlt' : (tt : Int) < (now : Int) := by omega
    generalize advD tt L = DD at *
    generalize advL tt L = LL at *
    clear hr hok hlt e1 e2 htt
    unfold pw
    go_enter Try.func19, Try.ntmps19
    go_wp2_with fail
    go_ret2
    exact ⟨none, 0, 0, Y, rfl, HP.out.1, fun g e => by (cases e), HP.out.2, Aft.refl _ _ _⟩
  · rw [if_neg hlt]
    have hlt' : ¬ (tt : Int) < (now : Int) := by omega
    rw [show max now tt = tt by omega]
    have hC := lift_any wp now tt L S Y w hr hok htt
    have HOK := hide hok
    have HTT := hide htt
    have HY := hide hr.lt
    have HSL := hide hr.slen
    have HX := hide (fun j hj => lifted (tt := tt) hok hr.slen (j := j) hj)
    have HST := hide (fun w2 v (h : LiftInv w w2 wp now L S Y v (slotN now tt + 1)) => ALoop.start h hok (by omega) hr.lt)
    have HOW := hide (fun w2 v (h : LiftInv w w2 wp now L S Y v (slotN now tt + 1)) => h.own)
    have HLB := hide (fun w2 v (h : LiftInv w w2 wp now L S Y v (slotN now tt + 1)) => show ∃ z, w2.cell? ⟨wp, 0, none⟩ = some (.int .u64 (z : Int)) ∧ w2.frozen? ⟨wp, 0, none⟩ = false by obtain ⟨Y1, h1, _⟩ := h.rep; exact ⟨now, h1.now, h1.box.frozen 0⟩)
    have HDN := hide (fun L' D S' (h : AInv now tt L (S.take (slotN now tt + 1)).flatten L' S' D) => h.done hok hr.slen htt)
    have HIL := hide (take_short hok (k := slotN now tt + 1) (by rw [hr.slen]; have := slotN_lt now tt; omega))
    have HC := hide hC
    generalize hI : (S.take (slotN now tt + 1)).flatten = I at *
    clear hr hok htt hC hI
    unfold pw at *
    go_enter Try.func19, Try.ntmps19
    go_wp2_with (go_at_call 35; refine HC.out.mono ?_; rintro e w2 ⟨iao, iN, ic, rfl, hli⟩; have HS2 := hide (HST.out w2 _ hli); have HO2 := hide (HOW.out w2 _ hli); obtain ⟨z, cz, fz⟩ := HLB.out w2 _ hli; clear hli c0)
    have HN : Hid (iN = I.length) := by
      obtain ⟨iao', ic', e1, -, -⟩ := HO2.out.read
      injection e1 with _ e2 _
    clear HC HST HOW HLB HO2 HY
    go_loopw [28, 7] (fun v28 v7 wr => ∃ (j : Nat) (ao : Option Addr) (n c : Nat), j ≤ iN ∧ v28 = .int .i64 (j : Int) ∧ v7 = .slice ao n c ∧ Hid (ALoop w wr wp now tt L Y I (.slice iao iN ic) (.slice ao n c) (I.take j))) (fun v28 _ _ => iN - (intOf v28).toNat)
    case atStart => exact ⟨0, none, 0, 0, by omega, rfl, rfl, HS2⟩
    case round =>
      clear HS2 cz fz
      obtain ⟨j, dao, dn, dc, hj, rfl, rfl, HA⟩ := hrel
      have hiN : (iN : Int) ≤ 8192 := by have := HN.out; have := HIL.out; omega
      by_cases hjn : j < iN
      · obtain ⟨L', S', D, Y', hP⟩ := HA.out
        obtain ⟨id, a, hx, hgd, hm, hk, hnin, htk⟩ := HX.out j (by have := HN.out; omega)
        obtain ⟨g, e1⟩ : ∃ g, iao = some ⟨g, 0, none⟩ := by
          rcases hP.ids.2 with ⟨e, _⟩ | ⟨g, cap, cur, e, _⟩
          · injection e with _ e2 _; omega
          · injection e with e1 _ _; exact ⟨g, e1⟩
        subst e1
        have hcell : wr.cell? ⟨g, j, none⟩ = some (.int .u64 (id : Int)) := by
          obtain ⟨ao', c', e, _, hrow⟩ := hP.ids.read
          injection e with e1 _ _
          subst e1
          have := hrow.cell j (by have := HN.out; omega)
          rw [hgd, Nat.zero_add] at this
          exact this
        have hbig := HOK.out.big _ hm
        simp only at hbig
        have c1 := hP.rep.mapc
        have hlk := hP.rep.map.look hbig.1
        rw [hP.inv.get HOK.out.rise hm hnin, Option.getD_some] at hlk
        have hjl : (j : Int) < (iN : Int) := by omega
        have HP := hide hP
        have HM := hide (show (id, a) ∈ L ∧ slotN now a ≤ slotN now tt ∧ id ∉ I.take j ∧ I.take (j + 1) = I.take j ++ [id] from ⟨hm, hk, hnin, htk⟩)
        have HBG := hide hbig
        clear hP hx hgd hm hk hnin htk hbig
        by_cases hd : tt < a
        · have hd' : (tt : Int) < (a : Int) := by omega
          obtain ⟨v, xs, hv, hxs, -⟩ := HP.out.rep.get (slotN_lt tt a)
          have HPL := hide (place_any wp tt id a L' S' Y' xs wr HP.out.rep HTT.out HBG.out.2.1 hxs (by have := HP.out.inv.slotLen HOK.out.len hxs; omega))
          have HXS := hide hxs
          clear hv hxs
          unfold pw at HPL
          go_wp2_with (go_at_call 32; refine HPL.out.mono ?_; rintro e w3 ⟨rfl, Y1, hr3, hA3⟩; have HL3 := hide (HP.out.place HOK.out.rise HM.out.1 HM.out.2.2.1 hd HM.out.2.1 HXS.out hr3 hA3); rw [← HM.out.2.2.2] at HL3; clear hr3 hA3)
          go_roundw
          case rel => exact ⟨j + 1, dao, dn, dc, by omega, by simp, rfl, HL3⟩
          case measure => simp [intOf]; omega
        · have hd' : ¬ (tt : Int) < (a : Int) := by omega
          have HDL := hide (HP.out.inv.dueLen HOK.out.len)
          have HT := hide (HP.out.due.keep (below_new wr (.cells #[.int .u64 (id : Int), .int .u64 (a : Int)] 80)))
          have HB := hide (Bl.new wr #[.int .u64 (id : Int), .int .u64 (a : Int)] 80)
          have HSZ : Hid (w.heap.size ≤ (wr.alloc (.cells #[.int .u64 (id : Int), .int .u64 (a : Int)] 80)).heap.size) := by show _ ≤ _; have := HP.out.fr.size; simp; omega
          have hda : a ≤ tt := by omega
          have HDA := hide hda
          clear hd hda
          go_wp2_with (first | (at_builtin; refine wpList_append_tm rfl _ _ rfl w.heap.size (.slice dao dn dc) D rfl HT.out wr.heap.size (id, a) rfl (HB.out.cell 0) (HB.out.cell 1) (by have := HDL.out; omega) HSZ.out ?_; intro v3 w3 h3 g3 l3; obtain ⟨ao3, n3, cap3, rfl⟩ := town_shape h3; have HT3 := hide h3; have HG3 := hide g3; have HL3 := hide l3; have HR3 := hide (HP.out.grown _ g3); have c13 := HR3.out.mapc; clear h3 g3 l3 c1 hlk hcell) | (at_delete; refine wpList_map_del rfl _ _ rfl Y'.mp L' id rfl HR3.out.map rfl HBG.out.1 ?_; intro w4 h4 f4; have HL4 := hide (HP.out.told HOK.out.rise HM.out.1 HM.out.2.2.1 HDA.out _ HG3.out HT3.out HL3.out h4 f4); rw [← HM.out.2.2.2] at HL4; clear h4 f4 c13))
          go_roundw
          case rel => exact ⟨j + 1, ao3, n3, cap3, by omega, by simp, rfl, HL4⟩
          case measure => simp [intOf]; omega
      · have hjl : ¬ (j : Int) < (iN : Int) := by omega
        obtain ⟨L', S', D, Y', hP⟩ := HA.out
        have hI : I.take j = I := List.take_of_length_le (by have := HN.out; omega)
        rw [hI] at hP
        obtain ⟨e1, e2, e3⟩ := HDN.out L' D S' hP.inv
        have HCI := hide (inOrder_any (.slice dao dn dc) D wr (hP.due.lower (Nat.zero_le _)) (by have := hP.inv.dueLen HOK.out.len; omega))
        rw [merge_perm e2] at HCI
        have HE : Hid (∀ w3 ao n c, Own w3 wr.heap.size (.slice ao n c) (((advD tt L).mergeSort leT).map (·.1)) → Fr (vb (.slice dao dn dc)) wr w3 → Own w3 w.heap.size (.slice ao n c) (((advD tt L).mergeSort leT).map (·.1)) ∧ (∀ g, (Value.slice ao n c).ownBlock = some g → g ∉ Y'.blocks wp) ∧ Whl w3 wp tt (advL tt L) Y' ∧ Aft wp Y Y' w w3) := fun w3 ao n c h1 h2 => by
          refine ⟨h1.lower hP.fr.size, fun g hg hb => ?_, ⟨S', ?_, by rw [← e1]; exact e3⟩, hP.fr.trans h2 fun x hx => .inr ((hP.due.lt x (mem_vb.1 hx)).1), hP.new⟩
          · have k1 := (h1.lt g hg).1
            have k2 := hP.rep.lt g hb
            omega
          · rw [← e1]
            exact hP.rep.apartFr h2 fun b hb hm => hP.dun b (mem_vb.1 hm) hb
        clear hP hI e1 e2 e3 HA HDN HX
        go_wp2_with (go_at_call 36; refine HCI.out.mono ?_; rintro e w3 ⟨ao3, n3, c3, rfl, h3, f3⟩; have HH := hide (HE.out w3 ao3 n3 c3 h3 f3); clear h3 f3)
        go_ret2
        exact ⟨ao3, n3, c3, Y', rfl, HH.out⟩
end Go.Proofs.Ytmngmkbiibhmkaa
