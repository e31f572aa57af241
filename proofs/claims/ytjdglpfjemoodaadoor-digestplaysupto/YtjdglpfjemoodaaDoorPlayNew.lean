/- A step of the script: New. -/
import Derived.Test.YtjdglpfjemoodaaDoorPlayMath
namespace Go.Proofs.YtjdglpfjemoodaaDoor
open Go.RowKit
set_option linter.unusedSimpArgs false in
set_option maxHeartbeats 4000000 in
set_option maxRecDepth 100000 in
theorem played_new (h t : Int) (po : Option Addr) (m c B lid : Nat) (f : Nat → Slot) (w : World) (hh : -9223372036854775808 ≤ h ∧ h ≤ 9223372036854775807) (ht : -9223372036854775808 ≤ t ∧ t ≤ 9223372036854775807) (hF : Fits w B lid f) (hB : B ≤ w.heap.size) :
    Calls Tryd.prog 19 #[.agg #[.int .i64 1, .int .i64 h, .int .i64 t, .slice po m c], .agg (hcells f).toArray, .agg (rcells f).toArray] w fun e w' => ∃ f', e = .returned (.tuple #[.agg (hcells f').toArray, .agg (rcells f').toArray, .bool true]) ∧ Hid (Fits w' B (lid + m) f' ∧ Below B w w' ∧ Kept f w w' ∧ ∀ p, p < w.heap.size → Free f p → Free f' p) := by
  have HF : Hid (Fits w B lid f) := hF
  obtain ⟨hh1, hh2⟩ := hh
  obtain ⟨ht1, ht2⟩ := ht
  have hz1 := (zero_of_info zeroP4info).1
  have hz2 := (zero_of_info zeroR4info).1
  obtain ⟨wa, hwa⟩ : ∃ x, x = start w 1 h t po m c f := ⟨_, rfl⟩
  have X0 : Hid (Fr wa w.heap.size 1 h t po m c f) := by rw [hwa]; exact start_fr w 1 h t po m c f fun j hj => (hF.each j hj).row10
  have HBA : Hid (Below w.heap.size w wa) := by rw [hwa]; exact start_below w 1 h t po m c f
  unfold start at hwa
  clear hF
  have c0 := X0.out.c0
  have c1 := X0.out.c1
  have c2 := X0.out.c2
  have hsl := slotOf_lt h
  have hst := slotOf_lt t
  go_enter Tryd.func19, Tryd.ntmps19
  go_upto_region 1 with fail
  rw [← hwa]
  clear hwa
  go_quiet ((go_at_call 45; exact Calls.quiet_of_same (slot_any _ _ (by assumption) (by assumption))))
  generalize slotOf h = i at *
  generalize slotOf t = j at *
  rw [show w.heap.size + 1 + 1 + 1 + 1 = w.heap.size + 4 from rfl, show w.heap.size + 1 + 1 + 1 = w.heap.size + 3 from rfl, show w.heap.size + 1 + 1 = w.heap.size + 2 from rfl]
  obtain ⟨wb, hwb⟩ : ∃ x, x = wa.drewN nq := ⟨_, rfl⟩
  rw [← hwb]
  have X1 : Hid (Fr wb w.heap.size 1 h t po m c f) := by rw [hwb]; exact X0.out.keep (below_drewN (Below.refl _ _) nq)
  have HBB : Hid (Below w.heap.size w wb) := by rw [hwb]; exact below_drewN HBA.out nq
  clear hwb c0 c1 c2 X0 HBA
  have c0 := X1.out.c0
  go_wp2_with fail
  refine (newState_any wb).mono ?_
  rintro e w1 ⟨g1, rfl, h1⟩
  have X2 : Hid (Fr w1 w.heap.size 1 h t po m c f) := X1.out.keep h1.out.2.2.2
  have fr2 := X2.out.hs.frozen i
  have cc2 := X2.out.hcell i hsl
  go_upto_region 5 with fail
  obtain ⟨u1, hu1⟩ : ∃ y : Slot, y = { f i with g := g1 } := ⟨_, rfl⟩
  have hug : hptr u1 = .pointer (some ⟨g1, 0, none⟩) := by rw [hu1]; rfl
  obtain ⟨w2, hw2⟩ : ∃ x, x = w1.setCell ⟨w.heap.size + 1, i, none⟩ (.pointer (some ⟨g1, 0, none⟩)) := ⟨_, rfl⟩
  rw [← hw2]
  have X3 : Hid (Fr w2 w.heap.size 1 h t po m c (upd f i u1)) := by rw [hw2, ← hug]; exact X2.out.hput i hsl u1 (by rw [hu1]; rfl)
  have hq1 : w.heap.size + 5 ≤ g1 := Nat.le_trans X1.out.lt h1.out.1
  have HS2 : Hid (HState w2 g1 first8 0 []) := by rw [hw2]; exact h1.out.2.2.1.but (But.setCell _ _ _ _) (by omega)
  have HF2 : Hid (Fits w2 B lid f) := by
    rw [hw2]
    refine ((HF.out.keep HBB.out).keep h1.out.2.2.2).but (But.setCell _ _ _ _) ?_ ?_
    · intro a ha; have := (HF.out.clear a ha).1; have := (HF.out.each a ha).st.lt; omega
    · intro a ha hne b hb; have := (HF.out.each a ha).old hne b hb; omega
  have HB2 : Hid (Below w.heap.size w w2) := by rw [hw2]; exact (HBB.out.trans (h1.out.2.2.2.mono HBB.out.size)).trans ((But.setCell _ _ _ _).below (by omega) (Nat.le_trans HBB.out.size h1.out.2.2.2.size))
  have HU1 : Hid (u1.g = g1) := by rw [hu1]; exact rfl
  clear hw2 fr2 cc2 c0 X2 X1 h1 HBB hug hu1
  go_wp2_with fail
  refine (refNew_any w2).mono ?_
  rintro e w3 ⟨rfl, h3⟩
  obtain ⟨v, hv⟩ : ∃ y : Slot, y = ⟨g1, first8, 0, 0, 0, none, []⟩ := ⟨_, rfl⟩
  have HVR : Hid (rhash first8 0 (.slice none 0 0) = v.row) := by show _ = _; rw [hv]; rfl
  have HV10 : Hid (v.row.length = 10) := by show _ = _; rw [← HVR.out]; rfl
  replace hv := hide hv
  rw [HVR.out]
  have X4 : Hid (Fr w3 w.heap.size 1 h t po m c (upd f i u1)) := X3.out.keep h3
  go_upto_region 44 with (first | (refine wpList_rput rfl rfl _ _ rfl X4.out i hsl v HV10.out rfl rfl ?_) | fail)
  obtain ⟨wz, hwz⟩ : ∃ x, x = w3.setCells (w.heap.size + 2) (i * 10) v.row := ⟨_, rfl⟩
  rw [← hwz]
  have XZ : Hid (Fr wz w.heap.size 1 h t po m c (upd f i v)) := by
    have := X4.out.rput i hsl v (by rw [upd_same, HU1.out, hv.out]) HV10.out
    rw [upd_upd] at this
    rw [hwz]; exact this
  have HCZ : Hid (Clear w.heap.size (upd f i v)) := HF.out.clear.put ⟨.inr (by rw [hv.out]; exact hq1), fun hne => absurd (by rw [hv.out]) hne⟩
  have HFZ : Hid (Fits wz B (lid + m) (upd f i v)) := by
    have hb : But (w.heap.size + 2) w3 wz := by rw [hwz]; exact But.setCells _ _ _ _
    have h0 : Fits wz B lid f := by
      refine (HF2.out.keep h3).but hb ?_ ?_
      · intro a ha; have := (HF.out.each a ha).st.lt; omega
      · intro a ha hne b hb; have := (HF.out.each a ha).old hne b hb; omega
    refine (h0.put (q := v) (i := i) ?_ ?_ ?_ ?_ ?_).up (by omega)
    · refine ⟨?_, ?_, ?_, ?_, ?_, ?_, ?_, ?_, ?_⟩
      · rw [hv.out]; exact (HS2.out.keep h3).but hb (by omega)
      · rw [hv.out]; exact first8_lt
      · intro _; rw [hv.out]
      · rw [hv.out]; rfl
      · rw [hv.out]; exact Nat.le_refl _
      · rw [hv.out]; exact .inl rfl
      · rw [hv.out]; exact Nat.zero_le _
      · rw [hv.out]; exact Nat.zero_le _
      · rw [hv.out]; show B ≤ g1; omega
    · intro a ha _; have := (HF.out.each a ha).st.lt; rw [hv.out]; show (f a).g ≠ g1; omega
    · intro a ha _ hne b hb; have := (HF.out.each a ha).old hne b hb; rw [hv.out]; show b.block ≠ g1; omega
    · intro a ha _ hne; exact absurd (by rw [hv.out]) hne
    · intro hne; exact absurd (by rw [hv.out]) hne
  have HKZ : Hid (Kept f w wz) := by
    rw [hwz]
    exact Kept.of ((HB2.out.trans (h3.mono HB2.out.size)).trans (below_setCells (by omega) _ _))
  have HBZ : Hid (Below B w wz) := by
    rw [hwz]
    exact ((HB2.out.trans (h3.mono HB2.out.size)).trans (below_setCells (by omega) _ _)).mono hB
  clear hwz
  refine region_held_var (Two w.heap.size (upd f i v)) (by kernel_rfl) ?_
  intro A hA
  have hsz : A.tmps.size = 212 := by rw [hA]; rfl
  have e4 : A.eval (.tmp 4) = .pointer (some ⟨w.heap.size + 1, 0, none⟩) := by rw [hA]; rfl
  have e5 : A.eval (.tmp 5) = .pointer (some ⟨w.heap.size + 2, 0, none⟩) := by rw [hA]; rfl
  have e6 : A.eval (.tmp 6) = .pointer (some ⟨w.heap.size + 3, 0, none⟩) := by rw [hA]; rfl
  have e7 : A.eval (.tmp 7) = .pointer (some ⟨w.heap.size + 4, 0, none⟩) := by rw [hA]; rfl
  have XD := XZ.out.keep (show Below wz.heap.size wz wz.drew from (Below.refl _ _).drew)
  refine heldRun (i := 0) 210 (.agg (hcells (upd f i v)).toArray) rfl rfl (by kernel_rfl) (by kernel_rfl) (by kernel_rfl) (fun _ _ _ h => h) rfl (fun w hSw => by unfold execOp; simp [e4]; rw [hall_of hSw.1]; rfl) XD.two ?_
  refine heldRun (i := 1) 211 (.agg (rcells (upd f i v)).toArray) rfl rfl (by kernel_rfl) (by kernel_rfl) (by kernel_rfl) (fun _ _ _ h => h) rfl (fun w hSw => by unfold execOp; simp [ev_put, hsz, sz_put, e5]; rw [rall_of hSw.2 XD.ten]; rfl) XD.two ?_
  refine heldStore (i := 2) rfl rfl (by kernel_rfl) rfl (by unfold execOp; simp [ev_put, hsz, sz_put, e6]; rw [XD.out]; rfl) (XD.two.put3 (.inl rfl) _) ?_
  refine heldStore (i := 3) rfl rfl (by kernel_rfl) rfl (by unfold execOp; simp [ev_put, hsz, sz_put, e7]; rw [XD.out2]; rfl) ((XD.two.put3 (.inl rfl) _).put3 (.inr rfl) _) ?_
  refine heldRun (i := 4) 8 (.bool true) rfl rfl (by kernel_rfl) (by kernel_rfl) (by kernel_rfl) (fun _ _ _ h => h) rfl (fun w hSw => by unfold execOp; rfl) ((XD.two.put3 (.inl rfl) _).put3 (.inr rfl) _) ?_
  refine wpAnyH_done (by kernel_rfl) ?_ _
  subst hA
  simp only [put_mk, List.set_cons_succ, List.set_cons_zero]
  go_wp2
  refine bodyPost_ret (results_cells_tmp rfl _ _ (w.heap.size + 3) (w.heap.size + 4) 35 42 (hcells (upd f i v)).toArray (rcells (upd f i v)).toArray (0, 0) (0, 0) _ _ _ _ rfl ((XD.oh.setRow _).setRow_other (by omega) _) Tryd.underlying35 (by rw [(zero_of_info zeroP4info).2]; rfl) rfl ((XD.or.setRow_other (by omega) _).setRow _) Tryd.underlying42 (by rw [(zero_of_info zeroR4info).2, List.size_toArray, rcells_length _ XD.ten])) rfl ⟨(upd f i v), rfl, fin_ok (HFZ.out.keep (Below.refl _ _).drew) HCZ.out _ _, fin_below (HBZ.out.trans (below_drewN (Below.refl _ _) 1)) hB _ _, fin_kept (fun x hx hn => HKZ.out x hx hn) _ _, fun p hp h => h.put (by rw [hv.out]; show g1 ≠ p; omega) (fun hne => absurd (by rw [hv.out]) hne)⟩
end Go.Proofs.YtjdglpfjemoodaaDoor
/- A step of the script: any other kind. -/
namespace Go.Proofs.YtjdglpfjemoodaaDoor
open Go.RowKit
set_option linter.unusedSimpArgs false in
set_option maxHeartbeats 4000000 in
set_option maxRecDepth 100000 in
theorem played_else (k : Int) (h t : Int) (po : Option Addr) (m c B lid : Nat) (f : Nat → Slot) (w : World) (hh : -9223372036854775808 ≤ h ∧ h ≤ 9223372036854775807) (ht : -9223372036854775808 ≤ t ∧ t ≤ 9223372036854775807) (hF : Fits w B lid f) (hB : B ≤ w.heap.size) (hk : k ≠ 1 ∧ k ≠ 2 ∧ k ≠ 3 ∧ k ≠ 4 ∧ k ≠ 5 ∧ k ≠ 6 ∧ k ≠ 7 ∧ k ≠ 8) :
    Calls Tryd.prog 19 #[.agg #[.int .i64 k, .int .i64 h, .int .i64 t, .slice po m c], .agg (hcells f).toArray, .agg (rcells f).toArray] w fun e w' => ∃ f', e = .returned (.tuple #[.agg (hcells f').toArray, .agg (rcells f').toArray, .bool true]) ∧ Hid (Fits w' B (lid + m) f' ∧ Below B w w' ∧ Kept f w w' ∧ ∀ p, p < w.heap.size → Free f p → Free f' p) := by
  have HF : Hid (Fits w B lid f) := hF
  obtain ⟨hh1, hh2⟩ := hh
  obtain ⟨ht1, ht2⟩ := ht
  have hz1 := (zero_of_info zeroP4info).1
  have hz2 := (zero_of_info zeroR4info).1
  have b1 : (k == 1) = false := by rw [beq_eq_false_iff_ne]; omega
  have b2 : (k == 2) = false := by rw [beq_eq_false_iff_ne]; omega
  have b3 : (k == 3) = false := by rw [beq_eq_false_iff_ne]; omega
  have b4 : (k == 4) = false := by rw [beq_eq_false_iff_ne]; omega
  have b5 : (k == 5) = false := by rw [beq_eq_false_iff_ne]; omega
  have b6 : (k == 6) = false := by rw [beq_eq_false_iff_ne]; omega
  have b7 : (k == 7) = false := by rw [beq_eq_false_iff_ne]; omega
  have b8 : (k == 8) = false := by rw [beq_eq_false_iff_ne]; omega
  obtain ⟨wa, hwa⟩ : ∃ x, x = start w k h t po m c f := ⟨_, rfl⟩
  have X0 : Hid (Fr wa w.heap.size k h t po m c f) := by rw [hwa]; exact start_fr w k h t po m c f fun j hj => (hF.each j hj).row10
  have HBA : Hid (Below w.heap.size w wa) := by rw [hwa]; exact start_below w k h t po m c f
  unfold start at hwa
  clear hF
  have c0 := X0.out.c0
  have c1 := X0.out.c1
  have c2 := X0.out.c2
  have hsl := slotOf_lt h
  have hst := slotOf_lt t
  go_enter Tryd.func19, Tryd.ntmps19
  go_upto_region 1 with fail
  rw [← hwa]
  clear hwa
  go_quiet ((go_at_call 45; exact Calls.quiet_of_same (slot_any _ _ (by assumption) (by assumption))))
  generalize slotOf h = i at *
  generalize slotOf t = j at *
  rw [show w.heap.size + 1 + 1 + 1 + 1 = w.heap.size + 4 from rfl, show w.heap.size + 1 + 1 + 1 = w.heap.size + 3 from rfl, show w.heap.size + 1 + 1 = w.heap.size + 2 from rfl]
  obtain ⟨wb, hwb⟩ : ∃ x, x = wa.drewN nq := ⟨_, rfl⟩
  rw [← hwb]
  have X1 : Hid (Fr wb w.heap.size k h t po m c f) := by rw [hwb]; exact X0.out.keep (below_drewN (Below.refl _ _) nq)
  have HBB : Hid (Below w.heap.size w wb) := by rw [hwb]; exact below_drewN HBA.out nq
  clear hwb c0 c1 c2 X0 HBA hh1 hh2 ht1 ht2
  have c0 := X1.out.c0
  go_upto_region 44 with fail
  obtain ⟨wz, hwz⟩ : ∃ x, x = wb := ⟨_, rfl⟩
  rw [← hwz]
  have XZ : Hid (Fr wz w.heap.size k h t po m c f) := by rw [hwz]; exact X1
  have HFZ : Hid (Fits wz B (lid + m) f) := by rw [hwz]; exact (HF.out.keep HBB.out).up (by omega)
  have HCZ : Hid (Clear w.heap.size f) := HF.out.clear
  have HBZ : Hid (Below B w wz) := by rw [hwz]; exact HBB.out.mono hB
  have HKZ : Hid (Kept f w wz) := by rw [hwz]; exact Kept.of HBB.out
  have HFR : Hid (∀ p, p < w.heap.size → Free f p → Free f p) := fun _ _ h => h
  clear hwz
  refine region_held_var (Two w.heap.size f) (by kernel_rfl) ?_
  intro A hA
  have hsz : A.tmps.size = 212 := by rw [hA]; rfl
  have e4 : A.eval (.tmp 4) = .pointer (some ⟨w.heap.size + 1, 0, none⟩) := by rw [hA]; rfl
  have e5 : A.eval (.tmp 5) = .pointer (some ⟨w.heap.size + 2, 0, none⟩) := by rw [hA]; rfl
  have e6 : A.eval (.tmp 6) = .pointer (some ⟨w.heap.size + 3, 0, none⟩) := by rw [hA]; rfl
  have e7 : A.eval (.tmp 7) = .pointer (some ⟨w.heap.size + 4, 0, none⟩) := by rw [hA]; rfl
  have XD : Hid (Fr wz.drew w.heap.size k h t po m c f) := XZ.out.keep (Below.refl _ _).drew
  have HFD : Hid (Fits wz.drew B (lid + m) f) := HFZ.out.keep (Below.refl _ _).drew
  have HBD : Hid (Below B w wz.drew) := below_drewN HBZ.out 1
  have HKD : Hid (Kept f w wz.drew) := fun x hx hn => HKZ.out x hx hn
  refine heldRun (i := 0) 210 (.agg (hcells f).toArray) rfl rfl (by kernel_rfl) (by kernel_rfl) (by kernel_rfl) (fun _ _ _ h => h) rfl (fun w hSw => by unfold execOp; simp [ev_put, hsz, sz_put, e4, e5, e6, e7]; rw [hall_of hSw.1]; rfl) (XD.out.two) ?_
  refine heldRun (i := 1) 211 (.agg (rcells f).toArray) rfl rfl (by kernel_rfl) (by kernel_rfl) (by kernel_rfl) (fun _ _ _ h => h) rfl (fun w hSw => by unfold execOp; simp [ev_put, hsz, sz_put, e4, e5, e6, e7]; rw [rall_of hSw.2 XD.out.ten]; rfl) (XD.out.two) ?_
  refine heldStore (i := 2) rfl rfl (by kernel_rfl) rfl (by unfold execOp; simp [ev_put, hsz, sz_put, e4, e5, e6, e7]; rw [XD.out.out]; rfl) (XD.out.two.put3 (.inl rfl) _) ?_
  refine heldStore (i := 3) rfl rfl (by kernel_rfl) rfl (by unfold execOp; simp [ev_put, hsz, sz_put, e4, e5, e6, e7]; rw [XD.out.out2]; rfl) ((XD.out.two.put3 (.inl rfl) _).put3 (.inr rfl) _) ?_
  refine heldRun (i := 4) 8 (.bool true) rfl rfl (by kernel_rfl) (by kernel_rfl) (by kernel_rfl) (fun _ _ _ h => h) rfl (fun w hSw => by unfold execOp; rfl) ((XD.out.two.put3 (.inl rfl) _).put3 (.inr rfl) _) ?_
  refine wpAnyH_done (by kernel_rfl) ?_ _
  subst hA
  simp only [put_mk, List.set_cons_succ, List.set_cons_zero]
  go_wp2
  refine bodyPost_ret (results_cells_tmp rfl _ _ (w.heap.size + 3) (w.heap.size + 4) 35 42 (hcells f).toArray (rcells f).toArray (0, 0) (0, 0) _ _ _ _ rfl ((XD.out.oh.setRow _).setRow_other (by omega) _) Tryd.underlying35 (by rw [(zero_of_info zeroP4info).2]; rfl) rfl ((XD.out.or.setRow_other (by omega) _).setRow _) Tryd.underlying42 (by rw [(zero_of_info zeroR4info).2, List.size_toArray, rcells_length _ XD.out.ten])) rfl ⟨f, rfl, fin_ok HFD.out HCZ.out _ _, fin_below HBD.out hB _ _, fin_kept HKD.out _ _, HFR.out⟩
end Go.Proofs.YtjdglpfjemoodaaDoor
