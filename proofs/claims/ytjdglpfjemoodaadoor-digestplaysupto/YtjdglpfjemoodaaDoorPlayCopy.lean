/- A step of the script: Copy. -/
import Derived.Test.YtjdglpfjemoodaaDoorPlayMath
import Derived.Test.YtjdglpfjemoodaaDoorCopyFn
namespace Go.Proofs.YtjdglpfjemoodaaDoor
open Go.RowKit
set_option linter.unusedSimpArgs false in
set_option maxHeartbeats 4000000 in
set_option maxRecDepth 100000 in
theorem played_copy (h t : Int) (po : Option Addr) (m c B lid : Nat) (f : Nat → Slot) (w : World) (hh : -9223372036854775808 ≤ h ∧ h ≤ 9223372036854775807) (ht : -9223372036854775808 ≤ t ∧ t ≤ 9223372036854775807) (hF : Fits w B lid f) (hB : B ≤ w.heap.size) :
    Calls Tryd.prog 19 #[.agg #[.int .i64 5, .int .i64 h, .int .i64 t, .slice po m c], .agg (hcells f).toArray, .agg (rcells f).toArray] w fun e w' => ∃ f', e = .returned (.tuple #[.agg (hcells f').toArray, .agg (rcells f').toArray, .bool true]) ∧ Hid (Fits w' B (lid + m) f' ∧ Below B w w' ∧ Kept f w w' ∧ ∀ p, p < w.heap.size → Free f p → Free f' p) := by
  have HF : Hid (Fits w B lid f) := hF
  obtain ⟨hh1, hh2⟩ := hh
  obtain ⟨ht1, ht2⟩ := ht
  have hz1 := (zero_of_info zeroP4info).1
  have hz2 := (zero_of_info zeroR4info).1
  obtain ⟨wa, hwa⟩ : ∃ x, x = start w 5 h t po m c f := ⟨_, rfl⟩
  have X0 : Hid (Fr wa w.heap.size 5 h t po m c f) := by rw [hwa]; exact start_fr w 5 h t po m c f fun j hj => (hF.each j hj).row10
  have HBA : Hid (Below w.heap.size w wa) := by rw [hwa]; exact start_below w 5 h t po m c f
  unfold start at hwa
  clear hF
  have c0 := X0.out.c0
  have c1 := X0.out.c1
  have c2 := X0.out.c2
  have hsl := slotOf_lt h
  have hst := slotOf_lt t
  go_enter Tryd.func19, Tryd.ntmps19
  go_upto_region 1 with fail
  rw [← hwa]
  clear hwa
  go_quiet ((go_at_call 45; exact Calls.quiet_of_same (slot_any _ _ (by assumption) (by assumption))))
  generalize slotOf h = i at *
  generalize slotOf t = j at *
  rw [show w.heap.size + 1 + 1 + 1 + 1 = w.heap.size + 4 from rfl, show w.heap.size + 1 + 1 + 1 = w.heap.size + 3 from rfl, show w.heap.size + 1 + 1 = w.heap.size + 2 from rfl]
  obtain ⟨wb, hwb⟩ : ∃ x, x = wa.drewN nq := ⟨_, rfl⟩
  rw [← hwb]
  have X1 : Hid (Fr wb w.heap.size 5 h t po m c f) := by rw [hwb]; exact X0.out.keep (below_drewN (Below.refl _ _) nq)
  have HBB : Hid (Below w.heap.size w wb) := by rw [hwb]; exact below_drewN HBA.out nq
  clear hwb c0 c1 c2 X0 HBA hh1 hh2 ht1 ht2
  have c0 := X1.out.c0
  have cc1 := X1.out.hcell i hsl
  go_wp2_with fail
  refine (copy_any (f i).g (f i).past (f i).r (f i).bs wb ((HF.out.each i hsl).keep HBB.out).st).mono ?_
  rintro e w1 ⟨g1, rfl, h1⟩
  have X2 : Hid (Fr w1 w.heap.size 5 h t po m c f) := X1.out.keep h1.out.2.2.2
  have fr2 := X2.out.hs.frozen j
  have cc2 := X2.out.hcell j hst
  go_upto_region 22 with fail
  obtain ⟨u1, hu1⟩ : ∃ y : Slot, y = { f j with g := g1 } := ⟨_, rfl⟩
  have hug : hptr u1 = .pointer (some ⟨g1, 0, none⟩) := by rw [hu1]; rfl
  obtain ⟨w2, hw2⟩ : ∃ x, x = w1.setCell ⟨w.heap.size + 1, j, none⟩ (.pointer (some ⟨g1, 0, none⟩)) := ⟨_, rfl⟩
  rw [← hw2]
  have X3 : Hid (Fr w2 w.heap.size 5 h t po m c (upd f j u1)) := by rw [hw2, ← hug]; exact X2.out.hput j hst u1 (by rw [hu1]; rfl)
  have hq1 : w.heap.size + 5 ≤ g1 := Nat.le_trans X1.out.lt h1.out.1
  have HS2 : Hid (HState w2 g1 (f i).r (f i).past (f i).bs) := by rw [hw2]; exact h1.out.2.2.1.but (But.setCell _ _ _ _) (by omega)
  have HF2 : Hid (Fits w2 B lid f) := by
    rw [hw2]
    refine ((HF.out.keep HBB.out).keep h1.out.2.2.2).but (But.setCell _ _ _ _) ?_ ?_
    · intro a ha; have := (HF.out.each a ha).st.lt; omega
    · intro a ha hne b hb; have := (HF.out.each a ha).old hne b hb; omega
  have HB2 : Hid (Below w.heap.size w w2) := by rw [hw2]; exact (HBB.out.trans (h1.out.2.2.2.mono HBB.out.size)).trans ((But.setCell _ _ _ _).below (by omega) (Nat.le_trans HBB.out.size h1.out.2.2.2.size))
  obtain ⟨v, hv⟩ : ∃ y : Slot, y = { f i with g := g1 } := ⟨_, rfl⟩
  have HVR : Hid ((f i).row = v.row) := by show _ = _; rw [hv]; rfl
  have HV10 : Hid (v.row.length = 10) := by show _ = _; rw [← HVR.out]; exact (HF.out.each i hsl).row10
  have HUI : Hid ((upd f j u1 i).row = v.row) := by
    show _ = _
    by_cases e : i = j
    · rw [e, upd_same, ← HVR.out, e, hu1]; rfl
    · rw [upd_other f u1 e]; exact HVR.out
  have HU1 : Hid (u1.g = g1) := by rw [hu1]; exact rfl
  have HVG : Hid (v.g = g1) := by rw [hv]; exact rfl
  have HVB : Hid (v.bs = (f i).bs ∧ v.ao = (f i).ao) := by rw [hv]; exact ⟨rfl, rfl⟩
  replace hv := hide hv
  clear hw2 fr2 cc2 cc1 c0 X2 X1 h1 HBB hug hu1
  go_upto_region 44 with (first
    | (refine wpList_rget rfl _ rfl X3.out i hsl v.row HUI.out rfl ?_)
    | (refine wpList_rput rfl rfl _ _ rfl X3.out j hst v HV10.out rfl rfl ?_)
    | fail)
  obtain ⟨wz, hwz⟩ : ∃ x, x = w2.setCells (w.heap.size + 2) (j * 10) v.row := ⟨_, rfl⟩
  rw [← hwz]
  have XZ : Hid (Fr wz w.heap.size 5 h t po m c (upd f j v)) := by
    have := X3.out.rput j hst v (by rw [upd_same, HU1.out, HVG.out]) HV10.out
    rw [upd_upd] at this
    rw [hwz]; exact this
  have HOL : Hid (v.bs ≠ [] → ∀ a, v.ao = some a → a.block < w.heap.size) := fun hne a ha => by
    rw [HVB.out.1] at hne
    rw [HVB.out.2] at ha
    exact (HF.out.each i hsl).old hne a ha
  have HCZ : Hid (Clear w.heap.size (upd f j v)) := HF.out.clear.put ⟨.inr (by rw [HVG.out]; exact hq1), fun hne a ha => .inl (HOL.out hne a ha)⟩
  have HFZ : Hid (Fits wz B (lid + m) (upd f j v)) := by
    have hb : But (w.heap.size + 2) w2 wz := by rw [hwz]; exact But.setCells _ _ _ _
    have h0 : Fits wz B lid f := by
      refine HF2.out.but hb ?_ ?_
      · intro a ha; have := (HF.out.each a ha).st.lt; omega
      · intro a ha hne b hb; have := (HF.out.each a ha).old hne b hb; omega
    have hi := h0.each i hsl
    refine (h0.put (q := v) (i := j) ?_ ?_ ?_ ?_ ?_).up (by omega)
    · rw [hv.out]
      exact ⟨HS2.out.but hb (by omega), hi.lt, hi.zero, hi.len, hi.cap, hi.row, hi.past, hi.lid, by show B ≤ g1; omega⟩
    · intro a ha _; have := (HF.out.each a ha).st.lt; rw [HVG.out]; omega
    · intro a ha _ hne b hb; have := (HF.out.each a ha).old hne b hb; rw [HVG.out]; omega
    · intro a ha _ hne b hb; rw [HVB.out.1] at hne; rw [HVB.out.2] at hb; exact h0.aside i a hsl ha hne b hb
    · intro hne b hb; have := HOL.out hne b hb; rw [HVG.out]; omega
  have HBZ : Hid (Below B w wz) := by
    rw [hwz]
    exact (HB2.out.trans (below_setCells (by omega) _ _)).mono hB
  have HKZ : Hid (Kept f w wz) := by
    rw [hwz]
    exact Kept.of (HB2.out.trans (below_setCells (by omega) _ _))
  have HFR : Hid (∀ p, p < w.heap.size → Free f p → Free (upd f j v) p) := fun p hp h => h.put (by rw [HVG.out]; omega) (fun hne b hb => (h i hsl).2 (by rw [← HVB.out.1]; exact hne) b (by rw [← HVB.out.2]; exact hb))
  clear hwz
  refine region_held_var (Two w.heap.size (upd f j v)) (by kernel_rfl) ?_
  intro A hA
  have hsz : A.tmps.size = 212 := by rw [hA]; rfl
  have e4 : A.eval (.tmp 4) = .pointer (some ⟨w.heap.size + 1, 0, none⟩) := by rw [hA]; rfl
  have e5 : A.eval (.tmp 5) = .pointer (some ⟨w.heap.size + 2, 0, none⟩) := by rw [hA]; rfl
  have e6 : A.eval (.tmp 6) = .pointer (some ⟨w.heap.size + 3, 0, none⟩) := by rw [hA]; rfl
  have e7 : A.eval (.tmp 7) = .pointer (some ⟨w.heap.size + 4, 0, none⟩) := by rw [hA]; rfl
  have XD : Hid (Fr wz.drew w.heap.size 5 h t po m c (upd f j v)) := XZ.out.keep (Below.refl _ _).drew
  have HFD : Hid (Fits wz.drew B (lid + m) (upd f j v)) := HFZ.out.keep (Below.refl _ _).drew
  have HBD : Hid (Below B w wz.drew) := below_drewN HBZ.out 1
  have HKD : Hid (Kept f w wz.drew) := fun x hx hn => HKZ.out x hx hn
  refine heldRun (i := 0) 210 (.agg (hcells (upd f j v)).toArray) rfl rfl (by kernel_rfl) (by kernel_rfl) (by kernel_rfl) (fun _ _ _ h => h) rfl (fun w hSw => by unfold execOp; simp [ev_put, hsz, sz_put, e4, e5, e6, e7]; rw [hall_of hSw.1]; rfl) (XD.out.two) ?_
  refine heldRun (i := 1) 211 (.agg (rcells (upd f j v)).toArray) rfl rfl (by kernel_rfl) (by kernel_rfl) (by kernel_rfl) (fun _ _ _ h => h) rfl (fun w hSw => by unfold execOp; simp [ev_put, hsz, sz_put, e4, e5, e6, e7]; rw [rall_of hSw.2 XD.out.ten]; rfl) (XD.out.two) ?_
  refine heldStore (i := 2) rfl rfl (by kernel_rfl) rfl (by unfold execOp; simp [ev_put, hsz, sz_put, e4, e5, e6, e7]; rw [XD.out.out]; rfl) (XD.out.two.put3 (.inl rfl) _) ?_
  refine heldStore (i := 3) rfl rfl (by kernel_rfl) rfl (by unfold execOp; simp [ev_put, hsz, sz_put, e4, e5, e6, e7]; rw [XD.out.out2]; rfl) ((XD.out.two.put3 (.inl rfl) _).put3 (.inr rfl) _) ?_
  refine heldRun (i := 4) 8 (.bool true) rfl rfl (by kernel_rfl) (by kernel_rfl) (by kernel_rfl) (fun _ _ _ h => h) rfl (fun w hSw => by unfold execOp; rfl) ((XD.out.two.put3 (.inl rfl) _).put3 (.inr rfl) _) ?_
  refine wpAnyH_done (by kernel_rfl) ?_ _
  subst hA
  simp only [put_mk, List.set_cons_succ, List.set_cons_zero]
  go_wp2
  refine bodyPost_ret (results_cells_tmp rfl _ _ (w.heap.size + 3) (w.heap.size + 4) 35 42 (hcells (upd f j v)).toArray (rcells (upd f j v)).toArray (0, 0) (0, 0) _ _ _ _ rfl ((XD.out.oh.setRow _).setRow_other (by omega) _) Tryd.underlying35 (by rw [(zero_of_info zeroP4info).2]; rfl) rfl ((XD.out.or.setRow_other (by omega) _).setRow _) Tryd.underlying42 (by rw [(zero_of_info zeroR4info).2, List.size_toArray, rcells_length _ XD.out.ten])) rfl ⟨(upd f j v), rfl, fin_ok HFD.out HCZ.out _ _, fin_below HBD.out hB _ _, fin_kept HKD.out _ _, HFR.out⟩
end Go.Proofs.YtjdglpfjemoodaaDoor
