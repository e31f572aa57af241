/- A step of the script: Save. -/
import Derived.Test.YtjdglpfjemoodaaDoorPlayMath
import Derived.Test.YtjdglpfjemoodaaDoorRefSave
import Derived.Test.YtjdglpfjemoodaaDoorAlone
namespace Go.Proofs.YtjdglpfjemoodaaDoor
open Go.RowKit
set_option linter.unusedSimpArgs false in
set_option maxHeartbeats 4000000 in
set_option maxRecDepth 100000 in
theorem played_save (h t : Int) (po : Option Addr) (m c B lid : Nat) (f : Nat → Slot) (w : World) (hh : -9223372036854775808 ≤ h ∧ h ≤ 9223372036854775807) (ht : -9223372036854775808 ≤ t ∧ t ≤ 9223372036854775807) (hF : Fits w B lid f) (hB : B ≤ w.heap.size) (hl : lid + m ≤ 4194304) (hT1 : Roots w 1) :
    Calls Tryd.prog 19 #[.agg #[.int .i64 6, .int .i64 h, .int .i64 t, .slice po m c], .agg (hcells f).toArray, .agg (rcells f).toArray] w fun e w' => ∃ f', e = .returned (.tuple #[.agg (hcells f').toArray, .agg (rcells f').toArray, .bool true]) ∧ Hid (Fits w' B (lid + m) f' ∧ Below B w w' ∧ Kept f w w' ∧ ∀ p, p < w.heap.size → Free f p → Free f' p) := by
  have HF : Hid (Fits w B lid f) := hF
  obtain ⟨hh1, hh2⟩ := hh
  obtain ⟨ht1, ht2⟩ := ht
  have hz1 := (zero_of_info zeroP4info).1
  have hz2 := (zero_of_info zeroR4info).1
  have HT1 : Hid (Roots w 1) := hT1
  clear hT1
  obtain ⟨wa, hwa⟩ : ∃ x, x = start w 6 h t po m c f := ⟨_, rfl⟩
  have X0 : Hid (Fr wa w.heap.size 6 h t po m c f) := by rw [hwa]; exact start_fr w 6 h t po m c f fun j hj => (hF.each j hj).row10
  have HBA : Hid (Below w.heap.size w wa) := by rw [hwa]; exact start_below w 6 h t po m c f
  unfold start at hwa
  clear hF
  have c0 := X0.out.c0
  have c1 := X0.out.c1
  have c2 := X0.out.c2
  have hsl := slotOf_lt h
  have hst := slotOf_lt t
  go_enter Tryd.func19, Tryd.ntmps19
  go_upto_region 1 with fail
  rw [← hwa]
  clear hwa
  go_quiet ((go_at_call 45; exact Calls.quiet_of_same (slot_any _ _ (by assumption) (by assumption))))
  generalize slotOf h = i at *
  generalize slotOf t = j at *
  rw [show w.heap.size + 1 + 1 + 1 + 1 = w.heap.size + 4 from rfl, show w.heap.size + 1 + 1 + 1 = w.heap.size + 3 from rfl, show w.heap.size + 1 + 1 = w.heap.size + 2 from rfl]
  obtain ⟨wb, hwb⟩ : ∃ x, x = wa.drewN nq := ⟨_, rfl⟩
  rw [← hwb]
  have X1 : Hid (Fr wb w.heap.size 6 h t po m c f) := by rw [hwb]; exact X0.out.keep (below_drewN (Below.refl _ _) nq)
  have HBB : Hid (Below w.heap.size w wb) := by rw [hwb]; exact below_drewN HBA.out nq
  clear hwb c0 c1 c2 X0 HBA hh1 hh2 ht1 ht2
  have c0 := X1.out.c0
  have cc := X1.out.hcell i hsl
  have HLn := (HF.out.each i hsl).len
  have HLd := (HF.out.each i hsl).lid
  have HPt := (HF.out.each i hsl).past
  have HSL : Hid ((saved (f i).r (f i).past (f i).bs).length = 104) := saved_length _ _ _ (HF.out.each i hsl).r8
  have HSX : Hid (∀ x ∈ saved (f i).r (f i).past (f i).bs, x < 256) := saved_lt _ _ _ (HF.out.each i hsl).bytes
  have HSV1 : Hid (∀ W, Below wb.heap.size wb W → HState W (f i).g (f i).r (f i).past (f i).bs) := fun W hW => (((HF.out.each i hsl).keep HBB.out).keep hW).st
  have HTEN : Hid (∀ j, j < 4 → (f j).row.length = 10) := X1.out.ten
  go_wp2_with fail
  refine (save_any (f i).g (f i).past (f i).r (f i).bs wb (HSV1.out wb (Below.refl _ _))).mono ?_
  rintro e w1 ⟨rfl, h1⟩
  generalize hsv : saved (f i).r (f i).past (f i).bs = sv at *
  replace hsv := hide hsv
  have HB1 : Hid (Below wb.heap.size wb w1) := h1.out.2
  obtain ⟨gb, hgb⟩ : ∃ y, y = wb.heap.size := ⟨_, rfl⟩
  have HOB1 : Hid (Own w1 wb.heap.size (.slice (some ⟨gb, 0, none⟩) 104 104) sv) := by rw [hgb]; exact h1.out.1
  rw [← hgb]
  have hgb1 : gb < w1.heap.size := HOB1.out.ltSize gb rfl
  have hgb0 : w.heap.size + 5 ≤ gb := by rw [hgb]; exact X1.out.lt
  have hgb2 : wb.heap.size ≤ gb := by omega
  clear hgb h1 cc
  have cc := (X1.out.keep HB1.out).hcell i hsl
  go_wp2_with fail
  refine (save_any (f i).g (f i).past (f i).r (f i).bs w1 (HSV1.out w1 HB1.out)).mono ?_
  rintro e w2 ⟨rfl, h2⟩
  rw [hsv.out] at h2
  obtain ⟨gc, hgc⟩ : ∃ y, y = w1.heap.size := ⟨_, rfl⟩
  have HOC2 : Hid (Own w2 wb.heap.size (.slice (some ⟨gc, 0, none⟩) 104 104) sv) := by rw [hgc]; exact h2.out.1.lower HB1.out.size
  have HOB2 : Hid (Own w2 wb.heap.size (.slice (some ⟨gb, 0, none⟩) 104 104) sv) := HOB1.out.keep h2.out.2
  have HB2 : Hid (Below wb.heap.size wb w2) := HB1.out.trans (h2.out.2.mono HB1.out.size)
  rw [← hgc]
  have hgc1 : gb < gc := by omega
  have hgc2 : wb.heap.size ≤ gc := by omega
  clear hgc h2 cc HOB1 HB1 hgb1
  go_upto_region 26 with fail
  refine region_held_var (Three w.heap.size 6 h t po m c f) (by kernel_rfl) ?_
  intro A hA
  have hsz : A.tmps.size = 212 := by rw [hA]; rfl
  have e4 : A.eval (.tmp 4) = .pointer (some ⟨w.heap.size + 1, 0, none⟩) := by rw [hA]; rfl
  have e5 : A.eval (.tmp 5) = .pointer (some ⟨w.heap.size + 2, 0, none⟩) := by rw [hA]; rfl
  have e6 : A.eval (.tmp 6) = .pointer (some ⟨w.heap.size + 3, 0, none⟩) := by rw [hA]; rfl
  have e7 : A.eval (.tmp 7) = .pointer (some ⟨w.heap.size + 4, 0, none⟩) := by rw [hA]; rfl
  have e9 : A.eval (.tmp 9) = .int .i64 (i : Int) := by rw [hA]; rfl
  have e13 : A.eval (.tmp 13) = .slice (some ⟨gb, 0, none⟩) 104 104 := by rw [hA]; rfl
  have e14 : A.eval (.tmp 14) = .slice (some ⟨gc, 0, none⟩) 104 104 := by rw [hA]; rfl
  have HBD : Hid (Below wb.heap.size wb w2.drew) := below_drewN HB2.out 1
  have XD : Hid (Fr w2.drew w.heap.size 6 h t po m c f) := X1.out.keep HBD.out
  have HOB : Hid (Own w2.drew wb.heap.size (.slice (some ⟨gb, 0, none⟩) 104 104) sv) := HOB2.out.keep (Below.refl _ _).drew
  have HOC : Hid (Own w2.drew wb.heap.size (.slice (some ⟨gc, 0, none⟩) 104 104) sv) := HOC2.out.keep (Below.refl _ _).drew
  have HCZ : Hid (Clear w.heap.size f) := HF.out.clear
  have li : (i : Int) < 4 := by omega
  refine heldRun (i := 0) 126 (.agg (hcells f).toArray) rfl rfl (by kernel_rfl) (by kernel_rfl) (by kernel_rfl) (fun _ _ _ h => h) rfl (fun w hSw => by unfold execOp; simp [ev_put, hsz, sz_put, e4, e5, e6, e7, e9, e13, e14]; rw [hall_of hSw.2.1]; rfl) (XD.out.three) ?_
  refine heldRun (i := 1) 127 (.agg (rcells f).toArray) rfl rfl (by kernel_rfl) (by kernel_rfl) (by kernel_rfl) (fun _ _ _ h => h) rfl (fun w hSw => by unfold execOp; simp [ev_put, hsz, sz_put, e4, e5, e6, e7, e9, e13, e14]; rw [rall_of hSw.2.2 HTEN.out]; rfl) (XD.out.three) ?_
  refine heldMove (i := 2) 128 13 (.slice (some ⟨gb, 0, none⟩) 104 104) rfl rfl rfl (by kernel_rfl) (by kernel_rfl) (by kernel_rfl) (fun _ _ _ h => h) rfl (by simp [ev_put, hsz, sz_put, e4, e5, e6, e7, e9, e13, e14]) (XD.out.three) ?_
  refine heldMove (i := 3) 129 9 (.int .i64 (i : Int)) rfl rfl rfl (by kernel_rfl) (by kernel_rfl) (by kernel_rfl) (fun _ _ _ h => h) rfl (by simp [ev_put, hsz, sz_put, e4, e5, e6, e7, e9, e13, e14]) (XD.out.three) ?_
  refine heldRun (i := 4) 130 (.pointer (some ⟨w.heap.size + 2, i * 10, none⟩)) rfl rfl (by kernel_rfl) (by kernel_rfl) (by kernel_rfl) (fun _ _ _ h => h) rfl (fun w hSw => by unfold execOp; simp [ev_put, hsz, sz_put, e4, e5, e6, e7, e9, e13, e14] <;> go_simp) (XD.out.three) ?_
  refine heldRun (i := 5) 131 (.agg (f i).row.toArray) rfl rfl (by kernel_rfl) (by kernel_rfl) (by kernel_rfl) (fun _ _ _ h => h) rfl (fun w hSw => by unfold execOp; simp [ev_put, hsz, sz_put, e4, e5, e6, e7, e9, e13, e14]; rw [rload_of hSw.2.2 HTEN.out i hsl]; rfl) (XD.out.three) ?_
  refine heldCall (i := 6) 132 47 #[.agg (f i).row.toArray] rfl rfl (by kernel_rfl) rfl (by unfold execOp; simp [ev_put, hsz, sz_put, e4, e5, e6, e7, e9, e13, e14] <;> go_simp) ?_
  refine (refSave_any (f i).n (f i).cap (f i).past (f i).ao (f i).r (f i).bs w2.drew (HF.out.each i hsl).r8 HLn (HF.out.each i hsl).cap (by omega) (by omega) (HF.out.each i hsl).bytes ((HF.out.each i hsl).keep (HBB.out.trans (HBD.out.mono HBB.out.size))).row (HT1.out.keep (HBB.out.trans (HBD.out.mono HBB.out.size)))).mono ?_
  rintro e w3 ⟨a3, c3, rfl, h3⟩
  obtain ⟨_, hown3, hb3⟩ := h3.out
  rw [hsv.out] at hown3
  have HR3 : Hid (Row w3 a3 sv) := by
    obtain ⟨a', c', e', _, r'⟩ := hown3.read
    simp only [Value.slice.injEq] at e'
    rw [e'.1]
    exact r'
  have HOB3 : Hid (Own w3 wb.heap.size (.slice (some ⟨gb, 0, none⟩) 104 104) sv) := HOB.out.keep hb3
  have HOC3 : Hid (Own w3 wb.heap.size (.slice (some ⟨gc, 0, none⟩) 104 104) sv) := HOC.out.keep hb3
  have HBE : Hid (Below wb.heap.size wb w3) := HBD.out.trans (hb3.mono HBD.out.size)
  clear HBD XD
  have HBD := HBE
  clear HBE
  have XD : Hid (Fr w3 w.heap.size 6 h t po m c f) := X1.out.keep HBD.out
  clear h3 hown3 hb3 HOB HOC
  refine ⟨_, rfl, XD.out.three, ?_⟩
  refine heldCall (i := 7) 133 25 #[.slice (some ⟨gb, 0, none⟩) 104 104, .slice a3 104 c3] rfl rfl (by kernel_rfl) rfl (by unfold execOp; simp [ev_put, hsz, sz_put, e4, e5, e6, e7, e9, e13, e14] <;> go_simp) ?_
  have hs7 := same_any 104 c3 (some ⟨gb, 0, none⟩) a3 sv sv w3 (own_row HOB3.out) HR3.out HSX.out HSX.out
  rw [HSL.out] at hs7
  refine hs7.mono ?_
  clear hs7
  rintro e w4 ⟨rfl, hw4⟩
  subst hw4
  simp only [decide_true]
  refine ⟨_, rfl, XD.out.three, ?_⟩
  refine heldMove (i := 8) 134 133 (.bool true) rfl rfl rfl (by kernel_rfl) (by kernel_rfl) (by kernel_rfl) (fun _ _ _ h => h) rfl (by simp [ev_put, hsz, sz_put, e4, e5, e6, e7, e9, e13, e14]) (XD.out.three) ?_
  refine heldMove (i := 9) 135 14 (.slice (some ⟨gc, 0, none⟩) 104 104) rfl rfl rfl (by kernel_rfl) (by kernel_rfl) (by kernel_rfl) (fun _ _ _ h => h) (wants 8 134 true rfl rfl (by simp [sz_put, hsz]) (by simp [ev_put, hsz, sz_put, e4, e5, e6, e7, e9, e13, e14])) (by simp [ev_put, hsz, sz_put, e4, e5, e6, e7, e9, e13, e14]) (XD.out.three) ?_
  refine heldMove (i := 10) 136 13 (.slice (some ⟨gb, 0, none⟩) 104 104) rfl rfl rfl (by kernel_rfl) (by kernel_rfl) (by kernel_rfl) (fun _ _ _ h => h) (wants 8 134 true rfl rfl (by simp [sz_put, hsz]) (by simp [ev_put, hsz, sz_put, e4, e5, e6, e7, e9, e13, e14])) (by simp [ev_put, hsz, sz_put, e4, e5, e6, e7, e9, e13, e14]) (XD.out.three) ?_
  refine heldCall (i := 11) 137 25 #[.slice (some ⟨gc, 0, none⟩) 104 104, .slice (some ⟨gb, 0, none⟩) 104 104] rfl rfl (by kernel_rfl) (wants 8 134 true rfl rfl (by simp [sz_put, hsz]) (by simp [ev_put, hsz, sz_put, e4, e5, e6, e7, e9, e13, e14])) (by unfold execOp; simp [ev_put, hsz, sz_put, e4, e5, e6, e7, e9, e13, e14] <;> go_simp) ?_
  have hs7 := same_any 104 104 (some ⟨gc, 0, none⟩) (some ⟨gb, 0, none⟩) sv sv w4 (own_row HOC3.out) (own_row HOB3.out) HSX.out HSX.out
  rw [HSL.out] at hs7
  refine hs7.mono ?_
  clear hs7
  rintro e w5 ⟨rfl, hw5⟩
  subst hw5
  simp only [decide_true]
  refine ⟨_, rfl, XD.out.three, ?_⟩
  refine heldRun (i := 12) 138 (.bool true) rfl rfl (by kernel_rfl) (by kernel_rfl) (by kernel_rfl) (fun _ _ _ h => h) rfl (fun w hSw => by unfold execOp; simp [ev_put, hsz, sz_put, e4, e5, e6, e7, e9, e13, e14] <;> go_simp) (XD.out.three) ?_
  refine heldMove (i := 13) 139 138 (.bool true) rfl rfl rfl (by kernel_rfl) (by kernel_rfl) (by kernel_rfl) (fun _ _ _ h => h) rfl (by simp [ev_put, hsz, sz_put, e4, e5, e6, e7, e9, e13, e14]) (XD.out.three) ?_
  refine heldMove (i := 14) 140 13 (.slice (some ⟨gb, 0, none⟩) 104 104) rfl rfl rfl (by kernel_rfl) (by kernel_rfl) (by kernel_rfl) (fun _ _ _ h => h) (wants 13 139 true rfl rfl (by simp [sz_put, hsz]) (by simp [ev_put, hsz, sz_put, e4, e5, e6, e7, e9, e13, e14])) (by simp [ev_put, hsz, sz_put, e4, e5, e6, e7, e9, e13, e14]) (XD.out.three) ?_
  refine heldMove (i := 15) 141 14 (.slice (some ⟨gc, 0, none⟩) 104 104) rfl rfl rfl (by kernel_rfl) (by kernel_rfl) (by kernel_rfl) (fun _ _ _ h => h) (wants 13 139 true rfl rfl (by simp [sz_put, hsz]) (by simp [ev_put, hsz, sz_put, e4, e5, e6, e7, e9, e13, e14])) (by simp [ev_put, hsz, sz_put, e4, e5, e6, e7, e9, e13, e14]) (XD.out.three) ?_
  refine heldOne (i := 16) (w' := w5.alloc (Obj.cells #[.slice (some ⟨gb, 0, none⟩) 104 104, .slice (some ⟨gc, 0, none⟩) 104 104] 26)) 142 (.slice (some ⟨w5.heap.size, 0, none⟩) 2 2) rfl rfl (by kernel_rfl) (wants 13 139 true rfl rfl (by simp [sz_put, hsz]) (by simp [ev_put, hsz, sz_put, e4, e5, e6, e7, e9, e13, e14])) (by unfold execOp; simp [ev_put, hsz, sz_put, e4, e5, e6, e7, e9, e13, e14] <;> go_simp <;> rfl) (XD.out.keep (below_new w5 _)).three ?_
  refine heldCall (i := 17) 143 48 #[.slice (some ⟨w5.heap.size, 0, none⟩) 2 2] rfl rfl (by kernel_rfl) (wants 13 139 true rfl rfl (by simp [sz_put, hsz]) (by simp [ev_put, hsz, sz_put, e4, e5, e6, e7, e9, e13, e14])) (by unfold execOp; simp [ev_put, hsz, sz_put, e4, e5, e6, e7, e9, e13, e14] <;> go_simp) ?_
  refine (alone_two w5 wb.heap.size 104 104 104 104 (some ⟨gb, 0, none⟩) (some ⟨gc, 0, none⟩) sv sv HBD.out.size HOB3.out HOC3.out (by decide) (by decide) (fun g hg e => by simp [Value.ownBlock] at hg e; omega)).mono ?_
  rintro e w6 ⟨rfl, h6⟩
  have hb6 : Below wb.heap.size w5 w6 := ⟨h6.out.os, h6.out.tape, h6.out.output, h6.out.size, fun k hk => h6.out.block k (Nat.lt_of_lt_of_le hk HBD.out.size) (by simp [Value.ownBlock]; omega)⟩
  have HBE : Hid (Below wb.heap.size wb w6) := HBD.out.trans hb6
  clear HBD XD
  have HBD := HBE
  clear HBE
  have XD : Hid (Fr w6 w.heap.size 6 h t po m c f) := X1.out.keep HBD.out
  clear h6 hb6 HOB3 HOC3 HR3
  refine ⟨_, rfl, XD.out.three, ?_⟩
  refine heldRun (i := 18) 144 (.bool true) rfl rfl (by kernel_rfl) (by kernel_rfl) (by kernel_rfl) (fun _ _ _ h => h) rfl (fun w hSw => by unfold execOp; simp [ev_put, hsz, sz_put, e4, e5, e6, e7, e9, e13, e14] <;> go_simp) (XD.out.three) ?_
  have HBW : Hid (Below w.heap.size w w6) := HBB.out.trans (HBD.out.mono HBB.out.size)
  have HFD : Hid (Fits w6 B (lid + m) f) := (HF.out.keep HBW.out).up (by omega)
  have HKD : Hid (Kept f w w6) := Kept.of HBW.out
  have HFR : Hid (∀ p, p < w.heap.size → Free f p → Free f p) := fun _ _ h => h
  replace HBD : Hid (Below B w w6) := HBW.out.mono hB
  refine heldStore (i := 19) rfl rfl (by kernel_rfl) rfl (by unfold execOp; simp [ev_put, hsz, sz_put, e4, e5, e6, e7, e9, e13, e14]; rw [XD.out.out]; rfl) (XD.out.three.put3 (.inl rfl) _) ?_
  refine heldStore (i := 20) rfl rfl (by kernel_rfl) rfl (by unfold execOp; simp [ev_put, hsz, sz_put, e4, e5, e6, e7, e9, e13, e14]; rw [XD.out.out2]; rfl) ((XD.out.three.put3 (.inl rfl) _).put3 (.inr rfl) _) ?_
  refine heldRun (i := 21) 8 (.bool true) rfl rfl (by kernel_rfl) (by kernel_rfl) (by kernel_rfl) (fun _ _ _ h => h) rfl (fun w hSw => by unfold execOp; simp [ev_put, hsz, sz_put, e4, e5, e6, e7, e9, e13, e14]) ((XD.out.three.put3 (.inl rfl) _).put3 (.inr rfl) _) ?_
  refine wpAnyH_done (by kernel_rfl) ?_ _
  subst hA
  simp only [put_mk, List.set_cons_succ, List.set_cons_zero]
  go_wp2
  refine bodyPost_ret (results_cells_tmp rfl _ _ (w.heap.size + 3) (w.heap.size + 4) 35 42 (hcells f).toArray (rcells f).toArray (0, 0) (0, 0) _ _ _ _ rfl ((XD.out.oh.setRow _).setRow_other (by omega) _) Tryd.underlying35 (by rw [(zero_of_info zeroP4info).2]; rfl) rfl ((XD.out.or.setRow_other (by omega) _).setRow _) Tryd.underlying42 (by rw [(zero_of_info zeroR4info).2, List.size_toArray, rcells_length _ XD.out.ten])) rfl ⟨f, rfl, fin_ok HFD.out HCZ.out _ _, fin_below HBD.out hB _ _, fin_kept HKD.out _ _, HFR.out⟩
end Go.Proofs.YtjdglpfjemoodaaDoor
