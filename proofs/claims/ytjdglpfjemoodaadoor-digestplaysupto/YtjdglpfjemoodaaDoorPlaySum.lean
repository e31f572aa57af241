/- A step of the script: Sum. -/
import Derived.Test.YtjdglpfjemoodaaDoorPlayMath
import Derived.Test.YtjdglpfjemoodaaDoorRefTotal
import Derived.Test.YtjdglpfjemoodaaDoorRefHash
import Derived.Test.YtjdglpfjemoodaaDoorArrEq
namespace Go.Proofs.YtjdglpfjemoodaaDoor
open Go.RowKit
set_option linter.unusedSimpArgs false in
set_option maxHeartbeats 4000000 in
set_option maxRecDepth 100000 in
theorem played_sum (h t : Int) (po : Option Addr) (m c B lid : Nat) (f : Nat → Slot) (w : World) (hh : -9223372036854775808 ≤ h ∧ h ≤ 9223372036854775807) (ht : -9223372036854775808 ≤ t ∧ t ≤ 9223372036854775807) (hF : Fits w B lid f) (hB : B ≤ w.heap.size) (hl : lid + m ≤ 4194304) (hT : Roots w 0) (hT1 : Roots w 1) :
    Calls Tryd.prog 19 #[.agg #[.int .i64 3, .int .i64 h, .int .i64 t, .slice po m c], .agg (hcells f).toArray, .agg (rcells f).toArray] w fun e w' => ∃ f', e = .returned (.tuple #[.agg (hcells f').toArray, .agg (rcells f').toArray, .bool true]) ∧ Hid (Fits w' B (lid + m) f' ∧ Below B w w' ∧ Kept f w w' ∧ ∀ p, p < w.heap.size → Free f p → Free f' p) := by
  have HF : Hid (Fits w B lid f) := hF
  obtain ⟨hh1, hh2⟩ := hh
  obtain ⟨ht1, ht2⟩ := ht
  have hz1 := (zero_of_info zeroP4info).1
  have hz2 := (zero_of_info zeroR4info).1
  have HT : Hid (Roots w 0) := hT
  have HT1 : Hid (Roots w 1) := hT1
  clear hT hT1
  obtain ⟨wa, hwa⟩ : ∃ x, x = start w 3 h t po m c f := ⟨_, rfl⟩
  have X0 : Hid (Fr wa w.heap.size 3 h t po m c f) := by rw [hwa]; exact start_fr w 3 h t po m c f fun j hj => (hF.each j hj).row10
  have HBA : Hid (Below w.heap.size w wa) := by rw [hwa]; exact start_below w 3 h t po m c f
  unfold start at hwa
  clear hF
  have c0 := X0.out.c0
  have c1 := X0.out.c1
  have c2 := X0.out.c2
  have hsl := slotOf_lt h
  have hst := slotOf_lt t
  go_enter Tryd.func19, Tryd.ntmps19
  go_upto_region 1 with fail
  rw [← hwa]
  clear hwa
  go_quiet ((go_at_call 45; exact Calls.quiet_of_same (slot_any _ _ (by assumption) (by assumption))))
  generalize slotOf h = i at *
  generalize slotOf t = j at *
  rw [show w.heap.size + 1 + 1 + 1 + 1 = w.heap.size + 4 from rfl, show w.heap.size + 1 + 1 + 1 = w.heap.size + 3 from rfl, show w.heap.size + 1 + 1 = w.heap.size + 2 from rfl]
  obtain ⟨wb, hwb⟩ : ∃ x, x = wa.drewN nq := ⟨_, rfl⟩
  rw [← hwb]
  have X1 : Hid (Fr wb w.heap.size 3 h t po m c f) := by rw [hwb]; exact X0.out.keep (below_drewN (Below.refl _ _) nq)
  have HBB : Hid (Below w.heap.size w wb) := by rw [hwb]; exact below_drewN HBA.out nq
  clear hwb c0 c1 c2 X0 HBA hh1 hh2 ht1 ht2
  have c0 := X1.out.c0
  go_upto_region 17 with fail
  refine region_held_var (Three w.heap.size 3 h t po m c f) (by kernel_rfl) ?_
  intro A hA
  have hsz : A.tmps.size = 212 := by rw [hA]; rfl
  have e4 : A.eval (.tmp 4) = .pointer (some ⟨w.heap.size + 1, 0, none⟩) := by rw [hA]; rfl
  have e5 : A.eval (.tmp 5) = .pointer (some ⟨w.heap.size + 2, 0, none⟩) := by rw [hA]; rfl
  have e6 : A.eval (.tmp 6) = .pointer (some ⟨w.heap.size + 3, 0, none⟩) := by rw [hA]; rfl
  have e7 : A.eval (.tmp 7) = .pointer (some ⟨w.heap.size + 4, 0, none⟩) := by rw [hA]; rfl
  have e9 : A.eval (.tmp 9) = .int .i64 (i : Int) := by rw [hA]; rfl
  have XD : Hid (Fr wb.drew w.heap.size 3 h t po m c f) := X1.out.keep (Below.refl _ _).drew
  have HFD : Hid (Fits wb.drew B (lid + m) f) := (((HF.out.keep HBB.out).keep (Below.refl _ _).drew).up (by omega))
  have HBD : Hid (Below w.heap.size w wb.drew) := below_drewN HBB.out 1
  have HCZ : Hid (Clear w.heap.size f) := HF.out.clear
  have li : (i : Int) < 4 := by omega
  refine heldRun (i := 0) 79 (.agg (hcells f).toArray) rfl rfl (by kernel_rfl) (by kernel_rfl) (by kernel_rfl) (fun _ _ _ h => h) rfl (fun w hSw => by unfold execOp; simp [ev_put, hsz, sz_put, e4, e5, e6, e7, e9]; rw [hall_of hSw.2.1]; rfl) (XD.out.three) ?_
  refine heldRun (i := 1) 80 (.agg (rcells f).toArray) rfl rfl (by kernel_rfl) (by kernel_rfl) (by kernel_rfl) (fun _ _ _ h => h) rfl (fun w hSw => by unfold execOp; simp [ev_put, hsz, sz_put, e4, e5, e6, e7, e9]; rw [rall_of hSw.2.2 XD.out.ten]; rfl) (XD.out.three) ?_
  refine heldMove (i := 2) 81 9 (.int .i64 (i : Int)) rfl rfl rfl (by kernel_rfl) (by kernel_rfl) (by kernel_rfl) (fun _ _ _ h => h) rfl (by simp [ev_put, hsz, sz_put, e4, e5, e6, e7, e9]) (XD.out.three) ?_
  refine heldRun (i := 3) 82 (.pointer (some ⟨w.heap.size + 1, i, none⟩)) rfl rfl (by kernel_rfl) (by kernel_rfl) (by kernel_rfl) (fun _ _ _ h => h) rfl (fun w hSw => by unfold execOp; simp [ev_put, hsz, sz_put, e4, e5, e6, e7, e9] <;> go_simp) (XD.out.three) ?_
  refine heldRun (i := 4) 83 (.pointer (some ⟨(f i).g, 0, none⟩)) rfl rfl (by kernel_rfl) (by kernel_rfl) (by kernel_rfl) (fun _ _ _ h => h) rfl (fun w hSw => by have cc := hcell_of hSw.2.1 i hsl; unfold execOp; simp [ev_put, hsz, sz_put, e4, e5, e6, e7, e9] <;> go_simp) (XD.out.three) ?_
  refine heldMove (i := 6) 85 9 (.int .i64 (i : Int)) rfl rfl rfl (by kernel_rfl) (by kernel_rfl) (by kernel_rfl) (fun _ _ _ h => h) rfl (by simp [ev_put, hsz, sz_put, e4, e5, e6, e7, e9]) (XD.out.three) ?_
  refine heldRun (i := 7) 86 (.pointer (some ⟨w.heap.size + 2, i * 10, none⟩)) rfl rfl (by kernel_rfl) (by kernel_rfl) (by kernel_rfl) (fun _ _ _ h => h) rfl (fun w hSw => by unfold execOp; simp [ev_put, hsz, sz_put, e4, e5, e6, e7, e9] <;> go_simp) (XD.out.three) ?_
  refine heldRun (i := 8) 87 (.agg (f i).row.toArray) rfl rfl (by kernel_rfl) (by kernel_rfl) (by kernel_rfl) (fun _ _ _ h => h) rfl (fun w hSw => by unfold execOp; simp [ev_put, hsz, sz_put, e4, e5, e6, e7, e9]; rw [rload_of hSw.2.2 XD.out.ten i hsl]; rfl) (XD.out.three) ?_
  refine heldCall (i := 5) 84 20 #[.pointer (some ⟨(f i).g, 0, none⟩)] rfl rfl (by kernel_rfl) rfl (by unfold execOp; simp [ev_put, hsz, sz_put, e4, e5, e6, e7, e9] <;> go_simp) ?_
  refine (sumState_any (f i).g (f i).past (f i).r (f i).bs _ (HFD.out.each i hsl).st (HT.out.keep HBD.out)).mono ?_
  rintro e w2 ⟨rfl, h2⟩
  have XE : Hid (Fr w2 w.heap.size 3 h t po m c f) := XD.out.keep h2
  have HFE : Hid (Fits w2 B (lid + m) f) := HFD.out.keep h2
  have HBE : Hid (Below w.heap.size w w2) := HBD.out.trans (h2.mono HBD.out.size)
  clear h2 XD HFD HBD
  have XD := XE
  have HFD := HFE
  have HBD := HBE
  clear XE HFE HBE
  refine ⟨_, rfl, XD.out.three, ?_⟩
  refine heldCall (i := 9) 88 21 #[.agg (f i).row.toArray] rfl rfl (by kernel_rfl) rfl (by unfold execOp; simp [ev_put, hsz, sz_put, e4, e5, e6, e7, e9] <;> go_simp) ?_
  have HLn := (HFD.out.each i hsl).len
  have HLd := (HFD.out.each i hsl).lid
  have HPt := (HFD.out.each i hsl).past
  refine (refTotal_any (f i).n (f i).cap (f i).past (f i).ao (f i).r (f i).bs _ (HFD.out.each i hsl).r8 HLn (by omega) (by omega) (HFD.out.each i hsl).bytes (HFD.out.each i hsl).row (HT1.out.keep HBD.out)).mono ?_
  rintro e w3 ⟨rfl, h3⟩
  have XE : Hid (Fr w3 w.heap.size 3 h t po m c f) := XD.out.keep h3
  have HFE : Hid (Fits w3 B (lid + m) f) := HFD.out.keep h3
  have HBE : Hid (Below w.heap.size w w3) := HBD.out.trans (h3.mono HBD.out.size)
  clear h3 XD HFD HBD HLn HLd HPt
  have XD := XE
  have HFD := HFE
  have HBD := HBE
  clear XE HFE HBE
  refine ⟨_, rfl, XD.out.three, ?_⟩
  have HTL : Hid ((total (f i).r (f i).past (f i).bs).length = 32) := total_length _ _ (HFD.out.each i hsl).r8
  generalize total (f i).r (f i).past (f i).bs = sx at *
  have hq : ∀ W, (Op.equalIn 10000 24 (.agg (sx.map bv).toArray) (.agg (sx.map bv).toArray)).run Tryd.prog W = .ok true W := fun W => by rw [arr32_eq _ _ W HTL.out HTL.out]; simp
  refine heldRun (i := 10) 89 (.bool true) rfl rfl (by kernel_rfl) (by kernel_rfl) (by kernel_rfl) (fun _ _ _ h => h) rfl (fun w hSw => by unfold execOp; simp [ev_put, hsz, sz_put, e4, e5, e6, e7, e9] <;> go_simp) (XD.out.three) ?_
  have HFR : Hid (∀ p, p < w.heap.size → Free f p → Free f p) := fun _ _ h => h
  have HKD : Hid (Kept f w w3) := Kept.of HBD.out
  replace HBD : Hid (Below B w w3) := HBD.out.mono hB
  refine heldStore (i := 11) rfl rfl (by kernel_rfl) rfl (by unfold execOp; simp [ev_put, hsz, sz_put, e4, e5, e6, e7, e9]; rw [XD.out.out]; rfl) (XD.out.three.put3 (.inl rfl) _) ?_
  refine heldStore (i := 12) rfl rfl (by kernel_rfl) rfl (by unfold execOp; simp [ev_put, hsz, sz_put, e4, e5, e6, e7, e9]; rw [XD.out.out2]; rfl) ((XD.out.three.put3 (.inl rfl) _).put3 (.inr rfl) _) ?_
  refine heldRun (i := 13) 8 (.bool true) rfl rfl (by kernel_rfl) (by kernel_rfl) (by kernel_rfl) (fun _ _ _ h => h) rfl (fun w hSw => by unfold execOp; simp [ev_put, hsz, sz_put, e4, e5, e6, e7, e9]) ((XD.out.three.put3 (.inl rfl) _).put3 (.inr rfl) _) ?_
  refine wpAnyH_done (by kernel_rfl) ?_ _
  subst hA
  simp only [put_mk, List.set_cons_succ, List.set_cons_zero]
  go_wp2
  refine bodyPost_ret (results_cells_tmp rfl _ _ (w.heap.size + 3) (w.heap.size + 4) 35 42 (hcells f).toArray (rcells f).toArray (0, 0) (0, 0) _ _ _ _ rfl ((XD.out.oh.setRow _).setRow_other (by omega) _) Tryd.underlying35 (by rw [(zero_of_info zeroP4info).2]; rfl) rfl ((XD.out.or.setRow_other (by omega) _).setRow _) Tryd.underlying42 (by rw [(zero_of_info zeroR4info).2, List.size_toArray, rcells_length _ XD.out.ten])) rfl ⟨f, rfl, fin_ok HFD.out HCZ.out _ _, fin_below HBD.out hB _ _, fin_kept HKD.out _ _, HFR.out⟩
end Go.Proofs.YtjdglpfjemoodaaDoor
/- A step of the script: Size. -/
namespace Go.Proofs.YtjdglpfjemoodaaDoor
open Go.RowKit
set_option linter.unusedSimpArgs false in
set_option maxHeartbeats 4000000 in
set_option maxRecDepth 100000 in
theorem played_size (h t : Int) (po : Option Addr) (m c B lid : Nat) (f : Nat → Slot) (w : World) (hh : -9223372036854775808 ≤ h ∧ h ≤ 9223372036854775807) (ht : -9223372036854775808 ≤ t ∧ t ≤ 9223372036854775807) (hF : Fits w B lid f) (hB : B ≤ w.heap.size) (hl : lid + m ≤ 4194304) :
    Calls Tryd.prog 19 #[.agg #[.int .i64 4, .int .i64 h, .int .i64 t, .slice po m c], .agg (hcells f).toArray, .agg (rcells f).toArray] w fun e w' => ∃ f', e = .returned (.tuple #[.agg (hcells f').toArray, .agg (rcells f').toArray, .bool true]) ∧ Hid (Fits w' B (lid + m) f' ∧ Below B w w' ∧ Kept f w w' ∧ ∀ p, p < w.heap.size → Free f p → Free f' p) := by
  have HF : Hid (Fits w B lid f) := hF
  obtain ⟨hh1, hh2⟩ := hh
  obtain ⟨ht1, ht2⟩ := ht
  have hz1 := (zero_of_info zeroP4info).1
  have hz2 := (zero_of_info zeroR4info).1
  obtain ⟨wa, hwa⟩ : ∃ x, x = start w 4 h t po m c f := ⟨_, rfl⟩
  have X0 : Hid (Fr wa w.heap.size 4 h t po m c f) := by rw [hwa]; exact start_fr w 4 h t po m c f fun j hj => (hF.each j hj).row10
  have HBA : Hid (Below w.heap.size w wa) := by rw [hwa]; exact start_below w 4 h t po m c f
  unfold start at hwa
  clear hF
  have c0 := X0.out.c0
  have c1 := X0.out.c1
  have c2 := X0.out.c2
  have hsl := slotOf_lt h
  have hst := slotOf_lt t
  go_enter Tryd.func19, Tryd.ntmps19
  go_upto_region 1 with fail
  rw [← hwa]
  clear hwa
  go_quiet ((go_at_call 45; exact Calls.quiet_of_same (slot_any _ _ (by assumption) (by assumption))))
  generalize slotOf h = i at *
  generalize slotOf t = j at *
  rw [show w.heap.size + 1 + 1 + 1 + 1 = w.heap.size + 4 from rfl, show w.heap.size + 1 + 1 + 1 = w.heap.size + 3 from rfl, show w.heap.size + 1 + 1 = w.heap.size + 2 from rfl]
  obtain ⟨wb, hwb⟩ : ∃ x, x = wa.drewN nq := ⟨_, rfl⟩
  rw [← hwb]
  have X1 : Hid (Fr wb w.heap.size 4 h t po m c f) := by rw [hwb]; exact X0.out.keep (below_drewN (Below.refl _ _) nq)
  have HBB : Hid (Below w.heap.size w wb) := by rw [hwb]; exact below_drewN HBA.out nq
  clear hwb c0 c1 c2 X0 HBA hh1 hh2 ht1 ht2
  have c0 := X1.out.c0
  go_upto_region 19 with fail
  refine region_held_var (Three w.heap.size 4 h t po m c f) (by kernel_rfl) ?_
  intro A hA
  have hsz : A.tmps.size = 212 := by rw [hA]; rfl
  have e4 : A.eval (.tmp 4) = .pointer (some ⟨w.heap.size + 1, 0, none⟩) := by rw [hA]; rfl
  have e5 : A.eval (.tmp 5) = .pointer (some ⟨w.heap.size + 2, 0, none⟩) := by rw [hA]; rfl
  have e6 : A.eval (.tmp 6) = .pointer (some ⟨w.heap.size + 3, 0, none⟩) := by rw [hA]; rfl
  have e7 : A.eval (.tmp 7) = .pointer (some ⟨w.heap.size + 4, 0, none⟩) := by rw [hA]; rfl
  have e9 : A.eval (.tmp 9) = .int .i64 (i : Int) := by rw [hA]; rfl
  have XD : Hid (Fr wb.drew w.heap.size 4 h t po m c f) := X1.out.keep (Below.refl _ _).drew
  have HFD : Hid (Fits wb.drew B (lid + m) f) := (((HF.out.keep HBB.out).keep (Below.refl _ _).drew).up (by omega))
  have HBD : Hid (Below w.heap.size w wb.drew) := below_drewN HBB.out 1
  have HCZ : Hid (Clear w.heap.size f) := HF.out.clear
  have li : (i : Int) < 4 := by omega
  refine heldRun (i := 0) 92 (.agg (hcells f).toArray) rfl rfl (by kernel_rfl) (by kernel_rfl) (by kernel_rfl) (fun _ _ _ h => h) rfl (fun w hSw => by unfold execOp; simp [ev_put, hsz, sz_put, e4, e5, e6, e7, e9]; rw [hall_of hSw.2.1]; rfl) (XD.out.three) ?_
  refine heldRun (i := 1) 93 (.agg (rcells f).toArray) rfl rfl (by kernel_rfl) (by kernel_rfl) (by kernel_rfl) (fun _ _ _ h => h) rfl (fun w hSw => by unfold execOp; simp [ev_put, hsz, sz_put, e4, e5, e6, e7, e9]; rw [rall_of hSw.2.2 XD.out.ten]; rfl) (XD.out.three) ?_
  refine heldMove (i := 2) 94 9 (.int .i64 (i : Int)) rfl rfl rfl (by kernel_rfl) (by kernel_rfl) (by kernel_rfl) (fun _ _ _ h => h) rfl (by simp [ev_put, hsz, sz_put, e4, e5, e6, e7, e9]) (XD.out.three) ?_
  refine heldRun (i := 3) 95 (.pointer (some ⟨w.heap.size + 1, i, none⟩)) rfl rfl (by kernel_rfl) (by kernel_rfl) (by kernel_rfl) (fun _ _ _ h => h) rfl (fun w hSw => by unfold execOp; simp [ev_put, hsz, sz_put, e4, e5, e6, e7, e9] <;> go_simp) (XD.out.three) ?_
  refine heldRun (i := 4) 96 (.pointer (some ⟨(f i).g, 0, none⟩)) rfl rfl (by kernel_rfl) (by kernel_rfl) (by kernel_rfl) (fun _ _ _ h => h) rfl (fun w hSw => by have cc := hcell_of hSw.2.1 i hsl; unfold execOp; simp [ev_put, hsz, sz_put, e4, e5, e6, e7, e9] <;> go_simp) (XD.out.three) ?_
  refine heldMove (i := 6) 98 9 (.int .i64 (i : Int)) rfl rfl rfl (by kernel_rfl) (by kernel_rfl) (by kernel_rfl) (fun _ _ _ h => h) rfl (by simp [ev_put, hsz, sz_put, e4, e5, e6, e7, e9]) (XD.out.three) ?_
  refine heldRun (i := 7) 99 (.pointer (some ⟨w.heap.size + 2, i * 10, none⟩)) rfl rfl (by kernel_rfl) (by kernel_rfl) (by kernel_rfl) (fun _ _ _ h => h) rfl (fun w hSw => by unfold execOp; simp [ev_put, hsz, sz_put, e4, e5, e6, e7, e9] <;> go_simp) (XD.out.three) ?_
  refine heldRun (i := 8) 100 (.agg (f i).row.toArray) rfl rfl (by kernel_rfl) (by kernel_rfl) (by kernel_rfl) (fun _ _ _ h => h) rfl (fun w hSw => by unfold execOp; simp [ev_put, hsz, sz_put, e4, e5, e6, e7, e9]; rw [rload_of hSw.2.2 XD.out.ten i hsl]; rfl) (XD.out.three) ?_
  have HLn := (HFD.out.each i hsl).len
  have HLd := (HFD.out.each i hsl).lid
  have HPt := (HFD.out.each i hsl).past
  refine heldCall (i := 5) 97 22 #[.pointer (some ⟨(f i).g, 0, none⟩)] rfl rfl (by kernel_rfl) rfl (by unfold execOp; simp [ev_put, hsz, sz_put, e4, e5, e6, e7, e9] <;> go_simp) ?_
  refine (size_any (f i).g ((f i).past + (f i).n) _ (by omega) (by have := (HFD.out.each i hsl).st.1.size; rw [← HLn] at this; exact this)).mono ?_
  rintro e w2 ⟨rfl, hw2⟩
  subst hw2
  refine ⟨_, rfl, XD.out.three, ?_⟩
  refine heldCall (i := 9) 101 23 #[.agg (f i).row.toArray] rfl rfl (by kernel_rfl) rfl (by unfold execOp; simp [ev_put, hsz, sz_put, e4, e5, e6, e7, e9] <;> go_simp) ?_
  refine (refSize_any (f i).n (f i).cap (f i).past (f i).ao (f i).r _ (HFD.out.each i hsl).r8 (by omega)).mono ?_
  rintro e w3 ⟨rfl, h3⟩
  have XE : Hid (Fr w3 w.heap.size 4 h t po m c f) := XD.out.keep h3
  have HFE : Hid (Fits w3 B (lid + m) f) := HFD.out.keep h3
  have HBE : Hid (Below w.heap.size w w3) := HBD.out.trans (h3.mono HBD.out.size)
  clear h3 XD HFD HBD HLn HLd HPt
  have XD := XE
  have HFD := HFE
  have HBD := HBE
  clear XE HFE HBE
  refine ⟨_, rfl, XD.out.three, ?_⟩
  generalize (f i).past + (f i).n = N at *
  refine heldRun (i := 10) 102 (.bool true) rfl rfl (by kernel_rfl) (by kernel_rfl) (by kernel_rfl) (fun _ _ _ h => h) rfl (fun w hSw => by unfold execOp; simp [ev_put, hsz, sz_put, e4, e5, e6, e7, e9] <;> go_simp) (XD.out.three) ?_
  have HFR : Hid (∀ p, p < w.heap.size → Free f p → Free f p) := fun _ _ h => h
  have HKD : Hid (Kept f w w3) := Kept.of HBD.out
  replace HBD : Hid (Below B w w3) := HBD.out.mono hB
  refine heldStore (i := 11) rfl rfl (by kernel_rfl) rfl (by unfold execOp; simp [ev_put, hsz, sz_put, e4, e5, e6, e7, e9]; rw [XD.out.out]; rfl) (XD.out.three.put3 (.inl rfl) _) ?_
  refine heldStore (i := 12) rfl rfl (by kernel_rfl) rfl (by unfold execOp; simp [ev_put, hsz, sz_put, e4, e5, e6, e7, e9]; rw [XD.out.out2]; rfl) ((XD.out.three.put3 (.inl rfl) _).put3 (.inr rfl) _) ?_
  refine heldRun (i := 13) 8 (.bool true) rfl rfl (by kernel_rfl) (by kernel_rfl) (by kernel_rfl) (fun _ _ _ h => h) rfl (fun w hSw => by unfold execOp; simp [ev_put, hsz, sz_put, e4, e5, e6, e7, e9]) ((XD.out.three.put3 (.inl rfl) _).put3 (.inr rfl) _) ?_
  refine wpAnyH_done (by kernel_rfl) ?_ _
  subst hA
  simp only [put_mk, List.set_cons_succ, List.set_cons_zero]
  go_wp2
  refine bodyPost_ret (results_cells_tmp rfl _ _ (w.heap.size + 3) (w.heap.size + 4) 35 42 (hcells f).toArray (rcells f).toArray (0, 0) (0, 0) _ _ _ _ rfl ((XD.out.oh.setRow _).setRow_other (by omega) _) Tryd.underlying35 (by rw [(zero_of_info zeroP4info).2]; rfl) rfl ((XD.out.or.setRow_other (by omega) _).setRow _) Tryd.underlying42 (by rw [(zero_of_info zeroR4info).2, List.size_toArray, rcells_length _ XD.out.ten])) rfl ⟨f, rfl, fin_ok HFD.out HCZ.out _ _, fin_below HBD.out hB _ _, fin_kept HKD.out _ _, HFR.out⟩
end Go.Proofs.YtjdglpfjemoodaaDoor
