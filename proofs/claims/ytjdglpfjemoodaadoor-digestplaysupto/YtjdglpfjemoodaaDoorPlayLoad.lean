/- A step of the script: Load. -/
import Derived.Test.YtjdglpfjemoodaaDoorPlayMath
import Derived.Test.YtjdglpfjemoodaaDoorRefLoad
import Derived.Test.YtjdglpfjemoodaaDoorLoadedMath
import Derived.Test.YtjdglpfjemoodaaDoorSumsLaw
import Derived.Test.YtjdglpfjemoodaaDoorRows1
namespace Go.Proofs.YtjdglpfjemoodaaDoor
open Go.RowKit
set_option linter.unusedSimpArgs false in
set_option maxHeartbeats 4000000 in
set_option maxRecDepth 100000 in
theorem played_load (ys : List Nat) (h t : Int) (po : Option Addr) (c B lid : Nat) (f : Nat → Slot) (w : World) (hh : -9223372036854775808 ≤ h ∧ h ≤ 9223372036854775807) (ht : -9223372036854775808 ≤ t ∧ t ≤ 9223372036854775807) (hF : Fits w B lid f) (hB : B ≤ w.heap.size) (hl : lid + ys.length ≤ 4194304) (h64 : 64 ≤ lid) (hy : ∀ y ∈ ys, y < 256) (hP : Row w po ys) :
    Calls Tryd.prog 19 #[.agg #[.int .i64 7, .int .i64 h, .int .i64 t, .slice po ys.length c], .agg (hcells f).toArray, .agg (rcells f).toArray] w fun e w' => ∃ f', e = .returned (.tuple #[.agg (hcells f').toArray, .agg (rcells f').toArray, .bool true]) ∧ Hid (Fits w' B (lid + ys.length) f' ∧ Below B w w' ∧ Kept f w w' ∧ ∀ p, p < w.heap.size → Free f p → Free f' p) := by
  have HF : Hid (Fits w B lid f) := hF
  obtain ⟨hh1, hh2⟩ := hh
  obtain ⟨ht1, ht2⟩ := ht
  have hz1 := (zero_of_info zeroP4info).1
  have hz2 := (zero_of_info zeroR4info).1
  have HY : Hid (∀ y ∈ ys, y < 256) := hy
  have HP : Hid (Row w po ys) := hP
  clear hy hP
  obtain ⟨wa, hwa⟩ : ∃ x, x = start w 7 h t po ys.length c f := ⟨_, rfl⟩
  have X0 : Hid (Fr wa w.heap.size 7 h t po ys.length c f) := by rw [hwa]; exact start_fr w 7 h t po ys.length c f fun j hj => (hF.each j hj).row10
  have HBA : Hid (Below w.heap.size w wa) := by rw [hwa]; exact start_below w 7 h t po ys.length c f
  unfold start at hwa
  clear hF
  have c0 := X0.out.c0
  have c1 := X0.out.c1
  have c2 := X0.out.c2
  have hsl := slotOf_lt h
  have hst := slotOf_lt t
  go_enter Tryd.func19, Tryd.ntmps19
  go_upto_region 1 with fail
  rw [← hwa]
  clear hwa
  go_quiet ((go_at_call 45; exact Calls.quiet_of_same (slot_any _ _ (by assumption) (by assumption))))
  generalize slotOf h = i at *
  generalize slotOf t = j at *
  rw [show w.heap.size + 1 + 1 + 1 + 1 = w.heap.size + 4 from rfl, show w.heap.size + 1 + 1 + 1 = w.heap.size + 3 from rfl, show w.heap.size + 1 + 1 = w.heap.size + 2 from rfl]
  obtain ⟨wb, hwb⟩ : ∃ x, x = wa.drewN nq := ⟨_, rfl⟩
  rw [← hwb]
  have X1 : Hid (Fr wb w.heap.size 7 h t po ys.length c f) := by rw [hwb]; exact X0.out.keep (below_drewN (Below.refl _ _) nq)
  have HBB : Hid (Below w.heap.size w wb) := by rw [hwb]; exact below_drewN HBA.out nq
  clear hwb c0 c1 c2 X0 HBA hh1 hh2 ht1 ht2
  have c0 := X1.out.c0
  have c3 := X1.out.c3
  have c3' : ∀ o, (wb.alloc o).cell? ⟨w.heap.size, 3, none⟩ = some (.slice po ys.length c) := fun o => cell_kept c3 (below_new wb o)
  go_wp2_with (first | (at_builtin; refine wpList_append_bytes rfl _ _ rfl wb.heap.size _ [] rfl (own_new wb wb.heap.size [] (Nat.le_refl _) (Nat.zero_le _)) po ys.length c ys rfl rfl ((HP.out.keep HBB.out).keep (below_new wb _)) (by simp only [List.length_nil]; omega) (by simp) ?_) | fail)
  rintro v2 wx hown2 hgr2
  obtain ⟨ab, cb, rfl, hcb, hrb, hbx⟩ := copied hown2 hgr2 (n := ys.length) rfl
  have HBx : Hid (Below wb.heap.size wb wx) := hbx
  have HRB : Hid (Row wx ab ys) := hrb
  have HXB : Hid (∀ x ∈ ys, x < 256) := HY.out
  clear hown2 hgr2 hrb hbx c3 c3' c0
  have c0 := (X1.out.keep HBx.out).c0
  go_wp2_with fail
  have hcall := lent_row cb ab ys wx (by omega) HRB.out
  refine hcall.mono ?_
  clear hcall
  rintro e w3 ⟨gf, cf, rfl, h3⟩
  obtain ⟨hcf, hgf, hgl, hown, hrf, hb3⟩ := h3.out
  have HG3 : Hid (Big w3 gf (ys.length + 64)) := own_big hown
  have HRF3 : Hid (Row w3 (some ⟨gf, 0, none⟩) (ys ++ marks 64)) := hrf
  have HB3 : Hid (Below wb.heap.size wb w3) := HBx.out.trans (hb3.mono HBx.out.size)
  have HRB3 : Hid (Row w3 ab ys) := HRB.out.keep hb3
  have hgf1 : wb.heap.size ≤ gf := Nat.le_trans HBx.out.size hgf
  have hq5 : w.heap.size + 5 ≤ wb.heap.size := X1.out.lt
  have hgl3 : gf < w3.heap.size := hgl
  clear h3 hrf hb3 hgf hown hgl HRB
  have hsl33 := slice_hi2 gf 0 (ys.length + 64) cf ys.length (ys.length : Int) rfl (by omega) (by omega)
  go_wp2_with fail
  refine (load_any ys.length cf (some ⟨gf, 0, none⟩) ys w3 rfl (by omega) HXB.out HRF3.out.take).mono ?_
  rintro e w4 ⟨p4, rfl, h4⟩
  obtain ⟨hl0, hl1, hb4⟩ := h4.out
  have HL0 : Hid (loadErr ys ≠ 0 → p4 = none) := hl0
  have HL1 : Hid (loadErr ys = 0 → ∃ k, p4 = some ⟨k, 0, none⟩ ∧ w3.heap.size ≤ k ∧ Hsh w4 k (regOf ys) ((ys.drop 32).take 64) (num8 (ys.drop 96))) := hl1
  have HG4 : Hid (Big w4 gf (ys.length + 64)) := HG3.out.keep hb4
  have HRF4 : Hid (Row w4 (some ⟨gf, 0, none⟩) (ys ++ marks 64)) := HRF3.out.keep hb4
  have HRB4 : Hid (Row w4 ab ys) := HRB3.out.keep hb4
  have HB4 : Hid (Below wb.heap.size wb w4) := HB3.out.trans (hb4.mono HB3.out.size)
  have hs4 : w3.heap.size ≤ w4.heap.size := hb4.size
  clear h4 hl0 hl1 hb4 HG3 HRF3 HRB3 hsl33
  generalize hEE : loadErr ys = EE at *
  replace hEE := hide hEE
  go_wp2_with fail
  refine (refLoad_any ys.length cb ab ys w4 rfl hcb HXB.out HRB4.out).mono ?_
  rintro e w5 ⟨r5, past5, v5, rfl, h5⟩
  rw [hEE.out]
  obtain ⟨⟨hr5, hv5⟩, hr5', hb5⟩ := h5.out
  have HR5 : Hid (r5.length = 8) := hr5
  have HV5 : Hid (v5.oneCell' = true) := hv5
  have HM5 : Hid (EE = 0 → r5 = regOf ys ∧ past5 = num8 (ys.drop 96) - num8 (ys.drop 96) % 64 ∧ ∃ ao' c', v5 = .slice ao' (num8 (ys.drop 96) % 64) c' ∧ num8 (ys.drop 96) % 64 ≤ c' ∧ Row w5 ao' ((ys.drop 32).take (num8 (ys.drop 96) % 64)) ∧ ∀ a, ao' = some a → w4.heap.size ≤ a.block) := fun e => hr5' (hEE.out.trans e)
  have HG5 : Hid (Big w5 gf (ys.length + 64)) := HG4.out.keep hb5
  have HRF5 : Hid (Row w5 (some ⟨gf, 0, none⟩) (ys ++ marks 64)) := HRF4.out.keep hb5
  have HRB5 : Hid (Row w5 ab ys) := HRB4.out.keep hb5
  have HB5 : Hid (Below wb.heap.size wb w5) := HB4.out.trans (hb5.mono HB4.out.size)
  have H45 : Hid (Below w4.heap.size w4 w5) := hb5
  have hs5 : w4.heap.size ≤ w5.heap.size := hb5.size
  clear h5 hr5 hv5 hr5' hb5 HG4 HRF4 HRB4 HB4
  generalize hrh : rhash r5 past5 v5 = rh at *
  have HRH : Hid (rh = rhash r5 past5 v5) := hrh.symm
  have HRI : Hid ((Tryd.prog.info? 40).map (·.size) = some rh.toArray.size) := by rw [← hrh]; exact rhash_size _ _ _ HR5.out
  have HRO : Hid (∀ u ∈ rh, u.oneCell' = true) := by rw [← hrh]; exact rhash_one _ _ _ HV5.out
  have HRS : Hid (zeroR1.toArray.size = rh.toArray.size) := by show _ = _; rw [← hrh]; simp [zeroR1, rhash, HR5.out]
  clear hrh
  have hz3 : ∀ w, (zeroValue 40).run Tryd.prog w = .ok (.agg zeroR1.toArray) w := zeroRrun
  go_upto_region 35 with (first | (refine wpList_store_row rfl 40 _ _ rfl w5.heap.size rh.toArray rfl rfl 40 zeroR1.toArray (Bl.new w5 _ _) HRI.out HRS.out (all_oneCell_toArray HRO.out) ?_) | fail)
  obtain ⟨w6, hw6⟩ : ∃ x, x = (w5.alloc (Obj.cells zeroR1.toArray 40)).setRow w5.heap.size rh.toArray := ⟨_, rfl⟩
  rw [← hw6]
  have HM6 : Hid (Bl w6 w5.heap.size rh 40) := by rw [hw6]; exact (Bl.new w5 _ _).setRow _
  have H56 : Hid (Below w5.heap.size w5 w6) := by rw [hw6]; exact below_setRow (below_new w5 _) (Nat.le_refl _) _
  obtain ⟨gm, hgm⟩ : ∃ y, y = w5.heap.size := ⟨_, rfl⟩
  rw [← hgm] at HM6 ⊢
  have hgm5 : w5.heap.size ≤ gm := by omega
  clear hw6 hgm hz3
  have HG6 : Hid (Big w6 gf (ys.length + 64)) := HG5.out.keep H56.out
  have HRF6 : Hid (Row w6 (some ⟨gf, 0, none⟩) (ys ++ marks 64)) := HRF5.out.keep H56.out
  have HRB6 : Hid (Row w6 ab ys) := HRB5.out.keep H56.out
  have HB6 : Hid (Below wb.heap.size wb w6) := HB5.out.trans (H56.out.mono HB5.out.size)
  clear HG5 HRF5 HRB5 HB5
  have hkept := kept_true (ys.length + 64) cf cb gf 0 ab ys w6 (by omega) rfl (by omega) HRF6.out HRB6.out HXB.out
  by_cases hE0 : EE = 0
  · obtain ⟨k, hp4, hk3, hh4⟩ := HL1.out hE0
    subst hp4
    subst hE0
    have HH4 : Hid (Hsh w4 k (regOf ys) ((ys.drop 32).take 64) (num8 (ys.drop 96))) := hh4
    obtain ⟨hm1, hm2, ao6, c6, hm3, hm4, hm5, hm6⟩ := HM5.out rfl
    obtain ⟨hst4, hz4, hln4, hN4⟩ := loaded hEE.out HXB.out hh4
    rw [← hm1, ← hm2] at hst4
    rw [← hm2, ← hm1] at hz4
    obtain ⟨v, hv⟩ : ∃ y : Slot, y = ⟨k, r5, past5, num8 (ys.drop 96) % 64, c6, ao6, (ys.drop 32).take (num8 (ys.drop 96) % 64)⟩ := ⟨_, rfl⟩
    have HVR : Hid (rh = v.row) := by show _ = _; rw [HRH.out, hv, hm3]; rfl
    have HV10 : Hid (v.row.length = 10) := by show _ = _; rw [hv]; simp [Slot.row, rhash, HR5.out]
    have HVG : Hid (v.g = k) := by rw [hv]; exact rfl
    have HVO : Hid (∀ a, v.ao = some a → w4.heap.size ≤ a.block) := by rw [hv]; exact hm6
    have HFV : Hid (∀ W, Below w6.heap.size w6 W ∨ But gf w6 W → Fit W B (lid + ys.length) v) := fun W hW => by
      have hst5 : HState w6 k r5 past5 ((ys.drop 32).take (num8 (ys.drop 96) % 64)) := (hst4.keep H45.out).keep H56.out
      have hrw6 : Row w6 ao6 ((ys.drop 32).take (num8 (ys.drop 96) % 64)) := hm5.keep H56.out
      rw [hv]
      refine ⟨?_, by show ∀ x ∈ r5, _; rw [hm1]; exact regOf_lt HXB.out, hz4, hln4.symm, hm4, ?_, by show past5 ≤ _; rw [hm2]; omega, by show num8 (ys.drop 96) % 64 ≤ _; omega, by show B ≤ k; omega⟩
      · rcases hW with h | h
        · exact hst5.keep h
        · exact hst5.but h (by show k ≠ gf; omega)
      · rcases hW with h | h
        · exact hrw6.keep h
        · exact hrw6.but h (fun a ha => by have := hm6 a ha; omega)
    replace hv := hide hv
    clear hm1 hm2 hm3 hm4 hm5 hm6 hst4 hz4 hln4 hN4 hh4
    rw [HVR.out] at HM6
    go_wp2_with (first | (go_at_call 34; refine (num_any _ _).mono ?_; rintro e wn ⟨rfl, hwn⟩; rw [hwn]; clear hwn wn) | (go_at_call 15; refine hkept.mono ?_; rintro e wn ⟨rfl, hwn⟩; rw [hwn]; clear hwn wn))
    go_loopw [21] (fun iv wr => ∃ n : Nat, n ≤ ys.length ∧ iv = .int .i64 (n : Int) ∧ Hid (Big wr gf (ys.length + 64)) ∧ Hid (But gf w6 wr)) (fun i _ => ys.length - (intOf i).toNat)
    case atStart => exact ⟨0, Nat.zero_le _, rfl, HG6, But.refl _ _⟩
    case round =>
      clear HG6
      obtain ⟨n, hn, rfl, HG, HBT⟩ := hrel
      have HBR : Hid (Below wb.heap.size wb wr) := HB6.out.trans (HBT.out.below hgf1 HB6.out.size)
      by_cases hlt : n < ys.length
      · obtain ⟨v0, hc0⟩ := HG.out.cell n (by omega)
        have fr0 := HG.out.frozen n
        have li : (n : Int) < (ys.length : Int) := by omega
        have li2 : (n : Int) < (ys.length : Int) + 64 := by omega
        have hdt : decide ((n : Int) < (ys.length : Int)) = true := decide_eq_true li
        go_wp2
        go_roundw
        case rel => exact ⟨n + 1, by omega, by go_num, HG.out.set n _, HBT.out.trans (But.setCell _ _ _ _)⟩
        case measure => simp [intOf]; omega
      · have hdt : decide ((n : Int) < (ys.length : Int)) = false := decide_eq_false (by omega)
        have XR : Hid (Fr wr w.heap.size 7 h t po ys.length c f) := X1.out.keep HBR.out
        have fr2 := XR.out.hs.frozen j
        have cc2 := XR.out.hcell j hst
        have lj : (j : Int) < 4 := by omega
        go_upto_region 43 with fail
        obtain ⟨u1, hu1⟩ : ∃ y : Slot, y = { f j with g := k } := ⟨_, rfl⟩
        have hug : hptr u1 = .pointer (some ⟨k, 0, none⟩) := by rw [hu1]; rfl
        obtain ⟨w7, hw7⟩ : ∃ x, x = wr.setCell ⟨w.heap.size + 1, j, none⟩ (.pointer (some ⟨k, 0, none⟩)) := ⟨_, rfl⟩
        rw [← hw7]
        have X3 : Hid (Fr w7 w.heap.size 7 h t po ys.length c (upd f j u1)) := by rw [hw7, ← hug]; exact XR.out.hput j hst u1 (by rw [hu1]; rfl)
        have hb7 : But (w.heap.size + 1) wr w7 := by rw [hw7]; exact But.setCell _ _ _ _
        have HM7 : Hid (Bl w7 gm v.row 40) := (HM6.out.but HBT.out (by omega)).but hb7 (by omega)
        have HU1 : Hid (u1.g = k) := by rw [hu1]; exact rfl
        clear hw7 hug hu1 fr2 cc2
        go_upto_region 44 with (first
          | (refine wpList_load_row rfl 40 _ rfl gm rfl 40 v.row.toArray (0, 0) _ HM7.out Tryd.underlying40 rfl (row_info v HV10.out) ?_)
          | (refine wpList_rput rfl rfl _ _ rfl X3.out j hst v HV10.out rfl rfl ?_)
          | fail)
        obtain ⟨wz, hwz⟩ : ∃ x, x = w7.setCells (w.heap.size + 2) (j * 10) v.row := ⟨_, rfl⟩
        rw [← hwz]
        have XZ : Hid (Fr wz w.heap.size 7 h t po ys.length c (upd f j v)) := by
          have := X3.out.rput j hst v (by rw [upd_same, HU1.out, HVG.out]) HV10.out
          rw [upd_upd] at this
          rw [hwz]; exact this
        have hbz : But (w.heap.size + 2) w7 wz := by rw [hwz]; exact But.setCells _ _ _ _
        have hsr := HBR.out.size
        have HBW : Hid (Below w.heap.size w wz) := ((HBB.out.trans (HBR.out.mono HBB.out.size)).trans (hb7.below (by omega) (Nat.le_trans HBB.out.size hsr))).trans (hbz.below (by omega) (Nat.le_trans (Nat.le_trans HBB.out.size hsr) hb7.size))
        have HCZ : Hid (Clear w.heap.size (upd f j v)) := HF.out.clear.put ⟨.inr (by rw [HVG.out]; omega), fun _ a ha => .inr (by have := HVO.out a ha; omega)⟩
        have HFZ : Hid (Fits wz B (lid + ys.length) (upd f j v)) := by
          have h0 : Fits wz B (lid + ys.length) f := (HF.out.keep HBW.out).up (by omega)
          refine h0.put (q := v) (i := j) ?_ ?_ ?_ ?_ ?_
          · refine ((HFV.out wr (.inr HBT.out)).but hb7 (by rw [HVG.out]; omega) (fun _ a ha => by have := HVO.out a ha; omega)).but hbz (by rw [HVG.out]; omega) (fun _ a ha => by have := HVO.out a ha; omega)
          · intro a ha _; have := (HF.out.each a ha).st.lt; rw [HVG.out]; omega
          · intro a ha _ hne b hb; have := (HF.out.each a ha).old hne b hb; rw [HVG.out]; omega
          · intro a ha _ _ b hb; have := HVO.out b hb; have := (HF.out.each a ha).st.lt; omega
          · intro _ b hb; have := HVO.out b hb; rw [HVG.out]; have := HH4.out.1.lt; omega
        have HBZ : Hid (Below B w wz) := HBW.out.mono hB
        have HKZ : Hid (Kept f w wz) := Kept.of HBW.out
        have HFR : Hid (∀ p, p < w.heap.size → Free f p → Free (upd f j v) p) := fun p hp h => h.put (by rw [HVG.out]; omega) (fun _ b hb => by have := HVO.out b hb; omega)
        clear hwz
        refine region_held_var (Two w.heap.size (upd f j v)) (by kernel_rfl) ?_
        intro A hA
        have hsz : A.tmps.size = 212 := by rw [hA]; rfl
        have e4 : A.eval (.tmp 4) = .pointer (some ⟨w.heap.size + 1, 0, none⟩) := by rw [hA]; rfl
        have e5 : A.eval (.tmp 5) = .pointer (some ⟨w.heap.size + 2, 0, none⟩) := by rw [hA]; rfl
        have e6 : A.eval (.tmp 6) = .pointer (some ⟨w.heap.size + 3, 0, none⟩) := by rw [hA]; rfl
        have e7 : A.eval (.tmp 7) = .pointer (some ⟨w.heap.size + 4, 0, none⟩) := by rw [hA]; rfl
        have XD : Hid (Fr wz.drew w.heap.size 7 h t po ys.length c (upd f j v)) := XZ.out.keep (Below.refl _ _).drew
        have HFD : Hid (Fits wz.drew B (lid + ys.length) (upd f j v)) := HFZ.out.keep (Below.refl _ _).drew
        have HBD : Hid (Below B w wz.drew) := below_drewN HBZ.out 1
        have HKD : Hid (Kept f w wz.drew) := fun x hx hn => HKZ.out x hx hn
        refine heldRun (i := 0) 210 (.agg (hcells (upd f j v)).toArray) rfl rfl (by kernel_rfl) (by kernel_rfl) (by kernel_rfl) (fun _ _ _ h => h) rfl (fun w hSw => by unfold execOp; simp [ev_put, hsz, sz_put, e4, e5, e6, e7]; rw [hall_of hSw.1]; rfl) (XD.out.two) ?_
        refine heldRun (i := 1) 211 (.agg (rcells (upd f j v)).toArray) rfl rfl (by kernel_rfl) (by kernel_rfl) (by kernel_rfl) (fun _ _ _ h => h) rfl (fun w hSw => by unfold execOp; simp [ev_put, hsz, sz_put, e4, e5, e6, e7]; rw [rall_of hSw.2 XD.out.ten]; rfl) (XD.out.two) ?_
        refine heldStore (i := 2) rfl rfl (by kernel_rfl) rfl (by unfold execOp; simp [ev_put, hsz, sz_put, e4, e5, e6, e7]; rw [XD.out.out]; rfl) (XD.out.two.put3 (.inl rfl) _) ?_
        refine heldStore (i := 3) rfl rfl (by kernel_rfl) rfl (by unfold execOp; simp [ev_put, hsz, sz_put, e4, e5, e6, e7]; rw [XD.out.out2]; rfl) ((XD.out.two.put3 (.inl rfl) _).put3 (.inr rfl) _) ?_
        refine heldRun (i := 4) 8 (.bool true) rfl rfl (by kernel_rfl) (by kernel_rfl) (by kernel_rfl) (fun _ _ _ h => h) rfl (fun w hSw => by unfold execOp; rfl) ((XD.out.two.put3 (.inl rfl) _).put3 (.inr rfl) _) ?_
        refine wpAnyH_done (by kernel_rfl) ?_ _
        subst hA
        simp only [put_mk, List.set_cons_succ, List.set_cons_zero]
        go_wp2
        refine bodyPost_ret (results_cells_tmp rfl _ _ (w.heap.size + 3) (w.heap.size + 4) 35 42 (hcells (upd f j v)).toArray (rcells (upd f j v)).toArray (0, 0) (0, 0) _ _ _ _ rfl ((XD.out.oh.setRow _).setRow_other (by omega) _) Tryd.underlying35 (by rw [(zero_of_info zeroP4info).2]; rfl) rfl ((XD.out.or.setRow_other (by omega) _).setRow _) Tryd.underlying42 (by rw [(zero_of_info zeroR4info).2, List.size_toArray, rcells_length _ XD.out.ten])) rfl ⟨(upd f j v), rfl, fin_ok HFD.out HCZ.out _ _, fin_below HBD.out hB _ _, fin_kept HKD.out _ _, HFR.out⟩
  · have hp4 := HL0.out hE0
    subst hp4
    have hei : ((EE : Int) == 0) = false := by rw [beq_eq_false_iff_ne]; omega
    have hei2 : ((EE : Int) != 0) = true := by rw [bne_iff_ne]; omega
    go_upto_region 44 with (first | (go_at_call 34; refine (num_any _ _).mono ?_; rintro e wn ⟨rfl, hwn⟩; rw [hwn]; clear hwn wn) | (go_at_call 15; refine hkept.mono ?_; rintro e wn ⟨rfl, hwn⟩; rw [hwn]; clear hwn wn))
    obtain ⟨wz, hwz⟩ : ∃ x, x = w6 := ⟨_, rfl⟩
    rw [← hwz]
    have XZ : Hid (Fr wz w.heap.size 7 h t po ys.length c f) := by rw [hwz]; exact X1.out.keep HB6.out
    have HBW : Hid (Below w.heap.size w wz) := by rw [hwz]; exact HBB.out.trans (HB6.out.mono HBB.out.size)
    have HFZ : Hid (Fits wz B (lid + ys.length) f) := (HF.out.keep HBW.out).up (by omega)
    have HCZ : Hid (Clear w.heap.size f) := HF.out.clear
    have HBZ : Hid (Below B w wz) := HBW.out.mono hB
    have HKZ : Hid (Kept f w wz) := Kept.of HBW.out
    have HFR : Hid (∀ p, p < w.heap.size → Free f p → Free f p) := fun _ _ h => h
    clear hwz
    refine region_held_var (Two w.heap.size f) (by kernel_rfl) ?_
    intro A hA
    have hsz : A.tmps.size = 212 := by rw [hA]; rfl
    have e4 : A.eval (.tmp 4) = .pointer (some ⟨w.heap.size + 1, 0, none⟩) := by rw [hA]; rfl
    have e5 : A.eval (.tmp 5) = .pointer (some ⟨w.heap.size + 2, 0, none⟩) := by rw [hA]; rfl
    have e6 : A.eval (.tmp 6) = .pointer (some ⟨w.heap.size + 3, 0, none⟩) := by rw [hA]; rfl
    have e7 : A.eval (.tmp 7) = .pointer (some ⟨w.heap.size + 4, 0, none⟩) := by rw [hA]; rfl
    have XD : Hid (Fr wz.drew w.heap.size 7 h t po ys.length c f) := XZ.out.keep (Below.refl _ _).drew
    have HFD : Hid (Fits wz.drew B (lid + ys.length) f) := HFZ.out.keep (Below.refl _ _).drew
    have HBD : Hid (Below B w wz.drew) := below_drewN HBZ.out 1
    have HKD : Hid (Kept f w wz.drew) := fun x hx hn => HKZ.out x hx hn
    refine heldRun (i := 0) 210 (.agg (hcells f).toArray) rfl rfl (by kernel_rfl) (by kernel_rfl) (by kernel_rfl) (fun _ _ _ h => h) rfl (fun w hSw => by unfold execOp; simp [ev_put, hsz, sz_put, e4, e5, e6, e7]; rw [hall_of hSw.1]; rfl) (XD.out.two) ?_
    refine heldRun (i := 1) 211 (.agg (rcells f).toArray) rfl rfl (by kernel_rfl) (by kernel_rfl) (by kernel_rfl) (fun _ _ _ h => h) rfl (fun w hSw => by unfold execOp; simp [ev_put, hsz, sz_put, e4, e5, e6, e7]; rw [rall_of hSw.2 XD.out.ten]; rfl) (XD.out.two) ?_
    refine heldStore (i := 2) rfl rfl (by kernel_rfl) rfl (by unfold execOp; simp [ev_put, hsz, sz_put, e4, e5, e6, e7]; rw [XD.out.out]; rfl) (XD.out.two.put3 (.inl rfl) _) ?_
    refine heldStore (i := 3) rfl rfl (by kernel_rfl) rfl (by unfold execOp; simp [ev_put, hsz, sz_put, e4, e5, e6, e7]; rw [XD.out.out2]; rfl) ((XD.out.two.put3 (.inl rfl) _).put3 (.inr rfl) _) ?_
    refine heldRun (i := 4) 8 (.bool true) rfl rfl (by kernel_rfl) (by kernel_rfl) (by kernel_rfl) (fun _ _ _ h => h) rfl (fun w hSw => by unfold execOp; rfl) ((XD.out.two.put3 (.inl rfl) _).put3 (.inr rfl) _) ?_
    refine wpAnyH_done (by kernel_rfl) ?_ _
    subst hA
    simp only [put_mk, List.set_cons_succ, List.set_cons_zero]
    go_wp2
    refine bodyPost_ret (results_cells_tmp rfl _ _ (w.heap.size + 3) (w.heap.size + 4) 35 42 (hcells f).toArray (rcells f).toArray (0, 0) (0, 0) _ _ _ _ rfl ((XD.out.oh.setRow _).setRow_other (by omega) _) Tryd.underlying35 (by rw [(zero_of_info zeroP4info).2]; rfl) rfl ((XD.out.or.setRow_other (by omega) _).setRow _) Tryd.underlying42 (by rw [(zero_of_info zeroR4info).2, List.size_toArray, rcells_length _ XD.out.ten])) rfl ⟨f, rfl, fin_ok HFD.out HCZ.out _ _, fin_below HBD.out hB _ _, fin_kept HKD.out _ _, HFR.out⟩
end Go.Proofs.YtjdglpfjemoodaaDoor
