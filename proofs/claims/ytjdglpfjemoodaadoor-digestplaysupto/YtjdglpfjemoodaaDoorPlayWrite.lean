/- A step of the script: Write. -/
import Derived.Test.YtjdglpfjemoodaaDoorPlayMath
import Derived.Test.YtjdglpfjemoodaaDoorRefWrite
import Derived.Test.YtjdglpfjemoodaaDoorSumsLaw
import Derived.Test.YtjdglpfjemoodaaDoorRows1
import Derived.Test.YtjdglpfjemoodaaDoorSumMath
import Derived.Test.YtjdglpfjemoodaaDoorPieceMath
namespace Go.Proofs.YtjdglpfjemoodaaDoor
open Go.RowKit
set_option linter.unusedSimpArgs false in
set_option maxHeartbeats 4000000 in
set_option maxRecDepth 100000 in
theorem played_write (ys : List Nat) (h t : Int) (po : Option Addr) (c B lid : Nat) (f : Nat → Slot) (w : World) (hh : -9223372036854775808 ≤ h ∧ h ≤ 9223372036854775807) (ht : -9223372036854775808 ≤ t ∧ t ≤ 9223372036854775807) (hF : Fits w B lid f) (hB : B ≤ w.heap.size) (hl : lid + ys.length ≤ 4194304) (hy : ∀ y ∈ ys, y < 256) (hP : Row w po ys) (hPo : ys ≠ [] → ∀ a, po = some a → a.block < B) (hB2 : 2 ≤ B) (hT : Roots w 0) :
    Calls Tryd.prog 19 #[.agg #[.int .i64 2, .int .i64 h, .int .i64 t, .slice po ys.length c], .agg (hcells f).toArray, .agg (rcells f).toArray] w fun e w' => ∃ f', e = .returned (.tuple #[.agg (hcells f').toArray, .agg (rcells f').toArray, .bool true]) ∧ Hid (Fits w' B (lid + ys.length) f' ∧ Below B w w' ∧ Kept f w w' ∧ ∀ p, p < w.heap.size → Free f p → Free f' p) := by
  have HF : Hid (Fits w B lid f) := hF
  obtain ⟨hh1, hh2⟩ := hh
  obtain ⟨ht1, ht2⟩ := ht
  have hz1 := (zero_of_info zeroP4info).1
  have hz2 := (zero_of_info zeroR4info).1
  have HY : Hid (∀ y ∈ ys, y < 256) := hy
  have HP : Hid (Row w po ys) := hP
  have HPO : Hid (ys ≠ [] → ∀ a, po = some a → a.block < B) := hPo
  have HT : Hid (Roots w 0) := hT
  clear hy hP hPo hT
  obtain ⟨wa, hwa⟩ : ∃ x, x = start w 2 h t po ys.length c f := ⟨_, rfl⟩
  have X0 : Hid (Fr wa w.heap.size 2 h t po ys.length c f) := by rw [hwa]; exact start_fr w 2 h t po ys.length c f fun j hj => (hF.each j hj).row10
  have HBA : Hid (Below w.heap.size w wa) := by rw [hwa]; exact start_below w 2 h t po ys.length c f
  unfold start at hwa
  clear hF
  have c0 := X0.out.c0
  have c1 := X0.out.c1
  have c2 := X0.out.c2
  have hsl := slotOf_lt h
  have hst := slotOf_lt t
  go_enter Tryd.func19, Tryd.ntmps19
  go_upto_region 1 with fail
  rw [← hwa]
  clear hwa
  go_quiet ((go_at_call 45; exact Calls.quiet_of_same (slot_any _ _ (by assumption) (by assumption))))
  generalize slotOf h = i at *
  generalize slotOf t = j at *
  rw [show w.heap.size + 1 + 1 + 1 + 1 = w.heap.size + 4 from rfl, show w.heap.size + 1 + 1 + 1 = w.heap.size + 3 from rfl, show w.heap.size + 1 + 1 = w.heap.size + 2 from rfl]
  obtain ⟨wb, hwb⟩ : ∃ x, x = wa.drewN nq := ⟨_, rfl⟩
  rw [← hwb]
  have X1 : Hid (Fr wb w.heap.size 2 h t po ys.length c f) := by rw [hwb]; exact X0.out.keep (below_drewN (Below.refl _ _) nq)
  have HBB : Hid (Below w.heap.size w wb) := by rw [hwb]; exact below_drewN HBA.out nq
  clear hwb c0 c1 c2 X0 HBA hh1 hh2 ht1 ht2
  have c0 := X1.out.c0
  have c3 := X1.out.c3
  go_wp2_with fail
  refine (lent_row c po ys wb (by omega) (HP.out.keep HBB.out)).mono ?_
  rintro e w1 ⟨gf, cf, rfl, h1⟩
  obtain ⟨hcf, hgf, hgl, hown, hrf, hb1⟩ := h1.out
  have HG1 : Hid (Big w1 gf (ys.length + 64)) := own_big hown
  have HRF : Hid (Row w1 (some ⟨gf, 0, none⟩) (ys ++ marks 64)) := hrf
  have X2 : Hid (Fr w1 w.heap.size 2 h t po ys.length c f) := X1.out.keep hb1
  have HBW : Hid (Below w.heap.size w w1) := HBB.out.trans (hb1.mono HBB.out.size)
  have hq1 : w.heap.size + 5 ≤ gf := Nat.le_trans X1.out.lt hgf
  have HF1 : Hid (Fits w1 B lid f) := HF.out.keep HBW.out
  clear h1 hrf hb1 c3 c0 X1 HBB hgf hown
  go_upto_region 8 with fail
  have hsl8 := slice_hi2 gf 0 (ys.length + 64) cf ys.length (ys.length : Int) rfl (by omega) (by omega)
  refine region_held_var (fun W => Fr W w.heap.size 2 h t po ys.length c f) (by kernel_rfl) ?_
  intro A hA
  have hsz : A.tmps.size = 212 := by rw [hA]; rfl
  have e3 : A.eval (.tmp 3) = .pointer (some ⟨w.heap.size, 0, none⟩) := by rw [hA]; rfl
  have e4 : A.eval (.tmp 4) = .pointer (some ⟨w.heap.size + 1, 0, none⟩) := by rw [hA]; rfl
  have e9 : A.eval (.tmp 9) = .int .i64 (i : Int) := by rw [hA]; rfl
  have e11 : A.eval (.tmp 11) = .slice (some ⟨gf, 0, none⟩) (ys.length + 64) cf := by rw [hA]; rfl
  have XD : Hid (Fr w1.drew w.heap.size 2 h t po ys.length c f) := X2.out.keep (Below.refl _ _).drew
  have li : (i : Int) < 4 := by omega
  refine heldMove (i := 0) 43 9 (.int .i64 (i : Int)) rfl rfl rfl (by kernel_rfl) (by kernel_rfl) (by kernel_rfl) (fun _ _ _ h => h) rfl (by simp [ev_put, hsz, sz_put, e3, e4, e9, e11]) (XD.out) ?_
  refine heldRun (i := 1) 44 (.pointer (some ⟨w.heap.size + 1, i, none⟩)) rfl rfl (by kernel_rfl) (by kernel_rfl) (by kernel_rfl) (fun _ _ _ h => h) rfl (fun w hSw => by unfold execOp; simp [ev_put, hsz, sz_put, e3, e4, e9, e11] <;> go_simp) (XD.out) ?_
  refine heldRun (i := 2) 45 (.pointer (some ⟨(f i).g, 0, none⟩)) rfl rfl (by kernel_rfl) (by kernel_rfl) (by kernel_rfl) (fun _ _ _ h => h) rfl (fun w hSw => by have cc := hSw.hcell i hsl; unfold execOp; simp [ev_put, hsz, sz_put, e3, e4, e9, e11] <;> go_simp) (XD.out) ?_
  refine heldMove (i := 3) 46 11 (.slice (some ⟨gf, 0, none⟩) (ys.length + 64) cf) rfl rfl rfl (by kernel_rfl) (by kernel_rfl) (by kernel_rfl) (fun _ _ _ h => h) rfl (by simp [ev_put, hsz, sz_put, e3, e4, e9, e11]) (XD.out) ?_
  refine heldRun (i := 4) 47 (.pointer (some ⟨w.heap.size, 3, none⟩)) rfl rfl (by kernel_rfl) (by kernel_rfl) (by kernel_rfl) (fun _ _ _ h => h) rfl (fun w hSw => by unfold execOp; simp [ev_put, hsz, sz_put, e3, e4, e9, e11] <;> go_simp) (XD.out) ?_
  refine heldRun (i := 5) 48 (.slice po ys.length c) rfl rfl (by kernel_rfl) (by kernel_rfl) (by kernel_rfl) (fun _ _ _ h => h) rfl (fun w hSw => by have cc := hSw.c3; unfold execOp; simp [ev_put, hsz, sz_put, e3, e4, e9, e11] <;> go_simp) (XD.out) ?_
  refine heldRun (i := 6) 49 (.int .i64 (ys.length : Int)) rfl rfl (by kernel_rfl) (by kernel_rfl) (by kernel_rfl) (fun _ _ _ h => h) rfl (fun w hSw => by unfold execOp; simp [ev_put, hsz, sz_put, e3, e4, e9, e11] <;> go_simp) (XD.out) ?_
  refine heldRun (i := 7) 50 (.slice (some ⟨gf, 0, none⟩) ys.length cf) rfl rfl (by kernel_rfl) (by kernel_rfl) (by kernel_rfl) (fun _ _ _ h => h) rfl (fun w hSw => by unfold execOp; simp [ev_put, hsz, sz_put, e3, e4, e9, e11] <;> go_simp) (XD.out) ?_
  refine heldCall (i := 8) 51 37 #[.pointer (some ⟨(f i).g, 0, none⟩), .slice (some ⟨gf, 0, none⟩) ys.length cf] rfl rfl (by kernel_rfl) rfl (by unfold execOp; simp [ev_put, hsz, sz_put, e3, e4, e9, e11] <;> go_simp) ?_
  have HFD : Hid (Fits w1.drew B lid f) := HF1.out.keep (Below.refl _ _).drew
  have HLn := (HFD.out.each i hsl).len
  have HLd := (HFD.out.each i hsl).lid
  have HPt := (HFD.out.each i hsl).past
  have HYg := (HFD.out.each i hsl).young
  have HGl := (HF.out.each i hsl).st.lt
  have HBD : Hid (Below w.heap.size w w1.drew) := below_drewN HBW.out 1
  refine (writeState_any (f i).g ys.length cf (f i).past (some ⟨gf, 0, none⟩) ys (f i).r (f i).bs _ (HFD.out.each i hsl).st (by omega) HY.out (HRF.out.take : Row w1 _ ys) (fun _ a ha => by cases ha; show gf ≠ _; omega) rfl (by omega) (HT.out.keep HBD.out) (by omega)).mono ?_
  rintro e w2 ⟨rfl, h2⟩
  have X3 : Hid (Fr w2 w.heap.size 2 h t po ys.length c f) := XD.out.but h2.out.2 (.inl HGl)
  have HS2 : Hid (HState w2 (f i).g (f i).r (f i).past ((f i).bs ++ ys)) := h2.out.1
  have HRF2 : Hid (Row w2 (some ⟨gf, 0, none⟩) (ys ++ marks 64)) := (show Row w1.drew (some ⟨gf, 0, none⟩) (ys ++ marks 64) from HRF.out).but h2.out.2 (fun a ha => by cases ha; show gf ≠ _; omega)
  have HG2 : Hid (Big w2 gf (ys.length + 64)) := (HG1.out.keep (Below.refl _ _).drew).but h2.out.2 (by omega)
  have HB2 : Hid (Below B w w2) := (HBD.out.mono hB).trans (h2.out.2.below HYg (Nat.le_trans hB HBD.out.size))
  have HK2 : Hid (Kept f w w2) := Kept.one HBD.out h2.out.2 hsl
  have HO2 : Hid (∀ a, a < 4 → a ≠ i → Fit w2 B lid (f a)) := fun a ha hne => (HFD.out.each a ha).but h2.out.2 (HFD.out.apart a i ha hsl hne) (HFD.out.aside a i ha hsl)
  have HR2 : Hid (Row w2 (f i).ao (f i).bs) := (HFD.out.each i hsl).row.but' h2.out.2 (HFD.out.aside i i hsl hsl)
  have HP2 : Hid (Row w2 po ys) := (HP.out.keep HBD.out).but' h2.out.2 (fun hne a ha => by have := HPO.out hne a ha; omega)
  have hs2 : w.heap.size + 5 ≤ w2.heap.size ∧ gf < w2.heap.size := ⟨X3.out.lt, by have := HRF2.out.lt (fun e => by have := congrArg List.length e; simp [marks_length] at this); exact this⟩
  refine ⟨_, rfl, X3.out, ?_⟩
  refine wpAnyH_done (by kernel_rfl) ?_ _
  subst hA
  simp only [put_mk, List.set_cons_succ, List.set_cons_zero]
  clear hsz e3 e4 e9 e11 XD X2 h2 HF1 HRF HFD HBD HBW hsl8
  go_upto_region 9 with fail
  refine region_held_var (fun W => Bl W w.heap.size [.int .i64 2, .int .i64 h, .int .i64 t, .slice po ys.length c] 46) (by kernel_rfl) ?_
  intro A hA
  have hsz : A.tmps.size = 212 := by rw [hA]; rfl
  have e3 : A.eval (.tmp 3) = .pointer (some ⟨w.heap.size, 0, none⟩) := by rw [hA]; rfl
  have e5 : A.eval (.tmp 5) = .pointer (some ⟨w.heap.size + 2, 0, none⟩) := by rw [hA]; rfl
  have e9 : A.eval (.tmp 9) = .int .i64 (i : Int) := by rw [hA]; rfl
  have XD : Hid (Fr w2.drew w.heap.size 2 h t po ys.length c f) := X3.out.keep (Below.refl _ _).drew
  refine heldMove (i := 0) 52 9 (.int .i64 (i : Int)) rfl rfl rfl (by kernel_rfl) (by kernel_rfl) (by kernel_rfl) (fun _ _ _ h => h) rfl (by simp [ev_put, hsz, sz_put, e3, e5, e9]) (XD.out.op) ?_
  refine heldMove (i := 1) 53 9 (.int .i64 (i : Int)) rfl rfl rfl (by kernel_rfl) (by kernel_rfl) (by kernel_rfl) (fun _ _ _ h => h) rfl (by simp [ev_put, hsz, sz_put, e3, e5, e9]) (XD.out.op) ?_
  refine heldRun (i := 2) 54 (.pointer (some ⟨w.heap.size + 2, i * 10, none⟩)) rfl rfl (by kernel_rfl) (by kernel_rfl) (by kernel_rfl) (fun _ _ _ h => h) rfl (fun w hSw => by unfold execOp; simp [ev_put, hsz, sz_put, e3, e5, e9] <;> go_simp) (XD.out.op) ?_
  refine heldRun (i := 4) 56 (.pointer (some ⟨w.heap.size, 3, none⟩)) rfl rfl (by kernel_rfl) (by kernel_rfl) (by kernel_rfl) (fun _ _ _ h => h) rfl (fun w hSw => by unfold execOp; simp [ev_put, hsz, sz_put, e3, e5, e9] <;> go_simp) (XD.out.op) ?_
  refine heldRun (i := 5) 57 (.slice po ys.length c) rfl rfl (by kernel_rfl) (by kernel_rfl) (by kernel_rfl) (fun _ _ _ h => h) rfl (fun w hSw => by have cc := hSw.cell 3; simp at cc; unfold execOp; simp [ev_put, hsz, sz_put, e3, e5, e9] <;> go_simp) (XD.out.op) ?_
  refine heldOne (i := 3) (w' := w2.drew) 55 (.agg (f i).row.toArray) rfl rfl (by kernel_rfl) rfl (by unfold execOp; simp [ev_put, hsz, sz_put, e3, e5, e9]; rw [rload_of XD.out.rs XD.out.ten i hsl]; rfl) XD.out.op ?_
  refine heldCall (i := 6) 58 46 #[.agg (f i).row.toArray, .slice po ys.length c] rfl rfl (by kernel_rfl) rfl (by unfold execOp; simp [ev_put, hsz, sz_put, e3, e5, e9] <;> go_simp) ?_
  refine (refWrite_any (f i).n (f i).cap (f i).past ys.length c (f i).ao po (f i).r (f i).bs ys w2.drew (HF.out.each i hsl).r8 HLn rfl (by omega) (show Row w2.drew (f i).ao (f i).bs from HR2.out) (show Row w2.drew po ys from HP2.out)).mono ?_
  rintro e w3 ⟨a3, c3, rfl, h3⟩
  obtain ⟨hr3, hc3, hb3, hf3⟩ := h3.out
  obtain ⟨v, hv⟩ : ∃ y : Slot, y = ⟨(f i).g, (f i).r, (f i).past, (f i).n + ys.length, c3, a3, (f i).bs ++ ys⟩ := ⟨_, rfl⟩
  have HVR : Hid (rhash (f i).r (f i).past (.slice a3 ((f i).n + ys.length) c3) = v.row) := by show _ = _; rw [hv]; rfl
  have HV10 : Hid (v.row.length = 10) := by show _ = _; rw [← HVR.out]; simp [rhash, (HF.out.each i hsl).r8]
  rw [HVR.out]
  have HVG : Hid (v.g = (f i).g) := by rw [hv]; exact rfl
  replace hv := hide hv
  have X4 : Hid (Fr w3 w.heap.size 2 h t po ys.length c f) := XD.out.keep hb3
  refine ⟨_, rfl, X4.out.op, ?_⟩
  refine heldRun (i := 7) 59 (.pointer (some ⟨w.heap.size + 2, i * 10, none⟩)) rfl rfl (by kernel_rfl) (by kernel_rfl) (by kernel_rfl) (fun _ _ _ h => h) rfl (fun w hSw => by unfold execOp; simp [ev_put, hsz, sz_put, e3, e5, e9] <;> go_simp) (X4.out.op) ?_
  obtain ⟨w4, hw4⟩ : ∃ x, x = w3.setCells (w.heap.size + 2) (i * 10) v.row := ⟨_, rfl⟩
  have X5 : Hid (Fr w4 w.heap.size 2 h t po ys.length c (upd f i v)) := by rw [hw4]; exact X4.out.rput i hsl v HVG.out HV10.out
  have hb4 : But (w.heap.size + 2) w3 w4 := by rw [hw4]; exact But.setCells _ _ _ _
  have hw4r := rowstore (q := w.heap.size) w3 i v (X4.out.there i hsl) HV10.out
  rw [← hw4] at hw4r
  refine heldStore (i := 8) (w' := w4) rfl rfl (by kernel_rfl) rfl (by unfold execOp; simp [ev_put, hsz, sz_put, e3, e5, e9]; rw [hw4r]; rfl) X5.out.op ?_
  have hs3 := hb3.size
  have HRF4 : Hid (Row w4 (some ⟨gf, 0, none⟩) (ys ++ marks 64)) := ((show Row w2.drew (some ⟨gf, 0, none⟩) (ys ++ marks 64) from HRF2.out).keep hb3).but hb4 (fun a ha => by cases ha; show gf ≠ _; omega)
  have HG4 : Hid (Big w4 gf (ys.length + 64)) := ((HG2.out.keep (Below.refl _ _).drew).keep hb3).but hb4 (by omega)
  have HB4 : Hid (Below B w w4) := (((HB2.out.trans (below_drewN (Below.refl _ _) 1)).trans (hb3.mono (Nat.le_trans hB (Nat.le_trans (by omega) hs2.1)))).trans (hb4.below (by omega) (by have := hs2.1; simp at hs3; omega)))
  have HP4 : Hid (Row w4 po ys) := ((show Row w2.drew po ys from HP2.out).keep hb3).but' hb4 (fun hne a ha => by have := HPO.out hne a ha; omega)
  have hf3' : ∀ a, a3 = some a → gf < a.block ∧ w.heap.size + 5 ≤ a.block := fun a ha => by have := hf3 a ha; simp at this; have := hs2.1; have := hs2.2; omega
  have HF4 : Hid (Fits w4 B (lid + ys.length) (upd f i v)) := by
    have h0 : ∀ a, a < 4 → a ≠ i → Fit w4 B (lid + ys.length) (f a) := fun a ha hne => by
      refine ((((HO2.out a ha hne).keep (Below.refl _ _).drew).keep hb3).but hb4 ?_ ?_).up (by omega)
      · have := (HF.out.each a ha).st.lt; omega
      · intro hne b hb; have := (HF.out.each a ha).old hne b hb; omega
    have hq : Fit w4 B (lid + ys.length) v := by
      rw [hv.out]
      refine ⟨((HS2.out.keep (Below.refl _ _).drew).keep hb3).but hb4 ?_, (HF.out.each i hsl).lt, (HF.out.each i hsl).zero, ?_, hc3, hr3.but hb4 ?_, HPt, ?_, HYg⟩
      · show (f i).g ≠ _; omega
      · show _ = ((f i).bs ++ ys).length; rw [List.length_append, ← HLn]
      · intro a ha; have := hf3' a ha; omega
      · show (f i).n + ys.length ≤ _; omega
    refine ⟨fun a ha => ?_, fun a b ha hb hne => ?_, fun a b ha hb => ?_⟩
    · by_cases e : a = i
      · rw [e, upd_same]; exact hq
      · rw [upd_other f v e]; exact h0 a ha e
    · rw [upd_g f i v HVG.out, upd_g f i v HVG.out]
      exact HF.out.apart a b ha hb hne
    · rw [upd_g f i v HVG.out]
      by_cases e : a = i
      · rw [e, upd_same]; intro hne x hx; rw [hv.out] at hx; have := hf3' x hx; have := (HF.out.each b hb).st.lt; omega
      · rw [upd_other f v e]; exact HF.out.aside a b ha hb
  have HK4 : Hid (Kept f w w4) := (Kept.keep (show Kept f w w2.drew from fun x hx hn => HK2.out x hx hn) hb3 (show w.heap.size ≤ w2.drew.heap.size by have := hs2.1; simp; omega)).but hb4 (by have := hs2.1; simp at hs3; omega) (by omega)
  have HC4 : Hid (Clear w.heap.size (upd f i v)) := HF.out.clear.put ⟨.inl (by rw [HVG.out]; exact HGl), fun hne a ha => .inr (by rw [hv.out] at ha; exact (hf3' a ha).2)⟩
  have HFR : Hid (∀ p, p < w.heap.size → Free f p → Free (upd f i v) p) := fun p hp h => h.put (by rw [HVG.out]; exact (h i hsl).1) (fun _ b hb => by rw [hv.out] at hb; have := hf3' b hb; omega)
  have HA4 : Hid (∀ a, a < 4 → (upd f i v a).g ≠ gf ∧ (upd f i v a).away gf) := fun a ha => by
    by_cases e : a = i
    · rw [e, upd_same]
      refine ⟨by rw [HVG.out]; omega, fun hne x hx => ?_⟩
      rw [hv.out] at hx; have := hf3' x hx; omega
    · rw [upd_other f v e]
      refine ⟨by have := (HF.out.each a ha).st.lt; omega, fun hne x hx => ?_⟩
      have := (HF.out.each a ha).old hne x hx; omega
  refine wpAnyH_done (by kernel_rfl) ?_ _
  subst hA
  simp only [put_mk, List.set_cons_succ, List.set_cons_zero]
  clear hsz e3 e5 e9 XD X4 X3 hw4r hw4 h3 hr3 hc3 hb3 hf3 hf3' hs3 hb4 HS2 HO2 HR2 HP2 HRF2 HB2 HLn HLd HPt HYg HGl HVR HV10 HVG hv li hs2
  have c3 := X5.out.c3
  go_wp2_with fail
  refine (kept_true (ys.length + 64) cf c gf 0 po ys w4 (by omega) rfl (by omega) HRF4.out HP4.out HY.out).mono ?_
  rintro e w5 ⟨rfl, hw5⟩
  subst hw5
  generalize upd f i v = F at *
  go_wp2
  go_loopw [12] (fun iv wr => ∃ k : Nat, k ≤ ys.length ∧ iv = .int .i64 (k : Int) ∧ Hid (Big wr gf (ys.length + 64)) ∧ Hid (But gf w5 wr)) (fun i _ => ys.length - (intOf i).toNat)
  case atStart => exact ⟨0, Nat.zero_le _, rfl, HG4, But.refl _ _⟩
  case round =>
    clear HG4
    obtain ⟨k, hk, rfl, HG, HBT⟩ := hrel
    have XR : Hid (Fr wr w.heap.size 2 h t po ys.length c F) := X5.out.but HBT.out (.inr hq1)
    have c3 := XR.out.c3
    by_cases hlt : k < ys.length
    · obtain ⟨v0, hc0⟩ := HG.out.cell k (by omega)
      have fr0 := HG.out.frozen k
      have li : (k : Int) < (ys.length : Int) := by omega
      have li2 : (k : Int) < (ys.length : Int) + 64 := by omega
      have hdt : decide ((k : Int) < (ys.length : Int)) = true := decide_eq_true li
      go_wp2
      go_roundw
      case rel => exact ⟨k + 1, by omega, by go_num, HG.out.set k _, HBT.out.trans (But.setCell _ _ _ _)⟩
      case measure => simp [intOf]; omega
    · have hdt : decide ((k : Int) < (ys.length : Int)) = false := decide_eq_false (by omega)
      go_upto_region 44 with fail
      obtain ⟨wz, hwz⟩ : ∃ x, x = wr := ⟨_, rfl⟩
      rw [← hwz]
      have XZ : Hid (Fr wz w.heap.size 2 h t po ys.length c F) := by rw [hwz]; exact XR
      have HFZ : Hid (Fits wz B (lid + ys.length) F) := by rw [hwz]; exact HF4.out.but HBT.out (fun a ha => (HA4.out a ha).1) (fun a ha => (HA4.out a ha).2)
      have HCZ : Hid (Clear w.heap.size F) := HC4
      have HBZ : Hid (Below B w wz) := by rw [hwz]; exact HB4.out.trans (HBT.out.below (by omega) (Nat.le_trans hB (Nat.le_trans (by omega) X5.out.lt)))
      have HKZ : Hid (Kept f w wz) := by rw [hwz]; exact HK4.out.but HBT.out (Nat.le_trans (by omega) X5.out.lt) (by omega)
      clear hwz
      refine region_held_var (Two w.heap.size F) (by kernel_rfl) ?_
      intro A hA
      have hsz : A.tmps.size = 212 := by rw [hA]; rfl
      have e4 : A.eval (.tmp 4) = .pointer (some ⟨w.heap.size + 1, 0, none⟩) := by rw [hA]; rfl
      have e5 : A.eval (.tmp 5) = .pointer (some ⟨w.heap.size + 2, 0, none⟩) := by rw [hA]; rfl
      have e6 : A.eval (.tmp 6) = .pointer (some ⟨w.heap.size + 3, 0, none⟩) := by rw [hA]; rfl
      have e7 : A.eval (.tmp 7) = .pointer (some ⟨w.heap.size + 4, 0, none⟩) := by rw [hA]; rfl
      have XD : Hid (Fr wz.drew w.heap.size 2 h t po ys.length c F) := XZ.out.keep (Below.refl _ _).drew
      have HFD : Hid (Fits wz.drew B (lid + ys.length) F) := HFZ.out.keep (Below.refl _ _).drew
      have HBD : Hid (Below B w wz.drew) := below_drewN HBZ.out 1
      have HKD : Hid (Kept f w wz.drew) := fun x hx hn => HKZ.out x hx hn
      refine heldRun (i := 0) 210 (.agg (hcells F).toArray) rfl rfl (by kernel_rfl) (by kernel_rfl) (by kernel_rfl) (fun _ _ _ h => h) rfl (fun w hSw => by unfold execOp; simp [ev_put, hsz, sz_put, e4, e5, e6, e7]; rw [hall_of hSw.1]; rfl) (XD.out.two) ?_
      refine heldRun (i := 1) 211 (.agg (rcells F).toArray) rfl rfl (by kernel_rfl) (by kernel_rfl) (by kernel_rfl) (fun _ _ _ h => h) rfl (fun w hSw => by unfold execOp; simp [ev_put, hsz, sz_put, e4, e5, e6, e7]; rw [rall_of hSw.2 XD.out.ten]; rfl) (XD.out.two) ?_
      refine heldStore (i := 2) rfl rfl (by kernel_rfl) rfl (by unfold execOp; simp [ev_put, hsz, sz_put, e4, e5, e6, e7]; rw [XD.out.out]; rfl) (XD.out.two.put3 (.inl rfl) _) ?_
      refine heldStore (i := 3) rfl rfl (by kernel_rfl) rfl (by unfold execOp; simp [ev_put, hsz, sz_put, e4, e5, e6, e7]; rw [XD.out.out2]; rfl) ((XD.out.two.put3 (.inl rfl) _).put3 (.inr rfl) _) ?_
      refine heldRun (i := 4) 8 (.bool true) rfl rfl (by kernel_rfl) (by kernel_rfl) (by kernel_rfl) (fun _ _ _ h => h) rfl (fun w hSw => by unfold execOp; rfl) ((XD.out.two.put3 (.inl rfl) _).put3 (.inr rfl) _) ?_
      refine wpAnyH_done (by kernel_rfl) ?_ _
      subst hA
      simp only [put_mk, List.set_cons_succ, List.set_cons_zero]
      go_wp2
      refine bodyPost_ret (results_cells_tmp rfl _ _ (w.heap.size + 3) (w.heap.size + 4) 35 42 (hcells F).toArray (rcells F).toArray (0, 0) (0, 0) _ _ _ _ rfl ((XD.out.oh.setRow _).setRow_other (by omega) _) Tryd.underlying35 (by rw [(zero_of_info zeroP4info).2]; rfl) rfl ((XD.out.or.setRow_other (by omega) _).setRow _) Tryd.underlying42 (by rw [(zero_of_info zeroR4info).2, List.size_toArray, rcells_length _ XD.out.ten])) rfl ⟨F, rfl, fin_ok HFD.out HCZ.out _ _, fin_below HBD.out hB _ _, fin_kept HKD.out _ _, HFR.out⟩
end Go.Proofs.YtjdglpfjemoodaaDoor
