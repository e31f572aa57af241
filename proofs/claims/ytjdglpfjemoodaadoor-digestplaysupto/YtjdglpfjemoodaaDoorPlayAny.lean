/- A step of the script, whatever its kind. -/
import Derived.Test.YtjdglpfjemoodaaDoorPlayNew
import Derived.Test.YtjdglpfjemoodaaDoorPlaySum
import Derived.Test.YtjdglpfjemoodaaDoorPlayCopy
import Derived.Test.YtjdglpfjemoodaaDoorPlayWrite
import Derived.Test.YtjdglpfjemoodaaDoorPlaySave
import Derived.Test.YtjdglpfjemoodaaDoorPlayLoad
import Derived.Test.YtjdglpfjemoodaaDoorPlayMove
import Derived.Test.YtjdglpfjemoodaaDoorPlayMath
import Derived.Test.YtjdglpfjemoodaaDoorSumMath
import Derived.Test.YtjdglpfjemoodaaDoorRefHash
import Derived.Test.YtjdglpfjemoodaaDoorLive2
namespace Go.Proofs.YtjdglpfjemoodaaDoor
open Go.RowKit

theorem played_any (ys : List Nat) (k h t : Int) (po : Option Addr) (c B lid : Nat) (f : Nat → Slot) (w : World) (hh : -9223372036854775808 ≤ h ∧ h ≤ 9223372036854775807) (ht : -9223372036854775808 ≤ t ∧ t ≤ 9223372036854775807) (hF : Fits w B lid f) (hB : B ≤ w.heap.size)
    (hl : lid + ys.length ≤ 4194304) (h64 : 64 ≤ lid) (hy : ∀ y ∈ ys, y < 256) (hP : Row w po ys) (hPo : ys ≠ [] → ∀ a, po = some a → a.block < B) (hB2 : 2 ≤ B) (hT : Roots w 0) (hT1 : Roots w 1) :
    Calls Tryd.prog 19 #[.agg #[.int .i64 k, .int .i64 h, .int .i64 t, .slice po ys.length c], .agg (hcells f).toArray, .agg (rcells f).toArray] w fun e w' => ∃ f', e = .returned (.tuple #[.agg (hcells f').toArray, .agg (rcells f').toArray, .bool true]) ∧ Hid (Fits w' B (lid + ys.length) f' ∧ Below B w w' ∧ Kept f w w' ∧ ∀ p, p < w.heap.size → Free f p → Free f' p) := by
  by_cases h1 : k = 1
  · rw [h1]; exact played_new h t po ys.length c B lid f w hh ht hF hB
  by_cases h2 : k = 2
  · rw [h2]; exact played_write ys h t po c B lid f w hh ht hF hB hl hy hP hPo hB2 hT
  by_cases h3 : k = 3
  · rw [h3]; exact played_sum h t po ys.length c B lid f w hh ht hF hB hl hT hT1
  by_cases h4 : k = 4
  · rw [h4]; exact played_size h t po ys.length c B lid f w hh ht hF hB hl
  by_cases h5 : k = 5
  · rw [h5]; exact played_copy h t po ys.length c B lid f w hh ht hF hB
  by_cases h6 : k = 6
  · rw [h6]; exact played_save h t po ys.length c B lid f w hh ht hF hB hl hT1
  by_cases h7 : k = 7
  · rw [h7]; exact played_load ys h t po c B lid f w hh ht hF hB hl h64 hy hP
  by_cases h8 : k = 8
  · rw [h8]; exact played_move ys h t po c B lid f w hh ht hF hB hl h64 hP hT1
  exact played_else k h t po ys.length c B lid f w hh ht hF hB ⟨h1, h2, h3, h4, h5, h6, h7, h8⟩
end Go.Proofs.YtjdglpfjemoodaaDoor
/- The walk of the law DigestPlays: for every script it returns true and turns nothing old; the tables of roots are a condition. -/
namespace Go.Proofs.YtjdglpfjemoodaaDoor
open Go.RowKit
set_option linter.unusedSimpArgs false in
set_option maxHeartbeats 4000000 in
set_option maxRecDepth 100000 in
theorem digestPlays_walk (m mc : Nat) (so : Option Addr) (l : List Item) (w : World) (hm : m = l.length) (hml : m ≤ 1048576) (htl : tot l ≤ 1048576) (hl : ORow w so l) (hT : Roots w 0) (hT1 : Roots w 1) :
    Calls Tryd.prog 5 #[.slice so m mc] w fun e w' => e = .returned (.bool true) ∧ Below w.heap.size w w' := by
  have HM : Hid (m = l.length) := hm
  have HL : Hid (ORow w so l) := hl
  have HTL : Hid (tot l ≤ 1048576) := htl
  have HT : Hid (Roots w 0) := hT
  have HT1 : Hid (Roots w 1) := hT1
  have hw2 : 2 ≤ w.heap.size := hT1.lt
  have hz1 := (zero_of_info zeroP4info).1
  have hz2 := (zero_of_info zeroR4info).1
  clear hm hl hT hT1 htl
  go_enter Tryd.func5, Tryd.ntmps5
  go_wp2_with fail
  refine (newState_any w).mono ?_
  rintro e w1 ⟨g0, rfl, h1⟩
  obtain ⟨hg0, hg0l, hs0, hb1⟩ := h1.out
  clear h1
  go_wp2_with fail
  refine (newState_any w1).mono ?_
  rintro e w2 ⟨g1, rfl, h2⟩
  obtain ⟨hg1, hg1l, hs1, hb2⟩ := h2.out
  clear h2
  go_wp2_with fail
  refine (newState_any w2).mono ?_
  rintro e w3 ⟨g2, rfl, h3⟩
  obtain ⟨hg2, hg2l, hs2, hb3⟩ := h3.out
  clear h3
  go_wp2_with fail
  refine (newState_any w3).mono ?_
  rintro e w4 ⟨g3, rfl, h4⟩
  obtain ⟨hg3, hg3l, hs3, hb4⟩ := h4.out
  clear h4
  have HF4 : Hid (Fits w4 w.heap.size 64 (begun g0 g1 g2 g3)) := begun_fits (((hs0.keep hb2).keep hb3).keep hb4) ((hs1.keep hb3).keep hb4) (hs2.keep hb4) hs3 hg0 (by omega) (by omega) (by omega)
  have HB4 : Hid (Below w.heap.size w w4) := ((hb1.trans (hb2.mono hb1.size)).trans (hb3.mono (Nat.le_trans hb1.size hb2.size))).trans (hb4.mono (Nat.le_trans (Nat.le_trans hb1.size hb2.size) hb3.size))
  obtain ⟨f0, hf0⟩ : ∃ y, y = begun g0 g1 g2 g3 := ⟨_, rfl⟩
  have HPI : Hid ((Tryd.prog.info? 35).map (·.size) = some (hcells f0).toArray.size) := by show _ = _; rw [(zero_of_info zeroP4info).2]; rfl
  have HRI : Hid ((Tryd.prog.info? 42).map (·.size) = some (rcells f0).toArray.size) := by show _ = _; rw [(zero_of_info zeroR4info).2, hf0]; rfl
  have HRZ : Hid (zeroR4.toArray.size = (rcells f0).toArray.size) := by rw [hf0]; rfl
  clear hs0 hs1 hs2 hs3 hb1 hb2 hb3 hb4
  rw [← hf0] at HF4
  have HF0 : Hid (f0 = begun g0 g1 g2 g3) := hf0
  clear hf0
  go_upto_region 2 with (first
    | (refine wpList_build_eq rfl 35 _ rfl (hcells f0).toArray (by rw [HF0.out]; kernel_rfl) ?_)
    | (refine wpList_store_row rfl 35 _ _ rfl w4.heap.size (hcells f0).toArray rfl rfl 35 zeroP4.toArray (Bl.new w4 _ _) HPI.out rfl (all_oneCell_toArray (hcells_one f0)) ?_)
    | fail)
  obtain ⟨w5, hw5⟩ : ∃ x, x = (w4.alloc (Obj.cells zeroP4.toArray 35)).setRow w4.heap.size (hcells f0).toArray := ⟨_, rfl⟩
  rw [← hw5]
  have HP5 : Hid (Bl w5 w4.heap.size (hcells f0) 35) := by rw [hw5]; exact (Bl.new w4 _ _).setRow _
  have H45 : Hid (Below w4.heap.size w4 w5) := by rw [hw5]; exact below_setRow (below_new w4 _) (Nat.le_refl _) _
  obtain ⟨p3, hp3⟩ : ∃ y, y = w4.heap.size := ⟨_, rfl⟩
  rw [← hp3] at HP5 ⊢
  have HP3 : Hid (p3 = w4.heap.size) := hp3
  clear hw5 hp3
  go_wp2_with fail
  refine (refNew_any w5).mono ?_
  rintro e w6 ⟨rfl, h6⟩
  go_wp2_with fail
  refine (refNew_any w6).mono ?_
  rintro e w7 ⟨rfl, h7⟩
  go_wp2_with fail
  refine (refNew_any w7).mono ?_
  rintro e w8 ⟨rfl, h8⟩
  go_wp2_with fail
  refine (refNew_any w8).mono ?_
  rintro e w9 ⟨rfl, h9⟩
  have H59 : Hid (Below w5.heap.size w5 w9) := ((h6.trans (h7.mono h6.size)).trans (h8.mono (Nat.le_trans h6.size h7.size))).trans (h9.mono (Nat.le_trans (Nat.le_trans h6.size h7.size) h8.size))
  clear h6 h7 h8 h9
  go_upto_region 3 with (first
    | (refine wpList_build_eq rfl 42 _ rfl (rcells f0).toArray (by rw [HF0.out]; kernel_rfl) ?_)
    | (refine wpList_store_row rfl 42 _ _ rfl w9.heap.size (rcells f0).toArray rfl rfl 42 zeroR4.toArray (Bl.new w9 _ _) HRI.out HRZ.out (all_oneCell_toArray (rcells_one f0)) ?_)
    | fail)
  obtain ⟨wA, hwA⟩ : ∃ x, x = (w9.alloc (Obj.cells zeroR4.toArray 42)).setRow w9.heap.size (rcells f0).toArray := ⟨_, rfl⟩
  rw [← hwA]
  have HPA : Hid (Bl wA w9.heap.size (rcells f0) 42) := by rw [hwA]; exact (Bl.new w9 _ _).setRow _
  have H9A : Hid (Below w9.heap.size w9 wA) := by rw [hwA]; exact below_setRow (below_new w9 _) (Nat.le_refl _) _
  obtain ⟨p4, hp4⟩ : ∃ y, y = w9.heap.size := ⟨_, rfl⟩
  rw [← hp4] at HPA ⊢
  have HP4 : Hid (p4 = w9.heap.size) := hp4
  clear hwA hp4
  have HHA : Hid (Bl wA p3 (hcells f0) 35) := (HP5.out.keep H59.out).keep H9A.out
  have HFA : Hid (Fits wA w.heap.size (64 + tot (l.take 0)) f0) := (((HF4.out.keep H45.out).keep H59.out).keep H9A.out)
  have HBA : Hid (Below w.heap.size w wA) := ((HB4.out.trans (H45.out.mono HB4.out.size)).trans (H59.out.mono (Nat.le_trans HB4.out.size H45.out.size))).trans (H9A.out.mono (Nat.le_trans (Nat.le_trans HB4.out.size H45.out.size) H59.out.size))
  have hp34 : p3 < p4 := by have := HP5.out.lt; have := H59.out.size; rw [HP4.out]; omega
  have hp3w : w.heap.size ≤ p3 := by rw [HP3.out]; exact HB4.out.size
  have HAw : Hid (Free f0 p3 ∧ Free f0 p4) := by
    have h1 : ∀ a, a < 4 → (f0 a).g < p3 := fun a ha => by rw [HP3.out]; exact (HF4.out.each a ha).st.lt
    exact ⟨fun a ha => ⟨by have := h1 a ha; omega, fun hne => absurd (by rw [HF0.out]; rfl) hne⟩, fun a ha => ⟨by have := h1 a ha; omega, fun hne => absurd (by rw [HF0.out]; rfl) hne⟩⟩
  clear HP5 H45 H59 H9A HF4 HB4 HPI HRI HRZ hg0 hg1 hg2 hg3 hg0l hg1l hg2l hg3l
  go_wp2
  go_loopw [5] (fun iv wr => ∃ (k : Nat) (f : Nat → Slot), k ≤ m ∧ iv = .int .i64 (k : Int) ∧ Hid (Bl wr p3 (hcells f) 35) ∧ Hid (Bl wr p4 (rcells f) 42) ∧ Hid (Fits wr w.heap.size (64 + tot (l.take k)) f) ∧ Hid (Below w.heap.size w wr) ∧ Hid (Free f p3 ∧ Free f p4)) (fun i _ => m - (intOf i).toNat)
  case atStart => exact ⟨0, f0, Nat.zero_le _, rfl, HHA, HPA, HFA, HBA, HAw⟩
  case round =>
    clear HHA HPA HFA HBA HAw HP3 HP4
    obtain ⟨k, f, hk, rfl, HP3, HP4, HF, HB, HFR⟩ := hrel
    have hs := HB.out.size
    have hp3l : p3 < wr.heap.size := HP3.out.lt
    have hp4l : p4 < wr.heap.size := HP4.out.lt
    have HTEN : Hid (∀ j, j < 4 → (f j).row.length = 10) := ten_of HF.out
    by_cases hlt : k < m
    · have hdt : decide ((k : Int) < (m : Int)) = true := decide_eq_true (by omega)
      have li : (k : Int) < (m : Int) := by omega
      obtain ⟨q, hq⟩ : ∃ q, l[k]? = some q := ⟨l[k]'(by rw [← HM.out]; exact hlt), List.getElem?_eq_getElem _⟩
      obtain ⟨b, off, rfl, hcell⟩ : ∃ b off, so = some ⟨b, off, none⟩ ∧ ∀ i q, l[i]? = some q → w.rangeAt b (off + i * 4) q.cells ∧ q.ok w := by
        rcases HL.out with h | h
        · rw [HM.out, h] at hlt; simp at hlt
        · exact h
      obtain ⟨hrg, hok⟩ := hcell k q hq
      have HRG : Hid (w.rangeAt b (off + k * 4) q.cells) := hrg
      have HTS : Hid (64 + tot (l.take k) + q.ys.length = 64 + tot (l.take (k + 1))) := by show _ = _; rw [tot_succ l k q hq]; omega
      have hlid : 64 + tot (l.take k) + q.ys.length ≤ 4194304 := by have h1 := HTS.out; have h2 := tot_le l (k + 1); have h3 := HTL.out; omega
      have HES : Hid (Ess b (off + k * 4) p3 p4 q f wr) := ⟨range_keep hrg HB.out (range_block hrg (by simp [Item.cells])), HP3.out, HP4.out⟩
      have HPLAY : Hid (∀ W, Below wr.heap.size wr W → Calls Tryd.prog 19 #[.agg q.cells.toArray, .agg (hcells f).toArray, .agg (rcells f).toArray] W fun e w' => ∃ f', e = .returned (.tuple #[.agg (hcells f').toArray, .agg (rcells f').toArray, .bool true]) ∧ Hid (Fits w' w.heap.size (64 + tot (l.take (k + 1))) f' ∧ Below w.heap.size W w' ∧ Kept f W w' ∧ ∀ p, p < W.heap.size → Free f p → Free f' p)) := fun W hW => by
        have hwW : Below w.heap.size w W := HB.out.trans (hW.mono hs)
        rw [← HTS.out]
        exact played_any q.ys q.k q.h q.t q.po q.c w.heap.size (64 + tot (l.take k)) f W hok.h hok.t (HF.out.keep hW) (Nat.le_trans hs hW.size) hlid (by omega) hok.bytes (hok.row.keep hwW) (fun hne a ha => by
          have hr := hok.row
          obtain ⟨b', o', e'⟩ := hr.form (List.length_pos_iff.2 hne)
          rw [e'] at ha hr
          cases ha
          exact hr.lt hne) hw2 (HT.out.keep hwW) (HT1.out.keep hwW)
      clear hcell hok hrg hq hlid
      go_upto_region 6 with fail
      go_cut [6, 7, 8] (fun v6 v7 v8 wx => ∃ (p6 p7 : Nat) (f' : Nat → Slot), v6 = .pointer (some ⟨p6, 0, none⟩) ∧ v7 = .pointer (some ⟨p7, 0, none⟩) ∧ v8 = .bool true ∧ Hid (Bl wx p6 (hcells f') 35) ∧ Hid (Bl wx p7 (rcells f') 42) ∧ Hid (Aft wx p3 p4 f f' w (64 + tot (l.take (k + 1)))) ∧ Hid (p6 ≠ p3 ∧ p6 ≠ p4 ∧ p7 ≠ p3 ∧ p7 ≠ p4))
      case first =>
        refine region_held_var (Ess b (off + k * 4) p3 p4 q f) (by kernel_rfl) ?_
        intro A hA
        have hsz : A.tmps.size = 66 := by rw [hA]; rfl
        have e0 : A.eval (.tmp 0) = .slice (some ⟨b, off, none⟩) m mc := by rw [hA]; rfl
        have e3 : A.eval (.tmp 3) = .pointer (some ⟨p3, 0, none⟩) := by rw [hA]; rfl
        have e4 : A.eval (.tmp 4) = .pointer (some ⟨p4, 0, none⟩) := by rw [hA]; rfl
        have e5 : A.eval (.tmp 5) = .int .i64 (k : Int) := by rw [hA]; rfl
        refine heldMove (i := 0) 27 0 (.slice (some ⟨b, off, none⟩) m mc) rfl rfl rfl (by kernel_rfl) (by kernel_rfl) (by kernel_rfl) (fun _ _ _ h => h) rfl (by simp [ev_put, hsz, sz_put, e0, e3, e4, e5]) (HES.out.keep (Below.refl _ _).drew) ?_
        refine heldMove (i := 1) 28 5 (.int .i64 (k : Int)) rfl rfl rfl (by kernel_rfl) (by kernel_rfl) (by kernel_rfl) (fun _ _ _ h => h) rfl (by simp [ev_put, hsz, sz_put, e0, e3, e4, e5]) (HES.out.keep (Below.refl _ _).drew) ?_
        refine heldRun (i := 2) 29 (.pointer (some ⟨b, off + k * 4, none⟩)) rfl rfl (by kernel_rfl) (by kernel_rfl) (by kernel_rfl) (fun _ _ _ h => h) rfl (fun w hSw => by unfold execOp; simp [ev_put, hsz, sz_put, e0, e3, e4, e5] <;> go_simp) (HES.out.keep (Below.refl _ _).drew) ?_
        refine heldRun (i := 3) 30 (.agg q.cells.toArray) rfl rfl (by kernel_rfl) (by kernel_rfl) (by kernel_rfl) (fun _ _ _ h => h) rfl (fun w hSw => by unfold execOp; simp [ev_put, hsz, sz_put, e0, e3, e4, e5]; rw [item_load q hSw.1]; rfl) (HES.out.keep (Below.refl _ _).drew) ?_
        refine heldRun (i := 4) 31 (.agg (hcells f).toArray) rfl rfl (by kernel_rfl) (by kernel_rfl) (by kernel_rfl) (fun _ _ _ h => h) rfl (fun w hSw => by unfold execOp; simp [ev_put, hsz, sz_put, e0, e3, e4, e5]; rw [hall_at hSw.2.1]; rfl) (HES.out.keep (Below.refl _ _).drew) ?_
        refine heldRun (i := 5) 32 (.agg (rcells f).toArray) rfl rfl (by kernel_rfl) (by kernel_rfl) (by kernel_rfl) (fun _ _ _ h => h) rfl (fun w hSw => by unfold execOp; simp [ev_put, hsz, sz_put, e0, e3, e4, e5]; rw [rall_at hSw.2.2 HTEN.out]; rfl) (HES.out.keep (Below.refl _ _).drew) ?_
        have HC : Hid (Below wr.heap.size wr wr.drew) := (Below.refl _ _).drew
        have hdr : wr.drew.heap.size = wr.heap.size := rfl
        refine wpAnyH_all (rs := [6, 11, 12]) (by kernel_rfl) (by simp) ?_
        intro z hz
        simp only [List.mem_cons, List.not_mem_nil, or_false] at hz
        rcases hz with rfl | rfl | rfl
        · refine wpOp_call 33 19 #[.agg q.cells.toArray, .agg (hcells f).toArray, .agg (rcells f).toArray] rfl rfl rfl (by unfold execOp; simp [ev_put, hsz, sz_put, e0, e3, e4, e5] <;> go_simp) ?_
          refine (HPLAY.out _ HC.out).mono ?_
          rintro e w2 ⟨f', rfl, h2⟩
          have AF : Hid (Aft w2 p3 p4 f f' w (64 + tot (l.take (k + 1)))) := aft_of HP3.out HP4.out HFR.out HB.out HC.out h2.out
          have hsz2 : wr.drew.heap.size ≤ w2.heap.size := h2.out.2.1.size
          clear h2
          refine ⟨_, rfl, AF.out.ess HRG.out, ?_⟩
          refine heldMove (i := 7) 26 33 (.tuple #[.agg (hcells f').toArray, .agg (rcells f').toArray, .bool true]) rfl rfl rfl (by kernel_rfl) (by kernel_rfl) (by kernel_rfl) (fun _ _ _ h => h) rfl (by simp [ev_put, hsz, sz_put, e0, e3, e4, e5]) (AF.out.ess HRG.out) ?_
          refine heldRun (i := 8) 34 (.agg (hcells f').toArray) rfl rfl (by kernel_rfl) (by kernel_rfl) (by kernel_rfl) (fun _ _ _ h => h) rfl (fun w hSw => by unfold execOp; simp [ev_put, hsz, sz_put, e0, e3, e4, e5] <;> go_simp) (AF.out.ess HRG.out) ?_
          refine heldRun (i := 9) 35 (.agg (rcells f').toArray) rfl rfl (by kernel_rfl) (by kernel_rfl) (by kernel_rfl) (fun _ _ _ h => h) rfl (fun w hSw => by unfold execOp; simp [ev_put, hsz, sz_put, e0, e3, e4, e5] <;> go_simp) (AF.out.ess HRG.out) ?_
          refine heldRun (i := 10) 36 (.bool true) rfl rfl (by kernel_rfl) (by kernel_rfl) (by kernel_rfl) (fun _ _ _ h => h) rfl (fun w hSw => by unfold execOp; simp [ev_put, hsz, sz_put, e0, e3, e4, e5] <;> go_simp) (AF.out.ess HRG.out) ?_
          refine wpAnyH_all (rs := [11, 12]) (by kernel_rfl) (by simp) ?_
          intro z hz
          simp only [List.mem_cons, List.not_mem_nil, or_false] at hz
          rcases hz with rfl | rfl
          · obtain ⟨wX, p6, hqX⟩ : ∃ (x : World) (y : Nat), x = w2.alloc (Obj.cells zeroP4.toArray 35) ∧ y = w2.heap.size := ⟨_, _, rfl, rfl⟩
            have HNX : Below w2.heap.size w2 wX := by rw [hqX.1]; exact below_new _ _
            have hsX : wX.heap.size = w2.heap.size + 1 := by rw [hqX.1]; simp
            have hpX : p6 = w2.heap.size := hqX.2
            have B6 : Hid (Bl wX p6 zeroP4 35) := by rw [hqX.1, hqX.2]; exact Bl.new _ _ _
            have F6 : Hid (Free f' p6) := free_young AF.out.fits (by omega)
            replace AF := hide (AF.out.keep HNX)
            refine wpOp_one (w' := wX) 6 (.pointer (some ⟨p6, 0, none⟩)) rfl rfl rfl (by rw [hqX.1, hqX.2]; unfold execOp; simp [ev_put, hsz, sz_put, e0, e3, e4, e5, hz1, hz2] <;> go_simp) ⟨AF.out.ess HRG.out, ?_⟩
            clear hqX HNX
            refine wpAnyH_all (rs := [12]) (by kernel_rfl) (by simp) ?_
            intro z hz
            obtain rfl : z = 12 := by simpa using hz
            obtain ⟨wY, p7, hqY⟩ : ∃ (x : World) (y : Nat), x = wX.alloc (Obj.cells zeroR4.toArray 42) ∧ y = wX.heap.size := ⟨_, _, rfl, rfl⟩
            have HNY : Below wX.heap.size wX wY := by rw [hqY.1]; exact below_new _ _
            have hsY : wY.heap.size = wX.heap.size + 1 := by rw [hqY.1]; simp
            have hpY : p7 = wX.heap.size := hqY.2
            have B7 : Hid (Bl wY p7 zeroR4 42) := by rw [hqY.1, hqY.2]; exact Bl.new _ _ _
            replace B6 := hide (B6.out.keep HNY)
            have F7 : Hid (Free f' p7) := free_young AF.out.fits (by omega)
            replace AF := hide (AF.out.keep HNY)
            refine wpOp_one (w' := wY) 7 (.pointer (some ⟨p7, 0, none⟩)) rfl rfl rfl (by rw [hqY.1, hqY.2]; unfold execOp; simp [ev_put, hsz, sz_put, e0, e3, e4, e5, hz1, hz2] <;> go_simp) ⟨AF.out.ess HRG.out, ?_⟩
            clear hqY HNY
            obtain ⟨s6, s7, af6, af7, b6, b7⟩ := AF.out.out B6.out B7.out F6.out F7.out (by omega) (by omega) (by omega) (by omega) (by omega) (by omega) (by omega)
            have HNE : Hid (p6 ≠ p3 ∧ p6 ≠ p4 ∧ p7 ≠ p3 ∧ p7 ≠ p4) := ⟨by omega, by omega, by omega, by omega⟩
            clear hpX hsX hpY hsY hsz2 hdr
            refine heldStore (i := 13) rfl rfl (by kernel_rfl) rfl (by unfold execOp; simp [ev_put, hsz, sz_put, e0, e3, e4, e5]; rw [s6]; rfl) (af6.ess HRG.out) ?_
            refine heldStore (i := 14) rfl rfl (by kernel_rfl) rfl (by unfold execOp; simp [ev_put, hsz, sz_put, e0, e3, e4, e5]; rw [s7]; rfl) (af7.ess HRG.out) ?_
            refine heldRun (i := 15) 8 (.bool true) rfl rfl (by kernel_rfl) (by kernel_rfl) (by kernel_rfl) (fun _ _ _ h => h) rfl (fun w hSw => by unfold execOp; simp [ev_put, hsz, sz_put, e0, e3, e4, e5]) (af7.ess HRG.out) ?_
            refine wpAnyH_done (by kernel_rfl) ?_ _
            subst hA
            simp only [put_mk, List.set_cons_succ, List.set_cons_zero]
            go_wp2
            go_meet
            case rel => exact ⟨_, _, f', rfl, rfl, rfl, b6, b7, af7, HNE⟩
          · obtain ⟨wY, p7, hqY⟩ : ∃ (x : World) (y : Nat), x = w2.alloc (Obj.cells zeroR4.toArray 42) ∧ y = w2.heap.size := ⟨_, _, rfl, rfl⟩
            have HNY : Below w2.heap.size w2 wY := by rw [hqY.1]; exact below_new _ _
            have hsY : wY.heap.size = w2.heap.size + 1 := by rw [hqY.1]; simp
            have hpY : p7 = w2.heap.size := hqY.2
            have B7 : Hid (Bl wY p7 zeroR4 42) := by rw [hqY.1, hqY.2]; exact Bl.new _ _ _
            have F7 : Hid (Free f' p7) := free_young AF.out.fits (by omega)
            replace AF := hide (AF.out.keep HNY)
            refine wpOp_one (w' := wY) 7 (.pointer (some ⟨p7, 0, none⟩)) rfl rfl rfl (by rw [hqY.1, hqY.2]; unfold execOp; simp [ev_put, hsz, sz_put, e0, e3, e4, e5, hz1, hz2] <;> go_simp) ⟨AF.out.ess HRG.out, ?_⟩
            clear hqY HNY
            refine wpAnyH_all (rs := [11]) (by kernel_rfl) (by simp) ?_
            intro z hz
            obtain rfl : z = 11 := by simpa using hz
            obtain ⟨wX, p6, hqX⟩ : ∃ (x : World) (y : Nat), x = wY.alloc (Obj.cells zeroP4.toArray 35) ∧ y = wY.heap.size := ⟨_, _, rfl, rfl⟩
            have HNX : Below wY.heap.size wY wX := by rw [hqX.1]; exact below_new _ _
            have hsX : wX.heap.size = wY.heap.size + 1 := by rw [hqX.1]; simp
            have hpX : p6 = wY.heap.size := hqX.2
            have B6 : Hid (Bl wX p6 zeroP4 35) := by rw [hqX.1, hqX.2]; exact Bl.new _ _ _
            replace B7 := hide (B7.out.keep HNX)
            have F6 : Hid (Free f' p6) := free_young AF.out.fits (by omega)
            replace AF := hide (AF.out.keep HNX)
            refine wpOp_one (w' := wX) 6 (.pointer (some ⟨p6, 0, none⟩)) rfl rfl rfl (by rw [hqX.1, hqX.2]; unfold execOp; simp [ev_put, hsz, sz_put, e0, e3, e4, e5, hz1, hz2] <;> go_simp) ⟨AF.out.ess HRG.out, ?_⟩
            clear hqX HNX
            obtain ⟨s6, s7, af6, af7, b6, b7⟩ := AF.out.out B6.out B7.out F6.out F7.out (by omega) (by omega) (by omega) (by omega) (by omega) (by omega) (by omega)
            have HNE : Hid (p6 ≠ p3 ∧ p6 ≠ p4 ∧ p7 ≠ p3 ∧ p7 ≠ p4) := ⟨by omega, by omega, by omega, by omega⟩
            clear hpX hsX hpY hsY hsz2 hdr
            refine heldStore (i := 13) rfl rfl (by kernel_rfl) rfl (by unfold execOp; simp [ev_put, hsz, sz_put, e0, e3, e4, e5]; rw [s6]; rfl) (af6.ess HRG.out) ?_
            refine heldStore (i := 14) rfl rfl (by kernel_rfl) rfl (by unfold execOp; simp [ev_put, hsz, sz_put, e0, e3, e4, e5]; rw [s7]; rfl) (af7.ess HRG.out) ?_
            refine heldRun (i := 15) 8 (.bool true) rfl rfl (by kernel_rfl) (by kernel_rfl) (by kernel_rfl) (fun _ _ _ h => h) rfl (fun w hSw => by unfold execOp; simp [ev_put, hsz, sz_put, e0, e3, e4, e5]) (af7.ess HRG.out) ?_
            refine wpAnyH_done (by kernel_rfl) ?_ _
            subst hA
            simp only [put_mk, List.set_cons_succ, List.set_cons_zero]
            go_wp2
            go_meet
            case rel => exact ⟨_, _, f', rfl, rfl, rfl, b6, b7, af7, HNE⟩
        · obtain ⟨wX, p6, hqX⟩ : ∃ (x : World) (y : Nat), x = wr.drew.alloc (Obj.cells zeroP4.toArray 35) ∧ y = wr.drew.heap.size := ⟨_, _, rfl, rfl⟩
          have HNX : Below wr.drew.heap.size wr.drew wX := by rw [hqX.1]; exact below_new _ _
          have hsX : wX.heap.size = wr.drew.heap.size + 1 := by rw [hqX.1]; simp
          have hpX : p6 = wr.drew.heap.size := hqX.2
          have B6 : Hid (Bl wX p6 zeroP4 35) := by rw [hqX.1, hqX.2]; exact Bl.new _ _ _
          replace HC := hide (HC.out.trans (HNX.mono HC.out.size))
          refine wpOp_one (w' := wX) 6 (.pointer (some ⟨p6, 0, none⟩)) rfl rfl rfl (by rw [hqX.1, hqX.2]; unfold execOp; simp [ev_put, hsz, sz_put, e0, e3, e4, e5, hz1, hz2] <;> go_simp) ⟨HES.out.keep HC.out, ?_⟩
          clear hqX HNX
          refine wpAnyH_all (rs := [6, 12]) (by kernel_rfl) (by simp) ?_
          intro z hz
          simp only [List.mem_cons, List.not_mem_nil, or_false] at hz
          rcases hz with rfl | rfl
          · refine wpOp_call 33 19 #[.agg q.cells.toArray, .agg (hcells f).toArray, .agg (rcells f).toArray] rfl rfl rfl (by unfold execOp; simp [ev_put, hsz, sz_put, e0, e3, e4, e5] <;> go_simp) ?_
            refine (HPLAY.out _ HC.out).mono ?_
            rintro e w2 ⟨f', rfl, h2⟩
            have AF : Hid (Aft w2 p3 p4 f f' w (64 + tot (l.take (k + 1)))) := aft_of HP3.out HP4.out HFR.out HB.out HC.out h2.out
            have hsz2 : wX.heap.size ≤ w2.heap.size := h2.out.2.1.size
            have F6x : Free f p6 := free_young HF.out (by omega)
            have F6 := hide (h2.out.2.2.2 _ B6.out.lt F6x)
            replace B6 := hide (kept_bl h2.out.2.2.1 F6x B6.out)
            clear h2
            refine ⟨_, rfl, AF.out.ess HRG.out, ?_⟩
            refine heldMove (i := 7) 26 33 (.tuple #[.agg (hcells f').toArray, .agg (rcells f').toArray, .bool true]) rfl rfl rfl (by kernel_rfl) (by kernel_rfl) (by kernel_rfl) (fun _ _ _ h => h) rfl (by simp [ev_put, hsz, sz_put, e0, e3, e4, e5]) (AF.out.ess HRG.out) ?_
            refine heldRun (i := 8) 34 (.agg (hcells f').toArray) rfl rfl (by kernel_rfl) (by kernel_rfl) (by kernel_rfl) (fun _ _ _ h => h) rfl (fun w hSw => by unfold execOp; simp [ev_put, hsz, sz_put, e0, e3, e4, e5] <;> go_simp) (AF.out.ess HRG.out) ?_
            refine heldRun (i := 9) 35 (.agg (rcells f').toArray) rfl rfl (by kernel_rfl) (by kernel_rfl) (by kernel_rfl) (fun _ _ _ h => h) rfl (fun w hSw => by unfold execOp; simp [ev_put, hsz, sz_put, e0, e3, e4, e5] <;> go_simp) (AF.out.ess HRG.out) ?_
            refine heldRun (i := 10) 36 (.bool true) rfl rfl (by kernel_rfl) (by kernel_rfl) (by kernel_rfl) (fun _ _ _ h => h) rfl (fun w hSw => by unfold execOp; simp [ev_put, hsz, sz_put, e0, e3, e4, e5] <;> go_simp) (AF.out.ess HRG.out) ?_
            refine wpAnyH_all (rs := [12]) (by kernel_rfl) (by simp) ?_
            intro z hz
            obtain rfl : z = 12 := by simpa using hz
            obtain ⟨wY, p7, hqY⟩ : ∃ (x : World) (y : Nat), x = w2.alloc (Obj.cells zeroR4.toArray 42) ∧ y = w2.heap.size := ⟨_, _, rfl, rfl⟩
            have HNY : Below w2.heap.size w2 wY := by rw [hqY.1]; exact below_new _ _
            have hsY : wY.heap.size = w2.heap.size + 1 := by rw [hqY.1]; simp
            have hpY : p7 = w2.heap.size := hqY.2
            have B7 : Hid (Bl wY p7 zeroR4 42) := by rw [hqY.1, hqY.2]; exact Bl.new _ _ _
            replace B6 := hide (B6.out.keep HNY)
            have F7 : Hid (Free f' p7) := free_young AF.out.fits (by omega)
            replace AF := hide (AF.out.keep HNY)
            refine wpOp_one (w' := wY) 7 (.pointer (some ⟨p7, 0, none⟩)) rfl rfl rfl (by rw [hqY.1, hqY.2]; unfold execOp; simp [ev_put, hsz, sz_put, e0, e3, e4, e5, hz1, hz2] <;> go_simp) ⟨AF.out.ess HRG.out, ?_⟩
            clear hqY HNY
            obtain ⟨s6, s7, af6, af7, b6, b7⟩ := AF.out.out B6.out B7.out F6.out F7.out (by omega) (by omega) (by omega) (by omega) (by omega) (by omega) (by omega)
            have HNE : Hid (p6 ≠ p3 ∧ p6 ≠ p4 ∧ p7 ≠ p3 ∧ p7 ≠ p4) := ⟨by omega, by omega, by omega, by omega⟩
            clear hpX hsX hpY hsY hsz2 hdr
            refine heldStore (i := 13) rfl rfl (by kernel_rfl) rfl (by unfold execOp; simp [ev_put, hsz, sz_put, e0, e3, e4, e5]; rw [s6]; rfl) (af6.ess HRG.out) ?_
            refine heldStore (i := 14) rfl rfl (by kernel_rfl) rfl (by unfold execOp; simp [ev_put, hsz, sz_put, e0, e3, e4, e5]; rw [s7]; rfl) (af7.ess HRG.out) ?_
            refine heldRun (i := 15) 8 (.bool true) rfl rfl (by kernel_rfl) (by kernel_rfl) (by kernel_rfl) (fun _ _ _ h => h) rfl (fun w hSw => by unfold execOp; simp [ev_put, hsz, sz_put, e0, e3, e4, e5]) (af7.ess HRG.out) ?_
            refine wpAnyH_done (by kernel_rfl) ?_ _
            subst hA
            simp only [put_mk, List.set_cons_succ, List.set_cons_zero]
            go_wp2
            go_meet
            case rel => exact ⟨_, _, f', rfl, rfl, rfl, b6, b7, af7, HNE⟩
          · obtain ⟨wY, p7, hqY⟩ : ∃ (x : World) (y : Nat), x = wX.alloc (Obj.cells zeroR4.toArray 42) ∧ y = wX.heap.size := ⟨_, _, rfl, rfl⟩
            have HNY : Below wX.heap.size wX wY := by rw [hqY.1]; exact below_new _ _
            have hsY : wY.heap.size = wX.heap.size + 1 := by rw [hqY.1]; simp
            have hpY : p7 = wX.heap.size := hqY.2
            have B7 : Hid (Bl wY p7 zeroR4 42) := by rw [hqY.1, hqY.2]; exact Bl.new _ _ _
            replace B6 := hide (B6.out.keep HNY)
            replace HC := hide (HC.out.trans (HNY.mono HC.out.size))
            refine wpOp_one (w' := wY) 7 (.pointer (some ⟨p7, 0, none⟩)) rfl rfl rfl (by rw [hqY.1, hqY.2]; unfold execOp; simp [ev_put, hsz, sz_put, e0, e3, e4, e5, hz1, hz2] <;> go_simp) ⟨HES.out.keep HC.out, ?_⟩
            clear hqY HNY
            refine wpAnyH_all (rs := [6]) (by kernel_rfl) (by simp) ?_
            intro z hz
            obtain rfl : z = 6 := by simpa using hz
            refine wpOp_call 33 19 #[.agg q.cells.toArray, .agg (hcells f).toArray, .agg (rcells f).toArray] rfl rfl rfl (by unfold execOp; simp [ev_put, hsz, sz_put, e0, e3, e4, e5] <;> go_simp) ?_
            refine (HPLAY.out _ HC.out).mono ?_
            rintro e w2 ⟨f', rfl, h2⟩
            have AF : Hid (Aft w2 p3 p4 f f' w (64 + tot (l.take (k + 1)))) := aft_of HP3.out HP4.out HFR.out HB.out HC.out h2.out
            have hsz2 : wY.heap.size ≤ w2.heap.size := h2.out.2.1.size
            have F6x : Free f p6 := free_young HF.out (by omega)
            have F6 := hide (h2.out.2.2.2 _ B6.out.lt F6x)
            replace B6 := hide (kept_bl h2.out.2.2.1 F6x B6.out)
            have F7x : Free f p7 := free_young HF.out (by omega)
            have F7 := hide (h2.out.2.2.2 _ B7.out.lt F7x)
            replace B7 := hide (kept_bl h2.out.2.2.1 F7x B7.out)
            clear h2
            refine ⟨_, rfl, AF.out.ess HRG.out, ?_⟩
            refine heldMove (i := 7) 26 33 (.tuple #[.agg (hcells f').toArray, .agg (rcells f').toArray, .bool true]) rfl rfl rfl (by kernel_rfl) (by kernel_rfl) (by kernel_rfl) (fun _ _ _ h => h) rfl (by simp [ev_put, hsz, sz_put, e0, e3, e4, e5]) (AF.out.ess HRG.out) ?_
            refine heldRun (i := 8) 34 (.agg (hcells f').toArray) rfl rfl (by kernel_rfl) (by kernel_rfl) (by kernel_rfl) (fun _ _ _ h => h) rfl (fun w hSw => by unfold execOp; simp [ev_put, hsz, sz_put, e0, e3, e4, e5] <;> go_simp) (AF.out.ess HRG.out) ?_
            refine heldRun (i := 9) 35 (.agg (rcells f').toArray) rfl rfl (by kernel_rfl) (by kernel_rfl) (by kernel_rfl) (fun _ _ _ h => h) rfl (fun w hSw => by unfold execOp; simp [ev_put, hsz, sz_put, e0, e3, e4, e5] <;> go_simp) (AF.out.ess HRG.out) ?_
            refine heldRun (i := 10) 36 (.bool true) rfl rfl (by kernel_rfl) (by kernel_rfl) (by kernel_rfl) (fun _ _ _ h => h) rfl (fun w hSw => by unfold execOp; simp [ev_put, hsz, sz_put, e0, e3, e4, e5] <;> go_simp) (AF.out.ess HRG.out) ?_
            obtain ⟨s6, s7, af6, af7, b6, b7⟩ := AF.out.out B6.out B7.out F6.out F7.out (by omega) (by omega) (by omega) (by omega) (by omega) (by omega) (by omega)
            have HNE : Hid (p6 ≠ p3 ∧ p6 ≠ p4 ∧ p7 ≠ p3 ∧ p7 ≠ p4) := ⟨by omega, by omega, by omega, by omega⟩
            clear hpX hsX hpY hsY hsz2 hdr
            refine heldStore (i := 13) rfl rfl (by kernel_rfl) rfl (by unfold execOp; simp [ev_put, hsz, sz_put, e0, e3, e4, e5]; rw [s6]; rfl) (af6.ess HRG.out) ?_
            refine heldStore (i := 14) rfl rfl (by kernel_rfl) rfl (by unfold execOp; simp [ev_put, hsz, sz_put, e0, e3, e4, e5]; rw [s7]; rfl) (af7.ess HRG.out) ?_
            refine heldRun (i := 15) 8 (.bool true) rfl rfl (by kernel_rfl) (by kernel_rfl) (by kernel_rfl) (fun _ _ _ h => h) rfl (fun w hSw => by unfold execOp; simp [ev_put, hsz, sz_put, e0, e3, e4, e5]) (af7.ess HRG.out) ?_
            refine wpAnyH_done (by kernel_rfl) ?_ _
            subst hA
            simp only [put_mk, List.set_cons_succ, List.set_cons_zero]
            go_wp2
            go_meet
            case rel => exact ⟨_, _, f', rfl, rfl, rfl, b6, b7, af7, HNE⟩
        · obtain ⟨wY, p7, hqY⟩ : ∃ (x : World) (y : Nat), x = wr.drew.alloc (Obj.cells zeroR4.toArray 42) ∧ y = wr.drew.heap.size := ⟨_, _, rfl, rfl⟩
          have HNY : Below wr.drew.heap.size wr.drew wY := by rw [hqY.1]; exact below_new _ _
          have hsY : wY.heap.size = wr.drew.heap.size + 1 := by rw [hqY.1]; simp
          have hpY : p7 = wr.drew.heap.size := hqY.2
          have B7 : Hid (Bl wY p7 zeroR4 42) := by rw [hqY.1, hqY.2]; exact Bl.new _ _ _
          replace HC := hide (HC.out.trans (HNY.mono HC.out.size))
          refine wpOp_one (w' := wY) 7 (.pointer (some ⟨p7, 0, none⟩)) rfl rfl rfl (by rw [hqY.1, hqY.2]; unfold execOp; simp [ev_put, hsz, sz_put, e0, e3, e4, e5, hz1, hz2] <;> go_simp) ⟨HES.out.keep HC.out, ?_⟩
          clear hqY HNY
          refine wpAnyH_all (rs := [6, 11]) (by kernel_rfl) (by simp) ?_
          intro z hz
          simp only [List.mem_cons, List.not_mem_nil, or_false] at hz
          rcases hz with rfl | rfl
          · refine wpOp_call 33 19 #[.agg q.cells.toArray, .agg (hcells f).toArray, .agg (rcells f).toArray] rfl rfl rfl (by unfold execOp; simp [ev_put, hsz, sz_put, e0, e3, e4, e5] <;> go_simp) ?_
            refine (HPLAY.out _ HC.out).mono ?_
            rintro e w2 ⟨f', rfl, h2⟩
            have AF : Hid (Aft w2 p3 p4 f f' w (64 + tot (l.take (k + 1)))) := aft_of HP3.out HP4.out HFR.out HB.out HC.out h2.out
            have hsz2 : wY.heap.size ≤ w2.heap.size := h2.out.2.1.size
            have F7x : Free f p7 := free_young HF.out (by omega)
            have F7 := hide (h2.out.2.2.2 _ B7.out.lt F7x)
            replace B7 := hide (kept_bl h2.out.2.2.1 F7x B7.out)
            clear h2
            refine ⟨_, rfl, AF.out.ess HRG.out, ?_⟩
            refine heldMove (i := 7) 26 33 (.tuple #[.agg (hcells f').toArray, .agg (rcells f').toArray, .bool true]) rfl rfl rfl (by kernel_rfl) (by kernel_rfl) (by kernel_rfl) (fun _ _ _ h => h) rfl (by simp [ev_put, hsz, sz_put, e0, e3, e4, e5]) (AF.out.ess HRG.out) ?_
            refine heldRun (i := 8) 34 (.agg (hcells f').toArray) rfl rfl (by kernel_rfl) (by kernel_rfl) (by kernel_rfl) (fun _ _ _ h => h) rfl (fun w hSw => by unfold execOp; simp [ev_put, hsz, sz_put, e0, e3, e4, e5] <;> go_simp) (AF.out.ess HRG.out) ?_
            refine heldRun (i := 9) 35 (.agg (rcells f').toArray) rfl rfl (by kernel_rfl) (by kernel_rfl) (by kernel_rfl) (fun _ _ _ h => h) rfl (fun w hSw => by unfold execOp; simp [ev_put, hsz, sz_put, e0, e3, e4, e5] <;> go_simp) (AF.out.ess HRG.out) ?_
            refine heldRun (i := 10) 36 (.bool true) rfl rfl (by kernel_rfl) (by kernel_rfl) (by kernel_rfl) (fun _ _ _ h => h) rfl (fun w hSw => by unfold execOp; simp [ev_put, hsz, sz_put, e0, e3, e4, e5] <;> go_simp) (AF.out.ess HRG.out) ?_
            refine wpAnyH_all (rs := [11]) (by kernel_rfl) (by simp) ?_
            intro z hz
            obtain rfl : z = 11 := by simpa using hz
            obtain ⟨wX, p6, hqX⟩ : ∃ (x : World) (y : Nat), x = w2.alloc (Obj.cells zeroP4.toArray 35) ∧ y = w2.heap.size := ⟨_, _, rfl, rfl⟩
            have HNX : Below w2.heap.size w2 wX := by rw [hqX.1]; exact below_new _ _
            have hsX : wX.heap.size = w2.heap.size + 1 := by rw [hqX.1]; simp
            have hpX : p6 = w2.heap.size := hqX.2
            have B6 : Hid (Bl wX p6 zeroP4 35) := by rw [hqX.1, hqX.2]; exact Bl.new _ _ _
            replace B7 := hide (B7.out.keep HNX)
            have F6 : Hid (Free f' p6) := free_young AF.out.fits (by omega)
            replace AF := hide (AF.out.keep HNX)
            refine wpOp_one (w' := wX) 6 (.pointer (some ⟨p6, 0, none⟩)) rfl rfl rfl (by rw [hqX.1, hqX.2]; unfold execOp; simp [ev_put, hsz, sz_put, e0, e3, e4, e5, hz1, hz2] <;> go_simp) ⟨AF.out.ess HRG.out, ?_⟩
            clear hqX HNX
            obtain ⟨s6, s7, af6, af7, b6, b7⟩ := AF.out.out B6.out B7.out F6.out F7.out (by omega) (by omega) (by omega) (by omega) (by omega) (by omega) (by omega)
            have HNE : Hid (p6 ≠ p3 ∧ p6 ≠ p4 ∧ p7 ≠ p3 ∧ p7 ≠ p4) := ⟨by omega, by omega, by omega, by omega⟩
            clear hpX hsX hpY hsY hsz2 hdr
            refine heldStore (i := 13) rfl rfl (by kernel_rfl) rfl (by unfold execOp; simp [ev_put, hsz, sz_put, e0, e3, e4, e5]; rw [s6]; rfl) (af6.ess HRG.out) ?_
            refine heldStore (i := 14) rfl rfl (by kernel_rfl) rfl (by unfold execOp; simp [ev_put, hsz, sz_put, e0, e3, e4, e5]; rw [s7]; rfl) (af7.ess HRG.out) ?_
            refine heldRun (i := 15) 8 (.bool true) rfl rfl (by kernel_rfl) (by kernel_rfl) (by kernel_rfl) (fun _ _ _ h => h) rfl (fun w hSw => by unfold execOp; simp [ev_put, hsz, sz_put, e0, e3, e4, e5]) (af7.ess HRG.out) ?_
            refine wpAnyH_done (by kernel_rfl) ?_ _
            subst hA
            simp only [put_mk, List.set_cons_succ, List.set_cons_zero]
            go_wp2
            go_meet
            case rel => exact ⟨_, _, f', rfl, rfl, rfl, b6, b7, af7, HNE⟩
          · obtain ⟨wX, p6, hqX⟩ : ∃ (x : World) (y : Nat), x = wY.alloc (Obj.cells zeroP4.toArray 35) ∧ y = wY.heap.size := ⟨_, _, rfl, rfl⟩
            have HNX : Below wY.heap.size wY wX := by rw [hqX.1]; exact below_new _ _
            have hsX : wX.heap.size = wY.heap.size + 1 := by rw [hqX.1]; simp
            have hpX : p6 = wY.heap.size := hqX.2
            have B6 : Hid (Bl wX p6 zeroP4 35) := by rw [hqX.1, hqX.2]; exact Bl.new _ _ _
            replace B7 := hide (B7.out.keep HNX)
            replace HC := hide (HC.out.trans (HNX.mono HC.out.size))
            refine wpOp_one (w' := wX) 6 (.pointer (some ⟨p6, 0, none⟩)) rfl rfl rfl (by rw [hqX.1, hqX.2]; unfold execOp; simp [ev_put, hsz, sz_put, e0, e3, e4, e5, hz1, hz2] <;> go_simp) ⟨HES.out.keep HC.out, ?_⟩
            clear hqX HNX
            refine wpAnyH_all (rs := [6]) (by kernel_rfl) (by simp) ?_
            intro z hz
            obtain rfl : z = 6 := by simpa using hz
            refine wpOp_call 33 19 #[.agg q.cells.toArray, .agg (hcells f).toArray, .agg (rcells f).toArray] rfl rfl rfl (by unfold execOp; simp [ev_put, hsz, sz_put, e0, e3, e4, e5] <;> go_simp) ?_
            refine (HPLAY.out _ HC.out).mono ?_
            rintro e w2 ⟨f', rfl, h2⟩
            have AF : Hid (Aft w2 p3 p4 f f' w (64 + tot (l.take (k + 1)))) := aft_of HP3.out HP4.out HFR.out HB.out HC.out h2.out
            have hsz2 : wX.heap.size ≤ w2.heap.size := h2.out.2.1.size
            have F6x : Free f p6 := free_young HF.out (by omega)
            have F6 := hide (h2.out.2.2.2 _ B6.out.lt F6x)
            replace B6 := hide (kept_bl h2.out.2.2.1 F6x B6.out)
            have F7x : Free f p7 := free_young HF.out (by omega)
            have F7 := hide (h2.out.2.2.2 _ B7.out.lt F7x)
            replace B7 := hide (kept_bl h2.out.2.2.1 F7x B7.out)
            clear h2
            refine ⟨_, rfl, AF.out.ess HRG.out, ?_⟩
            refine heldMove (i := 7) 26 33 (.tuple #[.agg (hcells f').toArray, .agg (rcells f').toArray, .bool true]) rfl rfl rfl (by kernel_rfl) (by kernel_rfl) (by kernel_rfl) (fun _ _ _ h => h) rfl (by simp [ev_put, hsz, sz_put, e0, e3, e4, e5]) (AF.out.ess HRG.out) ?_
            refine heldRun (i := 8) 34 (.agg (hcells f').toArray) rfl rfl (by kernel_rfl) (by kernel_rfl) (by kernel_rfl) (fun _ _ _ h => h) rfl (fun w hSw => by unfold execOp; simp [ev_put, hsz, sz_put, e0, e3, e4, e5] <;> go_simp) (AF.out.ess HRG.out) ?_
            refine heldRun (i := 9) 35 (.agg (rcells f').toArray) rfl rfl (by kernel_rfl) (by kernel_rfl) (by kernel_rfl) (fun _ _ _ h => h) rfl (fun w hSw => by unfold execOp; simp [ev_put, hsz, sz_put, e0, e3, e4, e5] <;> go_simp) (AF.out.ess HRG.out) ?_
            refine heldRun (i := 10) 36 (.bool true) rfl rfl (by kernel_rfl) (by kernel_rfl) (by kernel_rfl) (fun _ _ _ h => h) rfl (fun w hSw => by unfold execOp; simp [ev_put, hsz, sz_put, e0, e3, e4, e5] <;> go_simp) (AF.out.ess HRG.out) ?_
            obtain ⟨s6, s7, af6, af7, b6, b7⟩ := AF.out.out B6.out B7.out F6.out F7.out (by omega) (by omega) (by omega) (by omega) (by omega) (by omega) (by omega)
            have HNE : Hid (p6 ≠ p3 ∧ p6 ≠ p4 ∧ p7 ≠ p3 ∧ p7 ≠ p4) := ⟨by omega, by omega, by omega, by omega⟩
            clear hpX hsX hpY hsY hsz2 hdr
            refine heldStore (i := 13) rfl rfl (by kernel_rfl) rfl (by unfold execOp; simp [ev_put, hsz, sz_put, e0, e3, e4, e5]; rw [s6]; rfl) (af6.ess HRG.out) ?_
            refine heldStore (i := 14) rfl rfl (by kernel_rfl) rfl (by unfold execOp; simp [ev_put, hsz, sz_put, e0, e3, e4, e5]; rw [s7]; rfl) (af7.ess HRG.out) ?_
            refine heldRun (i := 15) 8 (.bool true) rfl rfl (by kernel_rfl) (by kernel_rfl) (by kernel_rfl) (fun _ _ _ h => h) rfl (fun w hSw => by unfold execOp; simp [ev_put, hsz, sz_put, e0, e3, e4, e5]) (af7.ess HRG.out) ?_
            refine wpAnyH_done (by kernel_rfl) ?_ _
            subst hA
            simp only [put_mk, List.set_cons_succ, List.set_cons_zero]
            go_wp2
            go_meet
            case rel => exact ⟨_, _, f', rfl, rfl, rfl, b6, b7, af7, HNE⟩
      case rest =>
        obtain ⟨p6, p7, f', rfl, rfl, rfl, B6, B7, AF, HNE⟩ := hcut
        go_upto_region 9 with fail
        have HT2 : Hid (∀ j, j < 4 → (f' j).row.length = 10) := ten_of AF.out.fits
        refine region_held_var (fun W => Bl W p6 (hcells f') 35 ∧ Bl W p7 (rcells f') 42) (by kernel_rfl) ?_
        intro A hA
        have hsz : A.tmps.size = 66 := by rw [hA]; rfl
        have e3 : A.eval (.tmp 3) = .pointer (some ⟨p3, 0, none⟩) := by rw [hA]; rfl
        have e4 : A.eval (.tmp 4) = .pointer (some ⟨p4, 0, none⟩) := by rw [hA]; rfl
        have e6 : A.eval (.tmp 6) = .pointer (some ⟨p6, 0, none⟩) := by rw [hA]; rfl
        have e7 : A.eval (.tmp 7) = .pointer (some ⟨p7, 0, none⟩) := by rw [hA]; rfl
        have BD6 : Hid (Bl wc.drew p6 (hcells f') 35) := B6.out.keep (Below.refl _ _).drew
        have BD7 : Hid (Bl wc.drew p7 (rcells f') 42) := B7.out.keep (Below.refl _ _).drew
        obtain ⟨s3, s4, af⟩ := take_back (AF.out.keep (show Below wc.heap.size wc wc.drew from (Below.refl _ _).drew)) (by omega) hp3w (by omega) HTEN.out
        refine heldRun (i := 0) 39 (.agg (hcells f').toArray) rfl rfl (by kernel_rfl) (by kernel_rfl) (by kernel_rfl) (fun _ _ _ h => h) rfl (fun w hSw => by unfold execOp; simp [ev_put, hsz, sz_put, e3, e4, e6, e7]; rw [hall_at hSw.1]; rfl) (⟨BD6.out, BD7.out⟩) ?_
        refine heldRun (i := 1) 40 (.agg (rcells f').toArray) rfl rfl (by kernel_rfl) (by kernel_rfl) (by kernel_rfl) (fun _ _ _ h => h) rfl (fun w hSw => by unfold execOp; simp [ev_put, hsz, sz_put, e3, e4, e6, e7]; rw [rall_at hSw.2 HT2.out]; rfl) (⟨BD6.out, BD7.out⟩) ?_
        refine heldStore (i := 2) rfl rfl (by kernel_rfl) rfl (by unfold execOp; simp [ev_put, hsz, sz_put, e3, e4, e6, e7]; rw [s3]; rfl) ⟨BD6.out.setRow_other HNE.out.1 _, BD7.out.setRow_other HNE.out.2.2.1 _⟩ ?_
        refine heldStore (i := 3) rfl rfl (by kernel_rfl) rfl (by unfold execOp; simp [ev_put, hsz, sz_put, e3, e4, e6, e7]; rw [s4]; rfl) ⟨(BD6.out.setRow_other HNE.out.1 _).setRow_other HNE.out.2.1 _, (BD7.out.setRow_other HNE.out.2.2.1 _).setRow_other HNE.out.2.2.2 _⟩ ?_
        refine wpAnyH_done (by kernel_rfl) ?_ _
        subst hA
        simp only [put_mk, List.set_cons_succ, List.set_cons_zero]
        go_wp2
        go_roundw
        case rel => exact ⟨k + 1, f', by omega, by go_num, af.hs, af.rs, af.fits, af.below, ⟨af.f3, af.f4⟩⟩
        case measure => simp [intOf]; omega
    · have hdt : decide ((k : Int) < (m : Int)) = false := decide_eq_false (by omega)
      have hlid : 64 + tot (l.take k) ≤ 2097152 := by have h2 := tot_le l k; have h3 := HTL.out; omega
      go_wp2
      generalize wr = wE at *
      go_loopw [9] (fun iv wq => ∃ i : Nat, i ≤ 4 ∧ iv = .int .i64 (i : Int) ∧ Hid (Below wE.heap.size wE wq)) (fun i _ => 4 - (intOf i).toNat)
      case atStart => exact ⟨0, Nat.zero_le _, rfl, Below.refl _ _⟩
      case round =>
        obtain ⟨i, hi, rfl, HBE⟩ := hrel
        have HBW : Hid (Below w.heap.size w wr) := HB.out.trans (HBE.out.mono hs)
        by_cases hi4 : i < 4
        · have hdi : decide ((i : Int) < 4) = true := decide_eq_true (by omega)
          have li : (i : Int) < 4 := by omega
          have HFi : Hid (∀ W, Below wE.heap.size wE W → Fit W w.heap.size (64 + tot (l.take k)) (f i)) := fun W hW => (HF.out.each i hi4).keep hW
          have HLn := (HF.out.each i hi4).len
          have HLd := (HF.out.each i hi4).lid
          have HPt := (HF.out.each i hi4).past
          have HRt : Hid (∀ W, Below wE.heap.size wE W → Roots W 0 ∧ Roots W 1) := fun W hW => ⟨HT.out.keep (HB.out.trans (hW.mono hs)), HT1.out.keep (HB.out.trans (hW.mono hs))⟩
          have HSS : Hid (∀ W, Below wE.heap.size wE W → Bl W p3 (hcells f) 35 ∧ Bl W p4 (rcells f) 42) := fun W hW => ⟨HP3.out.keep hW, HP4.out.keep hW⟩
          have HTLn : Hid ((total (f i).r (f i).past (f i).bs).length = 32) := total_length _ _ (HF.out.each i hi4).r8
          go_upto_region 13 with fail
          refine region_held_var (fun W => Bl W p3 (hcells f) 35 ∧ Bl W p4 (rcells f) 42) (by kernel_rfl) ?_
          intro A hA
          have hsz : A.tmps.size = 66 := by rw [hA]; rfl
          have e3 : A.eval (.tmp 3) = .pointer (some ⟨p3, 0, none⟩) := by rw [hA]; rfl
          have e4 : A.eval (.tmp 4) = .pointer (some ⟨p4, 0, none⟩) := by rw [hA]; rfl
          have e9 : A.eval (.tmp 9) = .int .i64 (i : Int) := by rw [hA]; rfl
          have HD : Hid (Below wE.heap.size wE wr.drew) := below_drewN HBE.out 1
          refine heldMove (i := 0) 45 9 (.int .i64 (i : Int)) rfl rfl rfl (by kernel_rfl) (by kernel_rfl) (by kernel_rfl) (fun _ _ _ h => h) rfl (by simp [ev_put, hsz, sz_put, e3, e4, e9]) (HSS.out _ HD.out) ?_
          refine heldRun (i := 1) 46 (.pointer (some ⟨p3, i, none⟩)) rfl rfl (by kernel_rfl) (by kernel_rfl) (by kernel_rfl) (fun _ _ _ h => h) rfl (fun w hSw => by unfold execOp; simp [ev_put, hsz, sz_put, e3, e4, e9] <;> go_simp) (HSS.out _ HD.out) ?_
          refine heldRun (i := 2) 47 (.pointer (some ⟨(f i).g, 0, none⟩)) rfl rfl (by kernel_rfl) (by kernel_rfl) (by kernel_rfl) (fun _ _ _ h => h) rfl (fun w hSw => by have cc := hcell_at hSw.1 i hi4; unfold execOp; simp [ev_put, hsz, sz_put, e3, e4, e9] <;> go_simp) (HSS.out _ HD.out) ?_
          refine heldMove (i := 4) 49 9 (.int .i64 (i : Int)) rfl rfl rfl (by kernel_rfl) (by kernel_rfl) (by kernel_rfl) (fun _ _ _ h => h) rfl (by simp [ev_put, hsz, sz_put, e3, e4, e9]) (HSS.out _ HD.out) ?_
          refine heldRun (i := 5) 50 (.pointer (some ⟨p4, i * 10, none⟩)) rfl rfl (by kernel_rfl) (by kernel_rfl) (by kernel_rfl) (fun _ _ _ h => h) rfl (fun w hSw => by unfold execOp; simp [ev_put, hsz, sz_put, e3, e4, e9] <;> go_simp) (HSS.out _ HD.out) ?_
          refine heldRun (i := 6) 51 (.agg (f i).row.toArray) rfl rfl (by kernel_rfl) (by kernel_rfl) (by kernel_rfl) (fun _ _ _ h => h) rfl (fun w hSw => by unfold execOp; simp [ev_put, hsz, sz_put, e3, e4, e9]; rw [rload_at hSw.2 HTEN.out i hi4]; rfl) (HSS.out _ HD.out) ?_
          refine heldCall (i := 3) 48 20 #[.pointer (some ⟨(f i).g, 0, none⟩)] rfl rfl (by kernel_rfl) rfl (by unfold execOp; simp [ev_put, hsz, sz_put, e3, e4, e9] <;> go_simp) ?_
          refine (sumState_any (f i).g (f i).past (f i).r (f i).bs _ (HFi.out _ HD.out).st (HRt.out _ HD.out).1).mono ?_
          rintro e w2 ⟨rfl, h2⟩
          have HE : Hid (Below wE.heap.size wE w2) := HD.out.trans (h2.mono HD.out.size)
          clear HD h2
          have HD := HE
          clear HE
          refine ⟨_, rfl, HSS.out _ HD.out, ?_⟩
          refine heldCall (i := 7) 52 21 #[.agg (f i).row.toArray] rfl rfl (by kernel_rfl) rfl (by unfold execOp; simp [ev_put, hsz, sz_put, e3, e4, e9] <;> go_simp) ?_
          refine (refTotal_any (f i).n (f i).cap (f i).past (f i).ao (f i).r (f i).bs _ (HFi.out _ HD.out).r8 HLn (by omega) (by omega) (HFi.out _ HD.out).bytes (HFi.out _ HD.out).row (HRt.out _ HD.out).2).mono ?_
          rintro e w3 ⟨rfl, h3⟩
          have HE : Hid (Below wE.heap.size wE w3) := HD.out.trans (h3.mono HD.out.size)
          clear HD h3
          have HD := HE
          clear HE
          refine ⟨_, rfl, HSS.out _ HD.out, ?_⟩
          generalize total (f i).r (f i).past (f i).bs = sx at *
          have hq : ∀ W, (Op.equalIn 10000 24 (.agg (sx.map bv).toArray) (.agg (sx.map bv).toArray)).run Tryd.prog W = .ok true W := fun W => by rw [arr32_eq _ _ W HTLn.out HTLn.out]; simp
          refine heldRun (i := 8) 53 (.bool false) rfl rfl (by kernel_rfl) (by kernel_rfl) (by kernel_rfl) (fun _ _ _ h => h) rfl (fun w hSw => by unfold execOp; simp [ev_put, hsz, sz_put, e3, e4, e9] <;> go_simp) (HSS.out _ HD.out) ?_
          refine heldMove (i := 9) 54 53 (.bool false) rfl rfl rfl (by kernel_rfl) (by kernel_rfl) (by kernel_rfl) (fun _ _ _ h => h) rfl (by simp [ev_put, hsz, sz_put, e3, e4, e9]) (HSS.out _ HD.out) ?_
          refine heldMove (i := 10) 55 9 (.int .i64 (i : Int)) rfl rfl rfl (by kernel_rfl) (by kernel_rfl) (by kernel_rfl) (fun _ _ _ h => h) (wants 9 54 false rfl rfl (by simp [sz_put, hsz]) (by simp [ev_put, hsz, sz_put, e3, e4, e9])) (by simp [ev_put, hsz, sz_put, e3, e4, e9]) (HSS.out _ HD.out) ?_
          refine heldRun (i := 11) 56 (.pointer (some ⟨p3, i, none⟩)) rfl rfl (by kernel_rfl) (by kernel_rfl) (by kernel_rfl) (fun _ _ _ h => h) (wants 9 54 false rfl rfl (by simp [sz_put, hsz]) (by simp [ev_put, hsz, sz_put, e3, e4, e9])) (fun w hSw => by unfold execOp; simp [ev_put, hsz, sz_put, e3, e4, e9] <;> go_simp) (HSS.out _ HD.out) ?_
          refine heldRun (i := 12) 57 (.pointer (some ⟨(f i).g, 0, none⟩)) rfl rfl (by kernel_rfl) (by kernel_rfl) (by kernel_rfl) (fun _ _ _ h => h) (wants 9 54 false rfl rfl (by simp [sz_put, hsz]) (by simp [ev_put, hsz, sz_put, e3, e4, e9])) (fun w hSw => by have cc := hcell_at hSw.1 i hi4; unfold execOp; simp [ev_put, hsz, sz_put, e3, e4, e9] <;> go_simp) (HSS.out _ HD.out) ?_
          refine heldMove (i := 14) 59 9 (.int .i64 (i : Int)) rfl rfl rfl (by kernel_rfl) (by kernel_rfl) (by kernel_rfl) (fun _ _ _ h => h) (wants 9 54 false rfl rfl (by simp [sz_put, hsz]) (by simp [ev_put, hsz, sz_put, e3, e4, e9])) (by simp [ev_put, hsz, sz_put, e3, e4, e9]) (HSS.out _ HD.out) ?_
          refine heldRun (i := 15) 60 (.pointer (some ⟨p4, i * 10, none⟩)) rfl rfl (by kernel_rfl) (by kernel_rfl) (by kernel_rfl) (fun _ _ _ h => h) (wants 9 54 false rfl rfl (by simp [sz_put, hsz]) (by simp [ev_put, hsz, sz_put, e3, e4, e9])) (fun w hSw => by unfold execOp; simp [ev_put, hsz, sz_put, e3, e4, e9] <;> go_simp) (HSS.out _ HD.out) ?_
          refine heldRun (i := 16) 61 (.agg (f i).row.toArray) rfl rfl (by kernel_rfl) (by kernel_rfl) (by kernel_rfl) (fun _ _ _ h => h) (wants 9 54 false rfl rfl (by simp [sz_put, hsz]) (by simp [ev_put, hsz, sz_put, e3, e4, e9])) (fun w hSw => by unfold execOp; simp [ev_put, hsz, sz_put, e3, e4, e9]; rw [rload_at hSw.2 HTEN.out i hi4]; rfl) (HSS.out _ HD.out) ?_
          refine heldCall (i := 13) 58 22 #[.pointer (some ⟨(f i).g, 0, none⟩)] rfl rfl (by kernel_rfl) (wants 9 54 false rfl rfl (by simp [sz_put, hsz]) (by simp [ev_put, hsz, sz_put, e3, e4, e9])) (by unfold execOp; simp [ev_put, hsz, sz_put, e3, e4, e9] <;> go_simp) ?_
          refine (size_any (f i).g ((f i).past + (f i).n) _ (by omega) (by have := (HFi.out _ HD.out).st.1.size; rw [← HLn] at this; exact this)).mono ?_
          rintro e w4 ⟨rfl, hw4⟩
          rw [hw4]
          clear hw4 w4
          refine ⟨_, rfl, HSS.out _ HD.out, ?_⟩
          refine heldCall (i := 17) 62 23 #[.agg (f i).row.toArray] rfl rfl (by kernel_rfl) (wants 9 54 false rfl rfl (by simp [sz_put, hsz]) (by simp [ev_put, hsz, sz_put, e3, e4, e9])) (by unfold execOp; simp [ev_put, hsz, sz_put, e3, e4, e9] <;> go_simp) ?_
          refine (refSize_any (f i).n (f i).cap (f i).past (f i).ao (f i).r _ (HFi.out _ HD.out).r8 (by omega)).mono ?_
          rintro e w5 ⟨rfl, h5⟩
          have HE : Hid (Below wE.heap.size wE w5) := HD.out.trans (h5.mono HD.out.size)
          clear HD h5
          have HD := HE
          clear HE
          refine ⟨_, rfl, HSS.out _ HD.out, ?_⟩
          generalize (f i).past + (f i).n = N at *
          refine heldRun (i := 18) 63 (.bool false) rfl rfl (by kernel_rfl) (by kernel_rfl) (by kernel_rfl) (fun _ _ _ h => h) (wants 9 54 false rfl rfl (by simp [sz_put, hsz]) (by simp [ev_put, hsz, sz_put, e3, e4, e9])) (fun w hSw => by unfold execOp; simp [ev_put, hsz, sz_put, e3, e4, e9] <;> go_simp) (HSS.out _ HD.out) ?_
          refine heldRun (i := 19) 64 (.bool false) rfl rfl (by kernel_rfl) (by kernel_rfl) (by kernel_rfl) (fun _ _ _ h => h) rfl (fun w hSw => by unfold execOp; simp [ev_put, hsz, sz_put, e3, e4, e9] <;> go_simp) (HSS.out _ HD.out) ?_
          refine wpAnyH_done (by kernel_rfl) ?_ _
          subst hA
          simp only [put_mk, List.set_cons_succ, List.set_cons_zero]
          go_wp2
          go_roundw
          case rel => exact ⟨i + 1, by omega, by go_num, HD⟩
          case measure => simp [intOf]; omega
        · have hdi : decide ((i : Int) < 4) = false := decide_eq_false (by omega)
          go_wp2_with fail
          refine (live_true wr (HT.out.keep HBW.out)).mono ?_
          rintro e w9 ⟨rfl, h9⟩
          have HL9 : Hid (Below w.heap.size w w9) := HBW.out.trans (h9.mono HBW.out.size)
          clear h9
          go_wp2
          go_ret
          exact ⟨rfl, HL9.out⟩
end Go.Proofs.YtjdglpfjemoodaaDoor
