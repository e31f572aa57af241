/- The contracts of the Hash's Copy and Save: for every state. -/
import Derived.Test.YtjdglpfjemoodaaDoorSumMath
namespace Go.Proofs.YtjdglpfjemoodaaDoor
open Go.RowKit

set_option maxHeartbeats 1000000 in
set_option maxRecDepth 100000 in
theorem copy_any (g past : Nat) (r bs : List Nat) (w : World) (hh : HState w g r past bs) :
    Calls Tryd.prog 38 #[.pointer (some ⟨g, 0, none⟩)] w fun e w' => ∃ k, e = .returned (.pointer (some ⟨k, 0, none⟩)) ∧ Hid (w.heap.size ≤ k ∧ k < w'.heap.size ∧ HState w' k r past bs ∧ Below w.heap.size w w') := by
  have HH : Hid (HState w g r past bs) := hh
  have HC1 := hide (cells76 (absorb r bs) (hold bs) (past + bs.length) hh.1.2.1 hh.1.2.2)
  have HC2 := hide (cells76_one (absorb r bs) (hold bs) (past + bs.length))
  have HB : Hid (Bl w g ((absorb r bs).map wv ++ ((hold bs).map bv ++ [.int .u64 ((past + bs.length : Nat) : Int)])) 76) := hh.1.1
  clear hh
  generalize hcs : (absorb r bs).map wv ++ ((hold bs).map bv ++ [Value.int .u64 ((past + bs.length : Nat) : Int)]) = cs at *
  have HCS := hide hcs
  clear hcs
  have hz76 := zero76
  go_enter Tryd.func38, Tryd.ntmps38
  go_wp2_with (first
    | (refine wpList_load_row rfl 76 _ rfl g rfl 76 cs.toArray (0, 0) _ HB.out Tryd.underlying76 rfl HC1.out ?_)
    | (refine wpList_store_row rfl 76 _ _ rfl w.heap.size cs.toArray rfl rfl 76 zeroHash.toArray (Bl.new w _ _) HC1.out (by have := HC1.out; rw [size76] at this; exact Option.some.inj this) (all_oneCell_toArray HC2.out) ?_)
    | fail)
  go_ret
  refine ⟨w.heap.size, rfl, Nat.le_refl _, by simp, ⟨⟨?_, HH.out.1.2⟩, HH.out.2⟩, below_setRow (below_new w _) (Nat.le_refl _) _⟩
  rw [HCS.out]
  exact (Bl.new w _ _).setRow _
/-- What Save tells: the register, the block, the size. -/
def saved (r : List Nat) (past : Nat) (bs : List Nat) : List Nat := regBytes (absorb r bs) ++ hold bs ++ eight (past + bs.length)

set_option linter.unusedSimpArgs false in
set_option maxHeartbeats 2000000 in
set_option maxRecDepth 100000 in
theorem save_any (g past : Nat) (r bs : List Nat) (w : World) (hh : HState w g r past bs) :
    Calls Tryd.prog 40 #[.pointer (some ⟨g, 0, none⟩)] w fun e w' => e = .returned (.slice (some ⟨w.heap.size, 0, none⟩) 104 104) ∧ Hid (Own w' w.heap.size (.slice (some ⟨w.heap.size, 0, none⟩) 104 104) (saved r past bs) ∧ Below w.heap.size w w') := by
  have HH : Hid (Hsh w g (absorb r bs) (hold bs) (past + bs.length)) := hh.1
  have HSV : Hid (saved r past bs = regBytes (absorb r bs) ++ hold bs ++ eight (past + bs.length)) := rfl
  have hgw : g < w.heap.size := hh.lt
  have HRB : Hid ((regBytes (absorb r bs)).length = 32) := by show _ = _; rw [regBytes_length, hh.1.2.1]
  have HHB : Hid ((hold bs).length = 64) := hh.1.2.2
  have HHX : Hid (∀ x ∈ hold bs, x < 256) := hold_lt hh.2.2.2
  have HRL : Hid ((Tryd.prog.info? 37).map (·.size) = some ((absorb r bs).map wv).length) := by show _ = _; rw [size37]; simp [hh.1.2.1]
  clear hh
  generalize absorb r bs = R at *
  generalize hold bs = B at *
  generalize past + bs.length = s at *
  go_enter Tryd.func40, Tryd.ntmps40
  go_wp2_with (first | (at_make; refine wpList_make_bytes rfl _ _ rfl .i64 .i64 _ _ 104 104 rfl rfl rfl rfl (by omega) (by omega) ?_) | fail)
  rintro w1 hb1 hbel1 hs1
  have HO1 : Hid (Bl w1 w.heap.size ((List.replicate 104 0).map bv) 5) := hb1
  have HB1 : Hid (Below w.heap.size w w1) := hbel1
  have H1 : Hid (Hsh w1 g R B s) := HH.out.keep hbel1
  clear hb1 hbel1
  go_wp2_with (first | (refine wpList_load_mid rfl 37 _ rfl g 0 rfl (R.map wv) _ H1.out.reg Tryd.underlying37 rfl HRL.out ?_) | fail)
  refine (wordBytes_any R w1 H1.out.2.1).mono ?_
  rintro e w2 ⟨rfl, h2⟩
  have HO2 : Hid (Bl w2 w.heap.size ((List.replicate 104 0).map bv) 5) := HO1.out.keep h2
  have HB2 : Hid (Below w.heap.size w w2) := HB1.out.trans (h2.mono (by omega))
  have H2 : Hid (Hsh w2 g R B s) := H1.out.keep h2
  have hs2 : w.heap.size < w2.heap.size := HO2.out.lt
  clear h2 HO1 HB1 H1 hs1
  generalize regBytes R = rb at *
  have HC2 : Hid ((Tryd.prog.info? 24).map (·.size) = some (rb.map bv).toArray.size) := by show _ = _; rw [size24]; simp [HRB.out]
  go_upto_region 5 with (first | (refine wpList_store_row rfl 24 _ _ rfl w2.heap.size (rb.map bv).toArray rfl rfl 24 _ (Bl.new w2 _ _) HC2.out (by simp [HRB.out]) (all_oneCell_toArray (bv_one _)) ?_) | fail)
  obtain ⟨w3, hq3⟩ : ∃ x, x = (w2.alloc (Obj.cells #[.int .u8 0, .int .u8 0, .int .u8 0, .int .u8 0, .int .u8 0, .int .u8 0, .int .u8 0, .int .u8 0, .int .u8 0, .int .u8 0, .int .u8 0, .int .u8 0, .int .u8 0, .int .u8 0, .int .u8 0, .int .u8 0, .int .u8 0, .int .u8 0, .int .u8 0, .int .u8 0, .int .u8 0, .int .u8 0, .int .u8 0, .int .u8 0, .int .u8 0, .int .u8 0, .int .u8 0, .int .u8 0, .int .u8 0, .int .u8 0, .int .u8 0, .int .u8 0] 24)).setRow w2.heap.size (rb.map bv).toArray := ⟨_, rfl⟩
  rw [← hq3]
  have HG3 : Hid (Bl w3 w2.heap.size (rb.map bv) 24) := by rw [hq3]; exact (Bl.new w2 _ _).setRow _
  have HS3 : Hid (Below w2.heap.size w2 w3) := by rw [hq3]; exact below_setRow (below_new w2 _) (Nat.le_refl _) _
  clear hq3
  have HO3 : Hid (Bl w3 w.heap.size ((List.replicate 104 0).map bv) 5) := HO2.out.keep HS3.out
  have H3 : Hid (Hsh w3 g R B s) := H2.out.keep HS3.out
  have HB3 : Hid (Below w.heap.size w w3) := HB2.out.trans (HS3.out.mono (by omega))
  clear HO2 H2 HB2 HS3
  have hs32 : ∀ W, (Instr.sliceAt 24 (.pointer (some ⟨w2.heap.size, 0, none⟩)) none none none).run Tryd.prog W = .ok (.slice (some ⟨w2.heap.size, 0, none⟩) 32 32) W := fun W => arr_all 24 32 Tryd.underlying24 w2.heap.size 0 (by decide) W
  have HRow : Hid (Row w3 (some ⟨w2.heap.size, 0, none⟩) rb) := HG3.out.row
  have HTh : Hid (w3.there w.heap.size 0 rb.length) := HO3.out.there 0 _ (by simp [HRB.out])
  have HO4' : Hid (Bl (w3.setCells w.heap.size 0 (rb.map bv)) w.heap.size (rb.map bv ++ (List.replicate 72 0).map bv) 5) := by
    have h := heap_setCells w.heap.size _ (rb.map bv) 0 _ w3 HO3.out (by simp [HRB.out])
    rw [List.take_zero, List.nil_append, Nat.zero_add, List.length_map, HRB.out, ← List.map_drop, List.drop_replicate] at h
    exact h
  have H4' : Hid (Hsh (w3.setCells w.heap.size 0 (rb.map bv)) g R B s) := ⟨(heap_setCells_other _ _ _ _ _ (by omega)).trans H3.out.1, H3.out.2⟩
  have HB4' : Hid (Below w.heap.size w (w3.setCells w.heap.size 0 (rb.map bv))) := HB3.out.trans (below_setCells (Nat.le_refl _) _ _)
  go_upto_region 6 with (first | (refine wpList_copy_at rfl (.tmp 13) (.tmp 14) rfl w.heap.size 0 104 104 32 32 (some ⟨w.heap.size, 0, none⟩) (some ⟨w2.heap.size, 0, none⟩) rfl rfl rb (by rw [HRB.out]; rfl) (fun _ => rfl) HRow.out HTh.out ?_) | fail)
  generalize w3.setCells w.heap.size 0 (rb.map bv) = w4 at *
  have hsl32 : ∀ W, (Instr.slice 26 (.slice (some ⟨w.heap.size, 0, none⟩) 104 104) (some (.int .i64 32)) none none).run Tryd.prog W = .ok (.slice (some ⟨w.heap.size, 32, none⟩) 72 72) W := fun W => by
    rw [run_slice_l W 26 (some ⟨w.heap.size, 0, none⟩) 104 104 underBytes .i64 32 (by decide) (by decide), sizeRun]
    simp [Result.andThen, sliced, add_none]
  have hsl96 : ∀ W, (Instr.slice 26 (.slice (some ⟨w.heap.size, 0, none⟩) 104 104) (some (.int .i64 96)) none none).run Tryd.prog W = .ok (.slice (some ⟨w.heap.size, 96, none⟩) 8 8) W := fun W => by
    rw [run_slice_l W 26 (some ⟨w.heap.size, 0, none⟩) 104 104 underBytes .i64 96 (by decide) (by decide), sizeRun]
    simp [Result.andThen, sliced, add_none]
  have hs64 : ∀ W, (Instr.sliceAt 70 (.pointer (some ⟨g, 8, none⟩)) none none none).run Tryd.prog W = .ok (.slice (some ⟨g, 8, none⟩) 64 64) W := fun W => arr_all 70 64 underArr64 g 8 (by decide) W
  have HRB4 : Hid (Row w4 (some ⟨g, 8, none⟩) B) := .inr ⟨g, 8, rfl, fun i hi => H4'.out.byte i (by rw [← HHB.out]; exact hi)⟩
  clear HRow HTh HO3 H3 HB3 HG3 hs32
  simp only [put_mk, List.set_cons_succ, List.set_cons_zero]
  refine region_any_var (by kernel_rfl) ?_
  intro A hA
  have hsz : A.tmps.size = 31 := by rw [hA]; rfl
  have e0 : A.eval (.tmp 0) = .pointer (some ⟨g, 0, none⟩) := by rw [hA]; rfl
  have e3 : A.eval (.tmp 3) = .slice (some ⟨w.heap.size, 0, none⟩) 104 104 := by rw [hA]; rfl
  refine take_move (i := 0) 16 3 (.slice (some ⟨w.heap.size, 0, none⟩) 104 104) rfl rfl rfl (by kernel_rfl) (by kernel_rfl) (by kernel_rfl) (fun _ _ _ h => h) rfl (by simp [ev_put, hsz, sz_put, e0, e3]) ?_
  refine take_run (i := 1) 17 (.slice (some ⟨w.heap.size, 32, none⟩) 72 72) rfl rfl (by kernel_rfl) (by kernel_rfl) (by kernel_rfl) (fun _ _ _ h => h) rfl (fun w => by unfold execOp; simp [ev_put, hsz, sz_put, e0, e3] <;> go_simp) ?_
  refine take_move (i := 2) 18 0 (.pointer (some ⟨g, 0, none⟩)) rfl rfl rfl (by kernel_rfl) (by kernel_rfl) (by kernel_rfl) (fun _ _ _ h => h) rfl (by simp [ev_put, hsz, sz_put, e0, e3]) ?_
  refine take_run (i := 3) 19 (.pointer (some ⟨g, 0, none⟩)) rfl rfl (by kernel_rfl) (by kernel_rfl) (by kernel_rfl) (fun _ _ _ h => h) rfl (fun w => by unfold execOp; simp [ev_put, hsz, sz_put, e0, e3] <;> go_simp) ?_
  refine take_run (i := 4) 20 (.pointer (some ⟨g, 8, none⟩)) rfl rfl (by kernel_rfl) (by kernel_rfl) (by kernel_rfl) (fun _ _ _ h => h) rfl (fun w => by unfold execOp; simp [ev_put, hsz, sz_put, e0, e3] <;> go_simp) ?_
  refine take_run (i := 5) 21 (.slice (some ⟨g, 8, none⟩) 64 64) rfl rfl (by kernel_rfl) (by kernel_rfl) (by kernel_rfl) (fun _ _ _ h => h) rfl (fun w => by unfold execOp; simp [ev_put, hsz, sz_put, e0, e3] <;> go_simp) ?_
  refine step_copy (i := 6) rfl (by kernel_rfl) rfl (.tmp 17) (.tmp 21) rfl w.heap.size 32 72 72 64 64 (some ⟨w.heap.size, 32, none⟩) (some ⟨g, 8, none⟩) (by simp [ev_put, hsz, sz_put, e0, e3]) (by simp [ev_put, hsz, sz_put, e0, e3]) B (by rw [HHB.out]; rfl) (fun _ => rfl) (by exact HRB4.out) (by exact HO4'.out.there 32 _ (by simp [HRB.out, HHB.out])) ?_
  refine wpAny_done (by kernel_rfl) ?_ _
  have HO5 : Hid (Bl (w4.drew.setCells w.heap.size 32 (B.map bv)) w.heap.size ((rb.map bv ++ B.map bv) ++ ((List.replicate 8 0).map bv ++ [])) 5) := by
    have h := heap_setCells w.heap.size _ (B.map bv) 32 _ w4.drew HO4'.out (by simp [HRB.out, HHB.out])
    rw [List.take_left' (by simp [HRB.out]), List.drop_append, List.drop_of_length_le (by simp [HRB.out, HHB.out]), List.nil_append, ← List.map_drop, List.drop_replicate] at h
    simp only [List.length_map, HRB.out, HHB.out] at h
    rw [List.append_nil]
    exact h
  have H5 : Hid (Hsh (w4.drew.setCells w.heap.size 32 (B.map bv)) g R B s) := ⟨(heap_setCells_other _ _ _ _ _ (by omega)).trans H4'.out.1, H4'.out.2⟩
  have HB5 : Hid (Below w.heap.size w (w4.drew.setCells w.heap.size 32 (B.map bv))) := (below_drewN HB4'.out 1).trans (below_setCells (Nat.le_refl _) _ _)
  generalize w4.drew.setCells w.heap.size 32 (B.map bv) = w5 at *
  subst hA
  clear HRB4 HO4' H4' HB4'
  simp only [put_mk, List.set_cons_succ, List.set_cons_zero]
  go_upto_region 7 with fail
  have s5 : w5.cell? ⟨g, 72, none⟩ = some (.int .u64 (s : Int)) := H5.out.size
  refine region_any_var (by kernel_rfl) ?_
  intro A hA
  have hsz : A.tmps.size = 31 := by rw [hA]; rfl
  have e0 : A.eval (.tmp 0) = .pointer (some ⟨g, 0, none⟩) := by rw [hA]; rfl
  have e3 : A.eval (.tmp 3) = .slice (some ⟨w.heap.size, 0, none⟩) 104 104 := by rw [hA]; rfl
  refine take_move (i := 0) 23 3 (.slice (some ⟨w.heap.size, 0, none⟩) 104 104) rfl rfl rfl (by kernel_rfl) (by kernel_rfl) (by kernel_rfl) (fun _ _ _ h => h) rfl (by simp [ev_put, hsz, sz_put, e0, e3]) ?_
  refine take_run (i := 1) 24 (.slice (some ⟨w.heap.size, 96, none⟩) 8 8) rfl rfl (by kernel_rfl) (by kernel_rfl) (by kernel_rfl) (fun _ _ _ h => h) rfl (fun w => by unfold execOp; simp [ev_put, hsz, sz_put, e0, e3] <;> go_simp) ?_
  refine take_move (i := 2) 25 0 (.pointer (some ⟨g, 0, none⟩)) rfl rfl rfl (by kernel_rfl) (by kernel_rfl) (by kernel_rfl) (fun _ _ _ h => h) rfl (by simp [ev_put, hsz, sz_put, e0, e3]) ?_
  refine take_run (i := 3) 26 (.pointer (some ⟨g, 0, none⟩)) rfl rfl (by kernel_rfl) (by kernel_rfl) (by kernel_rfl) (fun _ _ _ h => h) rfl (fun w => by unfold execOp; simp [ev_put, hsz, sz_put, e0, e3] <;> go_simp) ?_
  refine take_run (i := 4) 27 (.pointer (some ⟨g, 72, none⟩)) rfl rfl (by kernel_rfl) (by kernel_rfl) (by kernel_rfl) (fun _ _ _ h => h) rfl (fun w => by unfold execOp; simp [ev_put, hsz, sz_put, e0, e3] <;> go_simp) ?_
  refine step_one (i := 5) (w' := w5.drew) 28 (.int .u64 (s : Int)) rfl rfl (by kernel_rfl) rfl (by unfold execOp; simp [ev_put, hsz, sz_put, e0, e3] <;> go_simp) ?_
  refine step_call (i := 6) 29 52 #[.slice (some ⟨w.heap.size, 96, none⟩) 8 8, .int .u64 (s : Int)] rfl rfl (by kernel_rfl) rfl (by unfold execOp; simp [ev_put, hsz, sz_put, e0, e3] <;> go_simp) ?_
  refine (putNumber_any w.heap.size 96 8 8 s (rb.map bv ++ B.map bv) [] (List.replicate 8 0) _ w5.drew (by simp [HRB.out, HHB.out]) (by simp) (by omega) (by omega) (by exact HO5.out)).mono ?_
  rintro e w6 ⟨rfl, h6⟩
  refine ⟨_, rfl, ?_⟩
  refine wpAny_done (by kernel_rfl) ?_ _
  subst hA
  try simp only [put_mk, List.set_cons_succ, List.set_cons_zero]
  have HB6 : Hid (Below w.heap.size w w6) := (below_drewN HB5.out 1).trans (h6.out.2.below (Nat.le_refl _) (by simp; exact HB5.out.size))
  have HO6 : Hid (Own w6 w.heap.size (.slice (some ⟨w.heap.size, 0, none⟩) 104 104) (saved r past bs)) := by
    have h := h6.out.1
    rw [List.append_nil, ← List.map_append, ← List.map_append] at h
    rw [HSV.out]
    exact Blk.own (ys := []) (by rw [List.append_nil]; exact h) (by simp [HRB.out, HHB.out, eight_length]) rfl (Nat.le_refl _) (by unfold maxLen; omega)
  clear h6
  go_wp2
  go_ret
  exact ⟨rfl, HO6.out, HB6.out⟩
end Go.Proofs.YtjdglpfjemoodaaDoor
