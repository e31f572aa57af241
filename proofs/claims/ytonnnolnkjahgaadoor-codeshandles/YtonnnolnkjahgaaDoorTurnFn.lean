/- The contract of the Hash's turn: the register is turned by the block, the block is empty; nothing else turns. -/
import Derived.Test.YtonnnolnkjahgaaDoorHashFn
import Derived.Test.YtonnnolnkjahgaaDoorSteps2
namespace Go.Proofs.YtonnnolnkjahgaaDoor
open Go.RowKit

set_option linter.unusedSimpArgs false in
set_option maxHeartbeats 1000000 in
set_option maxRecDepth 100000 in
theorem turn_any (g n : Nat) (reg blk : List Nat) (w : World) (hh : Hsh w g reg blk n) (hb : ∀ x ∈ blk, x < 256) (hT : Roots w 2) :
    Calls Tryd.prog 60 #[.pointer (some ⟨g, 0, none⟩)] w fun e w' => e = .returned (.tuple #[]) ∧ Hid (Hsh w' g (compress reg blk) (List.replicate 64 0) n ∧ But g w w') := by
  have HH : Hid (Hsh w g reg blk n) := hh
  have hl0 : (Instr.loadAt 76 (.pointer (some ⟨g, 0, none⟩))).run Tryd.prog w.drew = .ok (.agg (reg.map wv).toArray) w.drew :=
    run_loadAt_mid w.drew g 0 _ _ _ (by
      have := (hh.1.drewN 1)
      exact Bl.range (pre := []) this) Tryd.underlying76 rfl (by rw [size37]; simp [hh.2.1])
  have hl1 : (Instr.loadAt 84 (.pointer (some ⟨g, 8, none⟩))).run Tryd.prog w.drew = .ok (.agg (blk.map bv).toArray) w.drew :=
    run_loadAt_mid w.drew g 8 _ _ _ (by
      have := Bl.range (hh.1.drewN 1)
      simp only [List.length_map, hh.2.1] at this
      exact this) Tryd.underlying84 rfl (by rw [size70]; simp [hh.2.2])
  have HTN : Hid (Calls Tryd.prog 69 #[.agg (reg.map wv).toArray, .agg (blk.map bv).toArray] w.drew fun e w' => e = .returned (.agg ((compress reg blk).map wv).toArray) ∧ Below w.drew.heap.size w.drew w') := turned_any reg blk _ hh.2.1 hh.2.2 hb hT
  have HOL : Hid ((compress reg blk).length = 8) := compress_length _ _
  clear hh hb hT
  generalize compress reg blk = out at *
  have hset : ∀ w1, Hsh w1 g reg blk n → Hid (Hsh (w1.setCells g 0 (out.map wv)) g out blk n) := fun w1 h => by
    refine ⟨?_, HOL.out, h.2.2⟩
    exact Bl.setCells (pre := []) h.1 (by simp [HOL.out, h.2.1])
  have HSET : Hid (∀ w1, Hsh w1 g reg blk n → (storeVar 76 ⟨g, 0, none⟩ (.agg (out.map wv).toArray)).run Tryd.prog w1 = .ok () (w1.setCells g 0 (out.map wv))) := fun w1 h => run_storeVar_mid w1 g 0 _ _ (by have := h.1.there 0 8 (by simp [h.2.1, h.2.2]); simpa [HOL.out] using this) (by rw [size37]; simp [HOL.out]) (all_oneCell_toArray (wv_one _))
  go_enter Tryd.func60, Tryd.ntmps60
  go_upto_region 0 with fail
  go_cut [] (fun wx => Hid (Hsh wx g out blk n) ∧ Hid (But g w wx))
  case first =>
    rename_i J KK hJ hKK
    refine region_any_var (by kernel_rfl) ?_
    intro A hA
    have hsz : A.tmps.size = 18 := by rw [hA]; rfl
    have e0 : A.eval (.tmp 0) = .pointer (some ⟨g, 0, none⟩) := by rw [hA]; rfl
    refine take_move (i := 0) 2 0 (.pointer (some ⟨g, 0, none⟩)) rfl rfl rfl (by kernel_rfl) (by kernel_rfl) (by kernel_rfl) (fun _ _ _ h => h) rfl (by simp [ev_put, hsz, sz_put, e0]) ?_
    refine take_move (i := 1) 3 0 (.pointer (some ⟨g, 0, none⟩)) rfl rfl rfl (by kernel_rfl) (by kernel_rfl) (by kernel_rfl) (fun _ _ _ h => h) rfl (by simp [ev_put, hsz, sz_put, e0]) ?_
    refine take_run (i := 2) 4 (.pointer (some ⟨g, 0, none⟩)) rfl rfl (by kernel_rfl) (by kernel_rfl) (by kernel_rfl) (fun _ _ _ h => h) rfl (fun w => by unfold execOp; simp [ev_put, hsz, sz_put] <;> go_simp) ?_
    refine take_run (i := 3) 5 (.pointer (some ⟨g, 0, none⟩)) rfl rfl (by kernel_rfl) (by kernel_rfl) (by kernel_rfl) (fun _ _ _ h => h) rfl (fun w => by unfold execOp; simp [ev_put, hsz, sz_put] <;> go_simp) ?_
    refine take_move (i := 5) 7 0 (.pointer (some ⟨g, 0, none⟩)) rfl rfl rfl (by kernel_rfl) (by kernel_rfl) (by kernel_rfl) (fun _ _ _ h => h) rfl (by simp [ev_put, hsz, sz_put, e0]) ?_
    refine take_run (i := 6) 8 (.pointer (some ⟨g, 0, none⟩)) rfl rfl (by kernel_rfl) (by kernel_rfl) (by kernel_rfl) (fun _ _ _ h => h) rfl (fun w => by unfold execOp; simp [ev_put, hsz, sz_put] <;> go_simp) ?_
    refine take_run (i := 7) 9 (.pointer (some ⟨g, 8, none⟩)) rfl rfl (by kernel_rfl) (by kernel_rfl) (by kernel_rfl) (fun _ _ _ h => h) rfl (fun w => by unfold execOp; simp [ev_put, hsz, sz_put] <;> go_simp) ?_
    refine step_two (i := 4) (j := 8) 6 10 (.agg (reg.map wv).toArray) (.agg (blk.map bv).toArray) rfl rfl rfl rfl (by kernel_rfl) rfl rfl (by unfold execOp; simp [ev_put, hsz, sz_put]; rw [hl0]; rfl) (by unfold execOp; simp [ev_put, hsz, sz_put]; rw [hl1]; rfl) ?_ ?_
    · refine step_one (i := 8) 10 (.agg (blk.map bv).toArray) rfl rfl (by kernel_rfl) rfl (by unfold execOp; simp [ev_put, hsz, sz_put]; rw [hl1]; rfl) ?_
      refine step_call (i := 9) 11 69 #[.agg (reg.map wv).toArray, .agg (blk.map bv).toArray] rfl rfl (by kernel_rfl) rfl (by unfold execOp; simp [ev_put, hsz, sz_put] <;> go_simp) ?_
      refine HTN.out.mono ?_
      rintro e w1 ⟨rfl, h1⟩
      refine ⟨_, rfl, ?_⟩
      refine take_run (i := 10) 12 (.pointer (some ⟨g, 0, none⟩)) rfl rfl (by kernel_rfl) (by kernel_rfl) (by kernel_rfl) (fun _ _ _ h => h) rfl (fun w => by unfold execOp; simp [ev_put, hsz, sz_put] <;> go_simp) ?_
      refine take_run (i := 11) 13 (.pointer (some ⟨g, 0, none⟩)) rfl rfl (by kernel_rfl) (by kernel_rfl) (by kernel_rfl) (fun _ _ _ h => h) rfl (fun w => by unfold execOp; simp [ev_put, hsz, sz_put] <;> go_simp) ?_
      have HH1 : Hid (Hsh w1 g reg blk n) := (show Hsh w.drew g reg blk n from HH.out).keep h1
      refine step_store (i := 12) (w' := w1.setCells g 0 (out.map wv)) rfl rfl (by kernel_rfl) rfl (by unfold execOp; simp [ev_put, hsz, sz_put]; simp only [Instr.storeAt, Instr.sureAddr, Sem.run_bind, Sem.run_pure, Result.andThen_ok, HSET.out w1 HH1.out]) ?_
      refine wpAny_done (by kernel_rfl) ?_ _
      subst hA
      refine hKK _ _ (Met.intro (hJ _ _ ?_))
      simp only [put_mk, List.set_cons_succ, List.set_cons_zero]
      (repeat apply Exists.intro)
      refine ⟨?_, rfl⟩
      exact ⟨hset w1 HH1.out, ((But.drewN g w 1).trans (But.of h1)).trans (But.setCells g w1 0 _)⟩
    · refine step_one (i := 4) 6 (.agg (reg.map wv).toArray) rfl rfl (by kernel_rfl) rfl (by unfold execOp; simp [ev_put, hsz, sz_put]; rw [hl0]; rfl) ?_
      refine step_call (i := 9) 11 69 #[.agg (reg.map wv).toArray, .agg (blk.map bv).toArray] rfl rfl (by kernel_rfl) rfl (by unfold execOp; simp [ev_put, hsz, sz_put] <;> go_simp) ?_
      refine HTN.out.mono ?_
      rintro e w1 ⟨rfl, h1⟩
      refine ⟨_, rfl, ?_⟩
      refine take_run (i := 10) 12 (.pointer (some ⟨g, 0, none⟩)) rfl rfl (by kernel_rfl) (by kernel_rfl) (by kernel_rfl) (fun _ _ _ h => h) rfl (fun w => by unfold execOp; simp [ev_put, hsz, sz_put] <;> go_simp) ?_
      refine take_run (i := 11) 13 (.pointer (some ⟨g, 0, none⟩)) rfl rfl (by kernel_rfl) (by kernel_rfl) (by kernel_rfl) (fun _ _ _ h => h) rfl (fun w => by unfold execOp; simp [ev_put, hsz, sz_put] <;> go_simp) ?_
      have HH1 : Hid (Hsh w1 g reg blk n) := (show Hsh w.drew g reg blk n from HH.out).keep h1
      refine step_store (i := 12) (w' := w1.setCells g 0 (out.map wv)) rfl rfl (by kernel_rfl) rfl (by unfold execOp; simp [ev_put, hsz, sz_put]; simp only [Instr.storeAt, Instr.sureAddr, Sem.run_bind, Sem.run_pure, Result.andThen_ok, HSET.out w1 HH1.out]) ?_
      refine wpAny_done (by kernel_rfl) ?_ _
      subst hA
      refine hKK _ _ (Met.intro (hJ _ _ ?_))
      simp only [put_mk, List.set_cons_succ, List.set_cons_zero]
      (repeat apply Exists.intro)
      refine ⟨?_, rfl⟩
      exact ⟨hset w1 HH1.out, ((But.drewN g w 1).trans (But.of h1)).trans (But.setCells g w1 0 _)⟩
  case rest =>
    obtain ⟨H1, HB1⟩ := hcut
    go_wp2_with (first
      | (refine wpList_store_mid rfl 84 _ _ rfl g 8 ((List.replicate 64 0).map bv).toArray rfl rfl (by have := H1.out.1.there 8 64 (by simp [H1.out.2.1, H1.out.2.2]); simpa using this) (by rw [size70]; rfl) (all_oneCell_toArray (bv_one _)) ?_)
      | fail)
    go_returns
    refine ⟨rfl, ⟨?_, H1.out.2.1, by simp⟩, HB1.out.trans (But.setCells g wc 8 _)⟩
    have := Bl.setCells H1.out.1 (vs := (List.replicate 64 0).map bv) (by simp [H1.out.2.2])
    simp only [List.length_map, H1.out.2.1] at this
    exact this
end Go.Proofs.YtonnnolnkjahgaaDoor
