/- The walk of the law DigestSums: for every row of bytes it returns true and turns nothing old; the tables of roots are a condition. -/
import Derived.Test.YtjdglpfjemoodaaDoorRefTotal
import Derived.Test.YtjdglpfjemoodaaDoorLive2
import Derived.Test.YtjdglpfjemoodaaDoorArrEq
import Derived.Test.YtjdglpfjemoodaaDoorRows1
namespace Go.Proofs.YtjdglpfjemoodaaDoor
open Go.RowKit

section
variable {P : Program} {ops : Array Oper} {Q : Exit → Act → World → Prop} {md : Region.Mode}
theorem step_load_call {i j : Nat} {oi oj : Oper} {fuel : Nat} {listed : Array Bool} {a : Act} {w : World} (d e : Nat) (v : Value) (f : FuncId) (args : Array Value) (hi : ops[i]? = some oi) (hd : oi.dst = some d) (hj : ops[j]? = some oj) (he : oj.dst = some e)
    (hr : Region.ready md ops listed = [i, j]) (hw : Region.wanted oi (yielded ops a.tmps) = true) (hwj : Region.wanted oj (yielded ops a.tmps) = true)
    (hv : (execOp a.eval oi).run P w = .ok (.value v) w) (hu : (execOp a.eval oj).run P w = .ok (.enter f args) w)
    (h1 : wpAny P md ops Q fuel (listed.setIfInBounds i true) (a.put (some d) v) w)
    (h2 : Calls P f args w fun x w' => ∃ u, x = .returned u ∧ wpAny P md ops Q fuel (listed.setIfInBounds j true) (a.put (some e) u) w') : wpAny P md ops Q (fuel + 1) listed a w := by
  refine wpAny_ready (rs := [i, j]) hr (by simp) (AllReady.cons hi (fun K hK => ?_) (AllReady.cons hj (fun K hK => ?_) AllReady.nil))
  · rw [if_pos hw]
    unfold Oper.wp
    rw [hv, Oper.upon_value]
    simp only [hd]
    exact hK _ _ h1
  · rw [if_pos hwj]
    unfold Oper.wp
    rw [hu, Oper.upon_enter]
    refine h2.mono ?_
    rintro x w' ⟨v, rfl, h⟩
    simp only [he]
    exact hK _ _ h
end
theorem slice_hi2 (g off n cap m : Nat) (i : Int) (hi : i = (m : Int)) (hm : m ≤ cap) (h0 : 0 < cap) (w : World) : (Instr.slice 26 (.slice (some ⟨g, off, none⟩) n cap) none (some (.int .i64 i)) none).run Tryd.prog w = .ok (.slice (some ⟨g, off, none⟩) m cap) w := by
  subst hi
  rw [run_slice_h w 26 (some ⟨g, off, none⟩) n cap underBytes .i64 (m : Int) (by omega) (by omega), sizeRun]
  simp [Result.andThen, sliced, add_none, show ¬ cap = 0 by omega]

set_option linter.unusedSimpArgs false in
set_option maxHeartbeats 2000000 in
set_option maxRecDepth 100000 in
theorem digestSums_walk (cap : Nat) (ao : Option Addr) (xs : List Nat) (w : World) (hl : xs.length ≤ 140737488351232) (hx : ∀ x ∈ xs, x < 256) (hr : Row w ao xs) (hT : Roots w 0) (hT1 : Roots w 1) :
    Calls Tryd.prog 4 #[.slice ao xs.length cap] w fun e w' => e = .returned (.bool true) ∧ Below w.heap.size w w' := by
  have HX : Hid (∀ x ∈ xs, x < 256) := hx
  have HR : Hid (Row w ao xs) := hr
  have HT : Hid (Roots w 0) := hT
  have HT1 : Hid (Roots w 1) := hT1
  have HSL : Hid ((sha xs).length = 32) := sha_length xs
  clear hx hr hT hT1
  obtain ⟨out, hout⟩ : ∃ out, out = sha xs := ⟨_, rfl⟩
  rw [← hout] at HSL
  have HOU : Hid (sha xs = out) := hout.symm
  clear hout
  obtain ⟨n, hn⟩ : ∃ n, n = xs.length := ⟨_, rfl⟩
  have HN : Hid (n = xs.length) := hn
  rw [← hn] at hl ⊢
  go_enter Tryd.func4, Tryd.ntmps4
  go_wp2_with fail
  rw [hn]
  refine (lent_row cap ao xs w (by omega) HR.out).mono ?_
  rw [← hn]
  clear hn
  rintro e w1 ⟨g, c, rfl, h1⟩
  obtain ⟨hc1, hg1, hgl1, _, hrow1, hb1⟩ := h1.out
  have HR1 : Hid (Row w1 (some ⟨g, 0, none⟩) (xs ++ marks 64)) := hrow1
  have HB1 : Hid (Below w.heap.size w w1) := hb1
  have hs1 := HB1.out.size
  clear h1 hrow1 hb1
  have hsl := slice_hi2 g 0 (n + 64) c n (n : Int) rfl (by omega) (by omega)
  go_wp2_with fail
  refine (sum_any n c (some ⟨g, 0, none⟩) xs w1 (by omega) HN.out (by omega) HX.out HR1.out.take (HT.out.keep HB1.out)).mono ?_
  rintro e w2 ⟨rfl, h2⟩
  rw [HOU.out]
  have HR2 : Hid (Row w2 (some ⟨g, 0, none⟩) (xs ++ marks 64)) := HR1.out.keep h2
  have HB2 : Hid (Below w.heap.size w w2) := HB1.out.trans (h2.mono hs1)
  have hs2 := HB2.out.size
  have HC : Hid ((Tryd.prog.info? 24).map (·.size) = some (out.map bv).toArray.size) := by show _ = _; rw [size24]; simp [HSL.out]
  have HW3 : Hid (∀ C, Bl ((w2.alloc (Obj.cells C 24)).setRow w2.heap.size (out.map bv).toArray) w2.heap.size (out.map bv) 24) := fun C => (Bl.new w2 C _).setRow _
  have HB3' : Hid (∀ C, Below w2.heap.size w2 ((w2.alloc (Obj.cells C 24)).setRow w2.heap.size (out.map bv).toArray)) := fun C => below_setRow (below_new w2 _) (Nat.le_refl _) _
  clear h2 HR1 HB1 hsl
  go_wp2_with (first
    | (refine wpList_store_row rfl 24 _ _ rfl w2.heap.size (out.map bv).toArray rfl rfl 24 _ (Bl.new w2 _ _) HC.out (by simp [HSL.out]) (all_oneCell_toArray (bv_one _)) ?_)
    | fail)
  simp only [Act.put]
  obtain ⟨w3, hw3⟩ : ∃ x, x = (w2.alloc (Obj.cells #[.int .u8 0, .int .u8 0, .int .u8 0, .int .u8 0, .int .u8 0, .int .u8 0, .int .u8 0, .int .u8 0, .int .u8 0, .int .u8 0, .int .u8 0, .int .u8 0, .int .u8 0, .int .u8 0, .int .u8 0, .int .u8 0, .int .u8 0, .int .u8 0, .int .u8 0, .int .u8 0, .int .u8 0, .int .u8 0, .int .u8 0, .int .u8 0, .int .u8 0, .int .u8 0, .int .u8 0, .int .u8 0, .int .u8 0, .int .u8 0, .int .u8 0, .int .u8 0] 24)).setRow w2.heap.size (out.map bv).toArray := ⟨_, rfl⟩
  rw [← hw3]
  have HG3 : Hid (Bl w3 w2.heap.size (out.map bv) 24) := by rw [hw3]; exact HW3.out _
  have H23 : Hid (Below w2.heap.size w2 w3) := by rw [hw3]; exact HB3'.out _
  clear hw3 HW3 HB3'
  have HR3 : Hid (Row w3 (some ⟨g, 0, none⟩) (xs ++ marks 64)) := HR2.out.keep H23.out
  have HB3 : Hid (Below w.heap.size w w3) := HB2.out.trans (H23.out.mono hs2)
  have hs3 := HB3.out.size
  have hq : ∀ W, (Op.equalIn 10000 24 (.agg (out.map bv).toArray) (.agg (out.map bv).toArray)).run Tryd.prog W = .ok true W := fun W => by rw [arr32_eq _ _ W HSL.out HSL.out]; simp
  have hld : ∀ W, Bl W w2.heap.size (out.map bv) 24 → (Instr.loadAt 24 (.pointer (some ⟨w2.heap.size, 0, none⟩))).run Tryd.prog W = .ok (.agg (out.map bv).toArray) W := fun W hB => by
    simp only [Instr.loadAt, Instr.sureAddr, Sem.run_bind, Sem.run_pure, Result.andThen_ok, run_loadVar_row W w2.heap.size _ _ _ _ _ hB Tryd.underlying24 rfl HC.out]
  replace hld := hide hld
  refine region_any_var (by kernel_rfl) ?_
  intro A hA
  have hsz : A.tmps.size = 24 := by rw [hA]; rfl
  have e0 : A.eval (.tmp 0) = .slice ao n cap := by rw [hA]; rfl
  have e3 : A.eval (.tmp 3) = .slice (some ⟨g, 0, none⟩) (n + 64) c := by rw [hA]; rfl
  have e4 : A.eval (.tmp 4) = .pointer (some ⟨w2.heap.size, 0, none⟩) := by rw [hA]; rfl
  refine step_call (i := 0) 12 9 #[] rfl rfl (by kernel_rfl) rfl (by unfold execOp; simp <;> go_simp) ?_
  refine (live_true w3.drew (HT.out.keep HB3.out.drew)).mono ?_
  rintro e w4 ⟨rfl, h4⟩
  refine ⟨_, rfl, ?_⟩
  have H34 : Hid (Below w3.heap.size w3 w4) := below_undrewN1 h4
  clear h4
  have HB4 : Hid (Below w.heap.size w w4) := HB3.out.trans (H34.out.mono hs3)
  have hs4 := HB4.out.size
  have HG4 : Hid (Bl w4 w2.heap.size (out.map bv) 24) := HG3.out.keep H34.out
  refine take_move (i := 1) 13 12 (.bool true) rfl rfl rfl (by kernel_rfl) (by kernel_rfl) (by kernel_rfl) (fun _ _ _ h => h) rfl (by simp [ev_put, hsz, sz_put, e0, e3, e4]) ?_
  refine take_move (i := 2) 14 3 (.slice (some ⟨g, 0, none⟩) (n + 64) c) rfl rfl rfl (by kernel_rfl) (by kernel_rfl) (by kernel_rfl) (fun _ _ _ h => h) (wants 1 13 true rfl rfl (by simp [sz_put, hsz]) (by simp [ev_put, hsz, sz_put, e0, e3, e4])) (by simp [ev_put, hsz, sz_put, e0, e3, e4]) ?_
  refine take_move (i := 3) 15 0 (.slice ao n cap) rfl rfl rfl (by kernel_rfl) (by kernel_rfl) (by kernel_rfl) (fun _ _ _ h => h) (wants 1 13 true rfl rfl (by simp [sz_put, hsz]) (by simp [ev_put, hsz, sz_put, e0, e3, e4])) (by simp [ev_put, hsz, sz_put, e0, e3, e4]) ?_
  refine step_call (i := 4) 16 15 #[.slice (some ⟨g, 0, none⟩) (n + 64) c, .slice ao n cap] rfl rfl (by kernel_rfl) (wants 1 13 true rfl rfl (by simp [sz_put, hsz]) (by simp [ev_put, hsz, sz_put, e0, e3, e4])) (by unfold execOp; simp [ev_put, hsz, sz_put, e0, e3, e4] <;> go_simp) ?_
  rw [HN.out]
  refine (kept_true (xs.length + 64) c cap g 0 ao xs w4 (by rw [← HN.out]; omega) rfl (by rw [← HN.out]; omega) (HR3.out.keep H34.out) (HR.out.keep HB4.out) HX.out).mono ?_
  rw [← HN.out]
  rintro e w5 ⟨rfl, hw5⟩
  subst hw5
  refine ⟨_, rfl, ?_⟩
  refine take_run (i := 5) 17 (.bool true) rfl rfl (by kernel_rfl) (by kernel_rfl) (by kernel_rfl) (fun _ _ _ h => h) rfl (fun w => by unfold execOp; simp [ev_put, hsz, sz_put, e0, e3, e4] <;> go_simp) ?_
  refine take_move (i := 6) 18 17 (.bool true) rfl rfl rfl (by kernel_rfl) (by kernel_rfl) (by kernel_rfl) (fun _ _ _ h => h) rfl (by simp [ev_put, hsz, sz_put, e0, e3, e4]) ?_
  refine take_move (i := 8) 20 0 (.slice ao n cap) rfl rfl rfl (by kernel_rfl) (by kernel_rfl) (by kernel_rfl) (fun _ _ _ h => h) (wants 6 18 true rfl rfl (by simp [sz_put, hsz]) (by simp [ev_put, hsz, sz_put, e0, e3, e4])) (by simp [ev_put, hsz, sz_put, e0, e3, e4]) ?_
  refine step_load_call (i := 7) (j := 9) 19 21 (.agg (out.map bv).toArray) 16 #[.slice ao n cap] rfl rfl rfl rfl (by kernel_rfl) (wants 6 18 true rfl rfl (by simp [sz_put, hsz]) (by simp [ev_put, hsz, sz_put, e0, e3, e4])) (wants 6 18 true rfl rfl (by simp [sz_put, hsz]) (by simp [ev_put, hsz, sz_put, e0, e3, e4])) (by unfold execOp; simp [ev_put, hsz, sz_put, e0, e3, e4]; rw [hld.out _ HG4.out]; rfl) (by unfold execOp; simp [ev_put, hsz, sz_put, e0, e3, e4] <;> go_simp) ?_ ?_
  · refine step_call (i := 9) 21 16 #[.slice ao n cap] rfl rfl (by kernel_rfl) (wants 6 18 true rfl rfl (by simp [sz_put, hsz]) (by simp [ev_put, hsz, sz_put, e0, e3, e4])) (by unfold execOp; simp [ev_put, hsz, sz_put, e0, e3, e4] <;> go_simp) ?_
    refine (refSum_any n cap ao xs w5 HN.out (by omega) HX.out (HR.out.keep HB4.out) (HT1.out.keep HB4.out)).mono ?_
    rintro e w6 ⟨rfl, h6⟩
    refine ⟨_, rfl, ?_⟩
    rw [HOU.out]
    refine take_run (i := 10) 22 (.bool true) rfl rfl (by kernel_rfl) (by kernel_rfl) (by kernel_rfl) (fun _ _ _ h => h) (wants 6 18 true rfl rfl (by simp [sz_put, hsz]) (by simp [ev_put, hsz, sz_put, e0, e3, e4])) (fun w => by unfold execOp; simp [ev_put, hsz, sz_put, e0, e3, e4] <;> go_simp) ?_
    refine take_run (i := 11) 23 (.bool true) rfl rfl (by kernel_rfl) (by kernel_rfl) (by kernel_rfl) (fun _ _ _ h => h) rfl (fun w => by unfold execOp; simp [ev_put, hsz, sz_put, e0, e3, e4] <;> go_simp) ?_
    refine take_run (i := 12) 2 (.bool true) rfl rfl (by kernel_rfl) (by kernel_rfl) (by kernel_rfl) (fun _ _ _ h => h) rfl (fun w => by unfold execOp; simp [ev_put, hsz, sz_put, e0, e3, e4] <;> go_simp) ?_
    refine wpAny_done (by kernel_rfl) ?_ _
    subst hA
    simp only [put_mk, List.set_cons_succ, List.set_cons_zero]
    go_wp2
    go_ret
    exact ⟨rfl, HB4.out.trans (h6.mono hs4)⟩
  · refine (refSum_any n cap ao xs w5 HN.out (by omega) HX.out (HR.out.keep HB4.out) (HT1.out.keep HB4.out)).mono ?_
    rintro e w6 ⟨rfl, h6⟩
    refine ⟨_, rfl, ?_⟩
    rw [HOU.out]
    refine step_one (i := 7) (w' := w6) 19 (.agg (out.map bv).toArray) rfl rfl (by kernel_rfl) (wants 6 18 true rfl rfl (by simp [sz_put, hsz]) (by simp [ev_put, hsz, sz_put, e0, e3, e4])) (by unfold execOp; simp [ev_put, hsz, sz_put, e0, e3, e4]; rw [hld.out _ (HG4.out.keep h6)]; rfl) ?_
    refine take_run (i := 10) 22 (.bool true) rfl rfl (by kernel_rfl) (by kernel_rfl) (by kernel_rfl) (fun _ _ _ h => h) (wants 6 18 true rfl rfl (by simp [sz_put, hsz]) (by simp [ev_put, hsz, sz_put, e0, e3, e4])) (fun w => by unfold execOp; simp [ev_put, hsz, sz_put, e0, e3, e4] <;> go_simp) ?_
    refine take_run (i := 11) 23 (.bool true) rfl rfl (by kernel_rfl) (by kernel_rfl) (by kernel_rfl) (fun _ _ _ h => h) rfl (fun w => by unfold execOp; simp [ev_put, hsz, sz_put, e0, e3, e4] <;> go_simp) ?_
    refine take_run (i := 12) 2 (.bool true) rfl rfl (by kernel_rfl) (by kernel_rfl) (by kernel_rfl) (fun _ _ _ h => h) rfl (fun w => by unfold execOp; simp [ev_put, hsz, sz_put, e0, e3, e4] <;> go_simp) ?_
    refine wpAny_done (by kernel_rfl) ?_ _
    subst hA
    simp only [put_mk, List.set_cons_succ, List.set_cons_zero]
    go_wp2
    go_ret
    exact ⟨rfl, HB4.out.trans (h6.mono hs4)⟩
end Go.Proofs.YtjdglpfjemoodaaDoor
