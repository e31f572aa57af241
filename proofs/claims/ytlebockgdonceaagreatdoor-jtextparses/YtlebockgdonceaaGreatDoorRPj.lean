/- The document's member, where a text stands. -/
import Derived.Test.YtlebockgdonceaaGreatDoorRPi
import Derived.Test.YtlebockgdonceaaGreatDoorKSteps
namespace Go.Proofs.YtlebockgdonceaaGreatDoor
open Go.RowKit

theorem name_text {s : By} {ns : List By} {p : Nat} (h1 : p < s.length) (h2 : bt s p = 34) : nameAt s ns p = match textAt s p with
      | .error e q => .error e q
      | .ok nm q => if ns.contains nm = true then .error 45 p
        else if skip s q < s.length then
          if bt s (skip s q) = 58 then .ok nm (skip s (skip s q + 1)) else .error 40 (skip s q)
        else .error 3 s.length := by unfold nameAt; rw [if_pos h1, if_pos h2]; rfl
theorem drew_set (w : World) (a : Addr) (v : Value) : (w.setCell a v).drew = w.drew.setCell a v := rfl
theorem GZ.drew {w : World} {N : Nat} (h : GZ w N) : GZ w.drew N := h
set_option maxHeartbeats 4000000 in
set_option maxRecDepth 100000 in
theorem rmember_err (s : ByteArray) (p e q : Nat) (v : Value) (ns : List By) (w : World) (hC : ChFacts s) (hs : s.size ≤ 16384) (hp : p < s.size) (hc : bt (sbytes s) p = 34) (ht : textAt (sbytes s) p = .error e q) : Calls Tryz.prog 35 #[.string s, .int .i64 (p : Int), v] w fun ε w' => MbAns (nameAt (sbytes s) ns p) w ε w' := by
  have hsl := sbytes_length s
  have hix := str_index s p hp
  have HE := hide (fun w' => @mb_bad (nameAt (sbytes s) ns p) e q w w')
  have HNA : Hid (nameAt (sbytes s) ns p = .error e q) := hide (by rw [name_text (by omega) hc, ht])
  have HST := hide (fun W => rstr_any s p W hC hp hs)
  rw [ht] at HST
  have he0 : e ≠ 0 := (textAt_bad (by omega) ht).2.2.2.1
  have he0' : ((e : Int) != 0) = true := by simp; omega
  have HGN := hide (GZ.new w)
  have HBN := hide (below_new w (.cells #[.int .i64 0, .string { data := #[] }, .slice none 0 0, .slice none 0 0, .int .i64 0, .int .i64 0, .int .i64 0] 41))
  have hx : ∀ W, (Instr.index 9 (.string s) (.int .i64 (p : Int))).run Tryz.prog W = .ok (.int .u8 ((bt (sbytes s) p : Nat) : Int)) W := hix
  rw [hc] at hx
  have hin' : (p : Int) < (s.size : Int) := by omega
  have hge' : ¬ (s.size : Int) ≤ (p : Int) := by omega
  unfold badV gotV at HE
  generalize nameAt (sbytes s) ns p = R at *
  generalize hn : s.size = n at *
  clear hsl hs hp hc ht hC he0 hix
  go_enter Tryz.func35, Tryz.ntmps35
  go_upto_region 4 with (go_at_call 19; refine (HST.out _).mono ?_; rintro ε w5 ⟨rfl, h5⟩; have HG5 := hide (HGN.out.keep h5); have H5 := hide (HBN.out.trans (h5.mono HBN.out.size)); rw [show badV e q = .agg #[.int .i64 0, .string { data := #[] }, .slice none 0 0, .slice none 0 0, .int .i64 ((0 : Nat) : Int), .int .i64 (e : Int), .int .i64 (q : Int)] from rfl]; clear h5)
  obtain ⟨w6, hw6⟩ : ∃ x, x = w5.alloc (.cells #[.int .i64 0, .string { data := #[] }, .slice none 0 0, .slice none 0 0, .int .i64 0, .int .i64 (e : Int), .int .i64 (q : Int)] 41) := ⟨_, rfl⟩
  rw [← hw6]
  have hGB : GB w6 w5.heap.size 0 { data := #[] } (.slice none 0 0) (.slice none 0 0) 0 e q := hw6 ▸ GB.new w5 _ _ _ _ 0 e q
  have HG6 : Hid (GZ w6 w.heap.size) := hide (hw6 ▸ HG5.out.keep (below_new w5 _))
  have H6 : Hid (Below w.heap.size w w6) := hide (hw6 ▸ H5.out.alloc H5.out.size _)
  obtain ⟨a0, a1, a2, a3, a4, a5, a6⟩ := hGB.facts
  obtain ⟨⟨c0, c1, c2, c3, c4, c5, c6⟩, f0, f1, f2, f3, f4, f5, f6⟩ := HG6.out.facts
  have hne : w5.heap.size ≠ w.heap.size := by have := HG5.out.lt; omega
  have hne2 : w.heap.size ≠ w5.heap.size := hne.symm
  clear hw6 hGB
  generalize w5.heap.size = M at *
  go_wp2_with fail
  refine region_any_var (by kernel_rfl) ?_
  intro A hA
  have hsz : A.tmps.size = 72 := by rw [hA]; rfl
  have e7 : A.eval (.tmp 7) = .pointer (some ⟨w.heap.size, 0, none⟩) := by rw [hA]; rfl
  have e8 : A.eval (.tmp 8) = .pointer (some ⟨M, 0, none⟩) := by rw [hA]; rfl
  refine take_run (i := 1) 6 (.string { data := #[] }) rfl rfl (by kernel_rfl) (by kernel_rfl) (by kernel_rfl) (fun _ _ _ h => h) rfl (fun w => rfl) ?_
  refine step_one (i := 0) (w' := w6.drew) 30 (.agg #[.int .i64 0, .string { data := #[] }, .slice none 0 0, .slice none 0 0, .int .i64 0, .int .i64 (e : Int), .int .i64 (q : Int)]) rfl rfl (by kernel_rfl) rfl (by unfold execOp; simp [ev_put, e8] <;> go_simp) ?_
  refine step_store (i := 2) (w' := putG w6.drew w.heap.size (.int .i64 0) (.string { data := #[] }) (.slice none 0 0) (.slice none 0 0) (.int .i64 0) (.int .i64 (e : Int)) (.int .i64 (q : Int))) rfl rfl (by kernel_rfl) rfl (by unfold execOp; simp [ev_put, hsz, sz_put, e7] <;> go_simp; unfold putG; simp only [drew_set]) ?_
  refine wpAny_done (by kernel_rfl) ?_ _
  have HB7 := hide (putG_bl (GZ.drew HG6.out) (.int .i64 0) (.string { data := #[] }) (.slice none 0 0) (.slice none 0 0) (.int .i64 0) (.int .i64 (e : Int)) (.int .i64 (q : Int)))
  have H7 : Hid (Below w.heap.size w (putG w6.drew w.heap.size (.int .i64 0) (.string { data := #[] }) (.slice none 0 0) (.slice none 0 0) (.int .i64 0) (.int .i64 (e : Int)) (.int .i64 (q : Int)))) := hide ((show Below w.heap.size w w6.drew from below_drewN H6.out 1).trans ((putG_but w6.drew w.heap.size _ _ _ _ _ _ _).below (Nat.le_refl _) H6.out.size))
  clear a0 a1 a2 a3 a4 a5 a6 c0 c1 c2 c3 c4 c5 c6 f0 f1 f2 f3 f4 f5 f6 hne hne2 hsz e7 e8
  generalize putG w6.drew w.heap.size (.int .i64 0) (.string { data := #[] }) (.slice none 0 0) (.slice none 0 0) (.int .i64 0) (.int .i64 (e : Int)) (.int .i64 (q : Int)) = w7 at *
  subst hA
  simp only [put_mk, List.set_cons_succ, List.set_cons_zero]
  go_wp2_with fail
  refine bodyPost_ret (got_results2 rfl rfl HB7.out) rfl ?_
  exact HE.out _ HNA.out H7.out
end Go.Proofs.YtlebockgdonceaaGreatDoor
