/- The contract of digest.Load: for every row of bytes. -/
import Derived.Test.YtjdglpfjemoodaaDoorNumberFn
namespace Go.Proofs.YtjdglpfjemoodaaDoor
open Go.RowKit

/-- The register that bytes tell. -/
def regOf (xs : List Nat) : List Nat := (List.range 8).map fun i => word4 (xs.drop (4 * i))
def loadErr (xs : List Nat) : Nat := if xs.length < 104 then 3 else if 104 < xs.length then 4 else if okSaved (regOf xs) ((xs.drop 32).take 64) (num8 (xs.drop 96)) then 0 else 22
theorem regOf_length (xs : List Nat) : (regOf xs).length = 8 := by simp [regOf]
/-- The first k words, the others 0. -/
def regFill (xs : List Nat) (k : Nat) : List Nat := (regOf xs).take k ++ List.replicate (8 - k) 0
theorem regFill_length (xs : List Nat) (k : Nat) (hk : k ≤ 8) : (regFill xs k).length = 8 := by simp [regFill, regOf_length]; omega
theorem regFill_set (xs : List Nat) (k : Nat) (hk : k < 8) : (regFill xs k).set k (word4 (xs.drop (4 * k))) = regFill xs (k + 1) := by
  have hl : ((regOf xs).take k).length = k := by rw [List.length_take, regOf_length]; omega
  unfold regFill
  rw [List.set_append_right _ _ (by omega), hl, Nat.sub_self, show 8 - k = (8 - (k + 1)) + 1 by omega, List.replicate_succ, List.set_cons_zero,
    List.take_succ_eq_append_getElem (by rw [regOf_length]; exact hk), List.append_assoc]
  simp [regOf]
theorem Hsh.setWord {w : World} {g : Nat} {reg blk : List Nat} {n : Nat} (h : Hsh w g reg blk n) (k x : Nat) (hk : k < 8) : Hsh (w.setCell ⟨g, k, none⟩ (.int .u32 (x : Int))) g (reg.set k x) blk n := by
  have hb := h.1.set k (.int .u32 (x : Int))
  rw [List.set_append_left _ _ (by rw [List.length_map, h.2.1]; exact hk)] at hb
  refine ⟨?_, by rw [List.length_set]; exact h.2.1, h.2.2⟩
  rw [List.map_set]
  exact hb
theorem Hsh.word {w : World} {g : Nat} {reg blk : List Nat} {n : Nat} (h : Hsh w g reg blk n) (k : Nat) (hk : k < 8) : w.cell? ⟨g, k, none⟩ = some (.int .u32 ((reg.getD k 0 : Nat) : Int)) := by
  rw [h.1.cell, List.getElem?_append_left (by rw [List.length_map, h.2.1]; exact hk)]
  simp [List.getD, show k < reg.length by rw [h.2.1]; exact hk, wv]

set_option linter.unusedSimpArgs false in
set_option maxHeartbeats 4000000 in
set_option maxRecDepth 100000 in
theorem load_any (n cap : Nat) (ao : Option Addr) (xs : List Nat) (w : World) (hn : n = xs.length) (hnc : n ≤ cap) (hx : ∀ x ∈ xs, x < 256) (hr : Row w ao xs) :
    Calls Tryd.prog 39 #[.slice ao n cap] w fun e w' => ∃ p, e = .returned (.tuple #[.pointer p, .int .i64 ((loadErr xs : Nat) : Int)]) ∧
      Hid ((loadErr xs ≠ 0 → p = none) ∧ (loadErr xs = 0 → ∃ k, p = some ⟨k, 0, none⟩ ∧ w.heap.size ≤ k ∧ Hsh w' k (regOf xs) ((xs.drop 32).take 64) (num8 (xs.drop 96))) ∧ Below w.heap.size w w') := by
  have HN : Hid (n = xs.length) := hn
  have HX : Hid (∀ x ∈ xs, x < 256) := hx
  have HR : Hid (Row w ao xs) := hr
  by_cases h1 : n < 104
  · have e : loadErr xs = 3 := by unfold loadErr; rw [if_pos (by omega)]
    rw [e]
    clear hx hr hn e
    go_enter Tryd.func39, Tryd.ntmps39
    go_wp2
    go_ret2
    exact ⟨none, rfl, fun _ => rfl, fun h => by simp at h, Below.refl _ _⟩
  by_cases h2 : 104 < n
  · have e : loadErr xs = 4 := by unfold loadErr; rw [if_neg (by omega), if_pos (by omega)]
    rw [e]
    clear hx hr hn e
    go_enter Tryd.func39, Tryd.ntmps39
    go_wp2
    go_ret2
    exact ⟨none, rfl, fun _ => rfl, fun h => by simp at h, Below.refl _ _⟩
  obtain rfl : n = 104 := by omega
  have HE : Hid (loadErr xs = if okSaved (regOf xs) ((xs.drop 32).take 64) (num8 (xs.drop 96)) then 0 else 22) := by show _ = _; unfold loadErr; rw [if_neg (by omega), if_neg (by omega)]
  obtain ⟨b, off, rfl⟩ := hr.form (by omega)
  have HR96 : Hid (Row w (some ⟨b, off + 96, none⟩) (xs.drop 96)) := hr.dropN 96
  have HN96 : Hid (8 = (xs.drop 96).length) := by show _ = _; rw [List.length_drop]; omega
  have HX96 : Hid (∀ x ∈ xs.drop 96, x < 256) := lt_drop hx 96
  have hN := num8_lt (lt_drop hx 96)
  have HBL : Hid (((xs.drop 32).take 64).length = 64) := by show _ = _; rw [List.length_take, List.length_drop]; omega
  have HBX : Hid (∀ x ∈ (xs.drop 32).take 64, x < 256) := lt_take (lt_drop hx 32) 64
  have HR32 : Hid (Row w (some ⟨b, off + 32, none⟩) ((xs.drop 32).take 64)) := (hr.dropN 32).takeN 64
  have hsl96 : ∀ W, (Instr.slice 26 (.slice (some ⟨b, off, none⟩) 104 cap) (some (.int .i64 96)) none none).run Tryd.prog W = .ok (.slice (some ⟨b, off + 96, none⟩) 8 (cap - 96)) W := fun W => by
    rw [run_slice_l W 26 (some ⟨b, off, none⟩) 104 cap underBytes .i64 96 (by decide) (by decide), sizeRun]
    simp [Result.andThen, sliced, add_none, show ¬ cap = 96 by omega]
  have hsl32 : ∀ W, (Instr.slice 26 (.slice (some ⟨b, off, none⟩) 104 cap) (some (.int .i64 32)) (some (.int .i64 96)) (some (.int .i64 96))).run Tryd.prog W = .ok (.slice (some ⟨b, off + 32, none⟩) 64 64) W := fun W => by
    rw [run_slice_lhm W 26 (some ⟨b, off, none⟩) 104 cap underBytes .i64 .i64 .i64 32 96 96 (by decide) (by decide) (by decide) (by omega), sizeRun]
    simp [Result.andThen, sliced, add_none]
  have HSL4 : Hid (∀ k : Nat, k < 8 → ∀ W, (Instr.slice 26 (.slice (some ⟨b, off, none⟩) 104 cap) (some (.int .i64 (4 * (k : Int)))) none none).run Tryd.prog W = .ok (.slice (some ⟨b, off + 4 * k, none⟩) (104 - 4 * k) (cap - 4 * k)) W) := fun k hk W => by
    rw [run_slice_l W 26 (some ⟨b, off, none⟩) 104 cap underBytes .i64 (4 * (k : Int)) (by omega) (by omega), sizeRun, show (4 * (k : Int)).toNat = 4 * k by omega]
    simp [Result.andThen, sliced, add_none, show ¬ cap = 4 * k by omega]
  generalize hb64 : (xs.drop 32).take 64 = blk at *
  clear hb64
  clear hx hr h1 h2 hn
  go_enter Tryd.func39, Tryd.ntmps39
  go_wp2_with fail
  refine (number_any b (off + 96) 8 (cap - 96) (xs.drop 96) w HN96.out (by decide) (by omega) (by decide) HX96.out HR96.out).mono ?_
  rintro e w1 ⟨rfl, m1, rfl⟩
  generalize hNe : num8 (xs.drop 96) = N at *
  have HNE : Hid (num8 (xs.drop 96) = N) := hNe
  clear hNe
  go_wp2_with (first | (refine wpList_build_eq rfl 76 _ rfl ((List.replicate 8 0).map wv ++ ((List.replicate 64 0).map bv ++ [Value.int .u64 (N : Int)])).toArray (by kernel_rfl) ?_) | fail)
  have H2 : Hid (Hsh ((w.drewN m1).alloc (Obj.cells ((List.replicate 8 0).map wv ++ ((List.replicate 64 0).map bv ++ [Value.int .u64 (N : Int)])).toArray 76)) w.heap.size (regFill xs 0) (List.replicate 64 0) N) := ⟨Bl.new (w.drewN m1) _ _, rfl, rfl⟩
  have HB2 : Hid (Below w.heap.size w ((w.drewN m1).alloc (Obj.cells ((List.replicate 8 0).map wv ++ ((List.replicate 64 0).map bv ++ [Value.int .u64 (N : Int)])).toArray 76))) := (below_drewN (Below.refl _ _) m1).alloc (by simp) _
  go_loopw [17] (fun i wr => ∃ k : Nat, k ≤ 8 ∧ i = .int .i64 (k : Int) ∧ Hid (Hsh wr w.heap.size (regFill xs k) (List.replicate 64 0) N) ∧ Hid (Below w.heap.size w wr)) (fun i _ => 8 - (intOf i).toNat)
  case atStart => exact ⟨0, Nat.zero_le _, rfl, H2, HB2⟩
  case round =>
    clear H2 HB2
    obtain ⟨k, hk, rfl, H2, HB2⟩ := hrel
    have hs2 := HB2.out.size
    have hgl : w.heap.size < wr.heap.size := H2.out.1.lt
    by_cases hlt : k < 8
    · have hsl4 := HSL4.out k hlt
      have hwk : IntKind.i64.wrap (4 * (k : Int)) = 4 * (k : Int) := by rw [IntKind.wrap_i64]; omega
      have HRk : Hid (Row w (some ⟨b, off + 4 * k, none⟩) (xs.drop (4 * k))) := HR.out.dropN (4 * k)
      have HNk : Hid (104 - 4 * k = (xs.drop (4 * k)).length) := by show _ = _; rw [List.length_drop, ← HN.out]
      have HXk : Hid (∀ x ∈ xs.drop (4 * k), x < 256) := lt_drop HX.out (4 * k)
      have HFS : Hid ((regFill xs k).set k (word4 (xs.drop (4 * k))) = regFill xs (k + 1)) := regFill_set xs k hlt
      have ck : wr.cell? ⟨w.heap.size, k, none⟩ = some (.int .u32 (((regFill xs k).getD k 0 : Nat) : Int)) := H2.out.word k hlt
      have fk : wr.frozen? ⟨w.heap.size, k, none⟩ = false := H2.out.1.frozen _
      go_wp2
      refine region_any_var (by kernel_rfl) ?_
      intro A hA
      have hsz : A.tmps.size = 42 := by rw [hA]; rfl
      have e0 : A.eval (.tmp 0) = .slice (some ⟨b, off, none⟩) 104 cap := by rw [hA]; rfl
      have e4 : A.eval (.tmp 4) = .pointer (some ⟨w.heap.size, 0, none⟩) := by rw [hA]; rfl
      have e5 : A.eval (.tmp 5) = .int .i64 (k : Int) := by rw [hA]; rfl
      refine take_move (i := 0) 20 4 (.pointer (some ⟨w.heap.size, 0, none⟩)) rfl rfl rfl (by kernel_rfl) (by kernel_rfl) (by kernel_rfl) (fun _ _ _ h => h) rfl (by simp [ev_put, hsz, sz_put, e0, e4, e5]) ?_
      refine take_move (i := 1) 21 5 (.int .i64 (k : Int)) rfl rfl rfl (by kernel_rfl) (by kernel_rfl) (by kernel_rfl) (fun _ _ _ h => h) rfl (by simp [ev_put, hsz, sz_put, e0, e4, e5]) ?_
      refine take_move (i := 2) 22 0 (.slice (some ⟨b, off, none⟩) 104 cap) rfl rfl rfl (by kernel_rfl) (by kernel_rfl) (by kernel_rfl) (fun _ _ _ h => h) rfl (by simp [ev_put, hsz, sz_put, e0, e4, e5]) ?_
      refine take_move (i := 3) 23 5 (.int .i64 (k : Int)) rfl rfl rfl (by kernel_rfl) (by kernel_rfl) (by kernel_rfl) (fun _ _ _ h => h) rfl (by simp [ev_put, hsz, sz_put, e0, e4, e5]) ?_
      refine take_run (i := 4) 24 (.int .i64 (4 * (k : Int))) rfl rfl (by kernel_rfl) (by kernel_rfl) (by kernel_rfl) (fun _ _ _ h => h) rfl (fun w => by unfold execOp; simp [ev_put, hsz, sz_put, e0, e4, e5] <;> go_simp) ?_
      refine take_run (i := 5) 25 (.slice (some ⟨b, off + 4 * k, none⟩) (104 - 4 * k) (cap - 4 * k)) rfl rfl (by kernel_rfl) (by kernel_rfl) (by kernel_rfl) (fun _ _ _ h => h) rfl (fun w => by unfold execOp; simp [ev_put, hsz, sz_put, e0, e4, e5] <;> go_simp) ?_
      refine take_run (i := 7) 27 (.pointer (some ⟨w.heap.size, 0, none⟩)) rfl rfl (by kernel_rfl) (by kernel_rfl) (by kernel_rfl) (fun _ _ _ h => h) rfl (fun w => by unfold execOp; simp [ev_put, hsz, sz_put, e0, e4, e5] <;> go_simp) ?_
      refine take_run (i := 8) 28 (.pointer (some ⟨w.heap.size, 0, none⟩)) rfl rfl (by kernel_rfl) (by kernel_rfl) (by kernel_rfl) (fun _ _ _ h => h) rfl (fun w => by unfold execOp; simp [ev_put, hsz, sz_put, e0, e4, e5] <;> go_simp) ?_
      refine step_call (i := 6) 26 64 #[.slice (some ⟨b, off + 4 * k, none⟩) (104 - 4 * k) (cap - 4 * k)] rfl rfl (by kernel_rfl) rfl (by unfold execOp; simp [ev_put, hsz, sz_put, e0, e4, e5] <;> go_simp) ?_
      refine (word_any (104 - 4 * k) (cap - 4 * k) b (off + 4 * k) (xs.drop (4 * k)) wr.drew (by rw [← HNk.out]; omega) HNk.out HXk.out (by exact HRk.out.keep (below_drewN HB2.out 1))).mono ?_
      rintro e w3 ⟨rfl, m3, rfl⟩
      refine ⟨_, rfl, ?_⟩
      refine take_run (i := 9) 29 (.pointer (some ⟨w.heap.size, k, none⟩)) rfl rfl (by kernel_rfl) (by kernel_rfl) (by kernel_rfl) (fun _ _ _ h => h) rfl (fun w => by unfold execOp; simp [ev_put, hsz, sz_put, e0, e4, e5] <;> go_simp) ?_
      generalize hwd : word4 (xs.drop (4 * k)) = wd at *
      clear hwd
      refine step_store (i := 10) (w' := (wr.drew.drewN m3).setCell ⟨w.heap.size, k, none⟩ (.int .u32 (wd : Int))) rfl rfl (by kernel_rfl) rfl (by unfold execOp; simp [ev_put, hsz, sz_put, e0, e4, e5] <;> go_simp) ?_
      refine wpAny_done (by kernel_rfl) ?_ _
      subst hA
      simp only [put_mk, List.set_cons_succ, List.set_cons_zero]
      have H4 : Hid (Hsh ((wr.drew.drewN m3).setCell ⟨w.heap.size, k, none⟩ (.int .u32 (wd : Int))) w.heap.size (regFill xs (k + 1)) (List.replicate 64 0) N) := by
        rw [← HFS.out]
        exact Hsh.setWord (w := wr.drew.drewN m3) H2.out k wd hlt
      have HB4 : Hid (Below w.heap.size w ((wr.drew.drewN m3).setCell ⟨w.heap.size, k, none⟩ (.int .u32 (wd : Int)))) := (below_drewN (below_drewN HB2.out 1) m3).setCell (by simp) _
      go_wp2
      go_roundw
      case rel => exact ⟨k + 1, by omega, by go_num, H4, ⟨HB4.out.os, HB4.out.tape, HB4.out.output, HB4.out.size, HB4.out.block⟩⟩
      case measure => simp [intOf]; omega
    · obtain rfl : k = 8 := by omega
      have HF8 : Hid (regFill xs 8 = regOf xs) := by show _ = _; unfold regFill; rw [List.take_of_length_le (by rw [regOf_length]; decide)]; simp
      rw [HF8.out] at H2
      have hs64 : ∀ W, (Instr.sliceAt 70 (.pointer (some ⟨w.heap.size, 8, none⟩)) none none none).run Tryd.prog W = .ok (.slice (some ⟨w.heap.size, 8, none⟩) 64 64) W := fun W => arr_all 70 64 underArr64 w.heap.size 8 (by decide) W
      go_wp2
      refine region_any_var (by kernel_rfl) ?_
      intro A hA
      have hsz : A.tmps.size = 42 := by rw [hA]; rfl
      have e0 : A.eval (.tmp 0) = .slice (some ⟨b, off, none⟩) 104 cap := by rw [hA]; rfl
      have e4 : A.eval (.tmp 4) = .pointer (some ⟨w.heap.size, 0, none⟩) := by rw [hA]; rfl
      refine take_move (i := 0) 31 4 (.pointer (some ⟨w.heap.size, 0, none⟩)) rfl rfl rfl (by kernel_rfl) (by kernel_rfl) (by kernel_rfl) (fun _ _ _ h => h) rfl (by simp [ev_put, hsz, sz_put, e0, e4]) ?_
      refine take_run (i := 1) 32 (.pointer (some ⟨w.heap.size, 0, none⟩)) rfl rfl (by kernel_rfl) (by kernel_rfl) (by kernel_rfl) (fun _ _ _ h => h) rfl (fun w => by unfold execOp; simp [ev_put, hsz, sz_put, e0, e4] <;> go_simp) ?_
      refine take_run (i := 2) 33 (.pointer (some ⟨w.heap.size, 8, none⟩)) rfl rfl (by kernel_rfl) (by kernel_rfl) (by kernel_rfl) (fun _ _ _ h => h) rfl (fun w => by unfold execOp; simp [ev_put, hsz, sz_put, e0, e4] <;> go_simp) ?_
      refine take_run (i := 3) 34 (.slice (some ⟨w.heap.size, 8, none⟩) 64 64) rfl rfl (by kernel_rfl) (by kernel_rfl) (by kernel_rfl) (fun _ _ _ h => h) rfl (fun w => by unfold execOp; simp [ev_put, hsz, sz_put, e0, e4] <;> go_simp) ?_
      refine take_move (i := 4) 35 0 (.slice (some ⟨b, off, none⟩) 104 cap) rfl rfl rfl (by kernel_rfl) (by kernel_rfl) (by kernel_rfl) (fun _ _ _ h => h) rfl (by simp [ev_put, hsz, sz_put, e0, e4]) ?_
      refine take_run (i := 5) 36 (.slice (some ⟨b, off + 32, none⟩) 64 64) rfl rfl (by kernel_rfl) (by kernel_rfl) (by kernel_rfl) (fun _ _ _ h => h) rfl (fun w => by unfold execOp; simp [ev_put, hsz, sz_put, e0, e4] <;> go_simp) ?_
      refine step_copy (i := 6) rfl (by kernel_rfl) rfl (.tmp 34) (.tmp 36) rfl w.heap.size 8 64 64 64 64 (some ⟨w.heap.size, 8, none⟩) (some ⟨b, off + 32, none⟩) (by simp [ev_put, hsz, sz_put, e0, e4]) (by simp [ev_put, hsz, sz_put, e0, e4]) blk (by rw [HBL.out]; rfl) (fun _ => rfl) (by exact HR32.out.keep (below_drewN HB2.out 1)) (by exact H2.out.there 8 _ (by rw [HBL.out]; decide)) ?_
      refine wpAny_done (by kernel_rfl) ?_ _
      have H5 : Hid (Hsh (wr.drew.setCells w.heap.size 8 (blk.map bv)) w.heap.size (regOf xs) blk N) := by
        have h := Hsh.copyIn (w := wr.drew) H2.out 0 blk (by rw [HBL.out]; decide)
        rw [List.take_zero, List.nil_append, Nat.zero_add, HBL.out, List.drop_replicate, List.replicate_zero, List.append_nil] at h
        exact h
      have HB5 : Hid (Below w.heap.size w (wr.drew.setCells w.heap.size 8 (blk.map bv))) := (below_drewN HB2.out 1).trans (below_setCells (Nat.le_refl _) _ _)
      generalize wr.drew.setCells w.heap.size 8 (blk.map bv) = w5 at *
      subst hA
      simp only [put_mk, List.set_cons_succ, List.set_cons_zero]
      have hs5 := HB5.out.size
      go_wp2_with fail
      refine (mayBeSaved_any w.heap.size N (regOf xs) blk w5 H5.out hN HBX.out).mono ?_
      rintro e w6 ⟨rfl, h6⟩
      have H6 : Hid (Hsh w6 w.heap.size (regOf xs) blk N) := H5.out.keep h6
      have HB6 : Hid (Below w.heap.size w w6) := HB5.out.trans (h6.mono hs5)
      clear h6 H5 HB5 HB2 H2
      cases hok : okSaved (regOf xs) blk N with
      | false =>
        rw [hok] at HE
        replace HE : Hid (loadErr xs = 22) := HE
        clear hok
        go_wp2
        go_ret2
        exact ⟨none, by rw [HE.out]; rfl, fun _ => rfl, fun h => by rw [HE.out] at h; simp at h, HB6.out⟩
      | true =>
        rw [hok] at HE
        replace HE : Hid (loadErr xs = 0) := HE
        clear hok
        go_wp2
        go_ret2
        exact ⟨some ⟨w.heap.size, 0, none⟩, by rw [HE.out]; rfl, fun h => absurd HE.out h, fun _ => ⟨w.heap.size, rfl, Nat.le_refl _, by rw [HNE.out]; exact H6.out⟩, HB6.out⟩
end Go.Proofs.YtjdglpfjemoodaaDoor
