/- The contract of the Hash's Sum: the sum of all that it took; nothing old turns. -/
import Derived.Test.YtonnnolnkjahgaaDoorWriteFn
import Derived.Test.YtonnnolnkjahgaaDoorSumMath
namespace Go.Proofs.YtonnnolnkjahgaaDoor
open Go.RowKit

theorem Hsh.setByte {w : World} {g : Nat} {reg blk : List Nat} {n : Nat} (h : Hsh w g reg blk n) (i x : Nat) (hi : i < 64) : Hsh (w.setCell ⟨g, 8 + i, none⟩ (.int .u8 (x : Int))) g reg (blk.set i x) n := by
  refine ⟨?_, h.2.1, by simp [h.2.2]⟩
  have := h.1.set (8 + i) (bv x)
  rw [List.set_append_right _ _ (by simp [h.2.1]), List.set_append_left _ _ (by simp [h.2.1, h.2.2]; omega)] at this
  simp only [List.length_map, h.2.1, show 8 + i - 8 = i by omega, ← List.map_set] at this
  exact this
theorem Hsh.byte {w : World} {g : Nat} {reg blk : List Nat} {n : Nat} (h : Hsh w g reg blk n) (i : Nat) (hi : i < 64) : w.cell? ⟨g, 8 + i, none⟩ = some (.int .u8 ((blk.getD i 0 : Nat) : Int)) := by
  rw [h.1.cell, List.getElem?_append_right (by simp [h.2.1]), List.getElem?_append_left (by simp [h.2.1, h.2.2]; omega)]
  simp [h.2.1, h.2.2, hi, bv, show 8 + i - 8 = i by omega]
/-- Eight bytes at the end of the block. -/
theorem Hsh.tail {w : World} {g : Nat} {reg blk : List Nat} {n : Nat} (h : Hsh w g reg blk n) : Bl w g ((reg.map wv ++ (blk.take 56).map bv) ++ ((blk.drop 56).map bv ++ [.int .u64 (n : Int)])) 86 ∧ (reg.map wv ++ (blk.take 56).map bv).length = 64 ∧ (blk.drop 56).length = 8 := by
  refine ⟨?_, by simp [h.2.1, h.2.2], by simp [h.2.2]⟩
  have e : (reg.map wv ++ (blk.take 56).map bv) ++ ((blk.drop 56).map bv ++ [Value.int .u64 (n : Int)]) = reg.map wv ++ (blk.map bv ++ [Value.int .u64 (n : Int)]) := by
    rw [List.append_assoc, ← List.append_assoc ((blk.take 56).map bv), ← List.map_append, List.take_append_drop]
  rw [e]
  exact h.1
theorem Hsh.ofTail {w : World} {g : Nat} {reg blk e : List Nat} {n : Nat} (h : Bl w g ((reg.map wv ++ (blk.take 56).map bv) ++ (e.map bv ++ [.int .u64 (n : Int)])) 86) (hr : reg.length = 8) (hb : blk.length = 64) (he : e.length = 8) : Hsh w g reg (blk.take 56 ++ e) n := by
  refine ⟨?_, hr, by simp [hb, he]⟩
  simpa using h
theorem Hsh.reg {w : World} {g : Nat} {reg blk : List Nat} {n : Nat} (h : Hsh w g reg blk n) : w.rangeAt g 0 (reg.map wv) := Bl.range (pre := []) h.1
theorem cells76 (reg blk : List Nat) (n : Nat) (hr : reg.length = 8) (hb : blk.length = 64) : (Tryd.prog.info? 86).map (·.size) = some (reg.map wv ++ (blk.map bv ++ [Value.int .u64 (n : Int)])).toArray.size := by rw [size76]; simp [hr, hb]
theorem cells76_one (reg blk : List Nat) (n : Nat) : ∀ u ∈ reg.map wv ++ (blk.map bv ++ [.int .u64 (n : Int)]), u.oneCell' = true := by
  intro u hu
  rcases List.mem_append.1 hu with hu | hu
  · exact wv_one _ u hu
  · rcases List.mem_append.1 hu with hu | hu
    · exact bv_one _ u hu
    · rw [List.mem_singleton.1 hu]; rfl
def zeroHash : List Value := (List.replicate 8 0).map wv ++ ((List.replicate 64 0).map bv ++ [.int .u64 ((0 : Nat) : Int)])
theorem zero76info : (Tryd.prog.info? 86).map (·.zero) = some (some (.agg zeroHash.toArray)) := by kernel_rfl
theorem zero76 (w : World) : (zeroValue 86).run Tryd.prog w = .ok (.agg zeroHash.toArray) w := by
  have h := zero76info
  cases hq : Tryd.prog.info? 86 with
  | none => rw [hq] at h; simp at h
  | some i =>
    rw [hq] at h
    simp only [Option.map_some, Option.some.injEq] at h
    simp [zeroValue, typeInfo, hq, h]

set_option linter.unusedSimpArgs false in
set_option maxHeartbeats 2000000 in
set_option maxRecDepth 100000 in
theorem hsum_any (g s : Nat) (reg L : List Nat) (w : World) (hh : Hsh w g reg (hold L) s) (hl : L.length % 64 = s % 64) (hL : ∀ x ∈ L, x < 256) (hT : Roots w 2) :
    Calls Tryd.prog 51 #[.pointer (some ⟨g, 0, none⟩)] w fun e w' => e = .returned (.agg ((fin reg (rest L) s).map bv).toArray) ∧ Below w.heap.size w w' := by
  have HH : Hid (Hsh w g reg (hold L) s) := hh
  have HLB : Hid (∀ x ∈ hold L, x < 256) := hold_lt hL
  have HT : Hid (Roots w 2) := hT
  have h00 : 2 < w.heap.size := hT.lt
  have hgw : g < w.heap.size := hh.1.lt
  obtain ⟨hd, hhd⟩ : ∃ hd, hd = s % 64 := ⟨_, rfl⟩
  have HHD : Hid (hd = s % 64) := hhd
  have HLD : Hid (L.length % 64 = hd) := by show _ = _; omega
  have hd64 : hd < 64 := by omega
  have HC1 := hide (cells76 reg (hold L) s hh.2.1 hh.2.2)
  have HC2 := hide (cells76_one reg (hold L) s)
  clear hh hT hhd hl hL
  obtain ⟨B, hB⟩ : ∃ B, B = hold L := ⟨_, rfl⟩
  have HF1 : Hid (hd < 56 → fin reg (rest L) s = regBytes (compress reg ((B.set hd 128).take 56 ++ eight (8 * s % 18446744073709551616)))) := fun h => by
    unfold fin; rw [fin_one reg L s (by rw [HLD.out]; exact h), HLD.out, hB]
  have HF2 : Hid (56 ≤ hd → fin reg (rest L) s = regBytes (compress (compress reg (B.set hd 128)) ((List.replicate 64 0).take 56 ++ eight (8 * s % 18446744073709551616)))) := fun h => by
    unfold fin; rw [fin_two reg L s (by rw [HLD.out]; exact h), HLD.out, hB]
  have hm8 : (8 * (s : Int)) % 18446744073709551616 = ((8 * s % 18446744073709551616 : Nat) : Int) := by omega
  have hm9 : IntKind.u64.wrap (8 * (s : Int)) = ((8 * s % 18446744073709551616 : Nat) : Int) := by rw [IntKind.wrap_u64]; exact hm8
  generalize 8 * s % 18446744073709551616 = N8 at *
  have HFL : Hid ((fin reg (rest L) s).length = 32) := fin_length _ _ HH.out.2.1
  rw [← hB] at HH HLB HC1 HC2
  clear hB HLD
  generalize fin reg (rest L) s = out at *
  have HW3 : Hid (∀ C1 C2, Hsh (((w.alloc (Obj.cells C1 64)).alloc (Obj.cells C2 86)).setRow (w.heap.size + 1) (reg.map wv ++ (B.map bv ++ [Value.int .u64 (s : Int)])).toArray) (w.heap.size + 1) reg B s) := fun C1 C2 => by
    have := Bl.new (w.alloc (Obj.cells C1 64)) C2 86
    rw [World.size_alloc] at this
    exact ⟨this.setRow _, HH.out.2⟩
  have HZ3 : Hid (∀ C2 V, Bl (((w.alloc (Obj.cells ((List.replicate 32 0).map bv).toArray 64)).alloc (Obj.cells C2 86)).setRow (w.heap.size + 1) V) w.heap.size ((List.replicate 32 0).map bv) 64) := fun C2 V => ((Bl.new w _ _).alloc _).setRow_other (by omega) _
  have HB3 : Hid (∀ C1 C2 V, Below w.heap.size w (((w.alloc (Obj.cells C1 64)).alloc (Obj.cells C2 86)).setRow (w.heap.size + 1) V)) := fun C1 C2 V => below_setRow (((Below.refl _ _).alloc (Nat.le_refl _) _).alloc (by simp) _) (by omega) _
  have hz76 := zero76
  go_enter Tryd.func51, Tryd.ntmps51
  go_wp2_with (first
    | (refine wpList_load_row rfl 86 _ rfl g rfl 86 (reg.map wv ++ (B.map bv ++ [Value.int .u64 (s : Int)])).toArray (0, 0) _ (HH.out.1.alloc _) Tryd.underlying86 rfl HC1.out ?_)
    | (refine wpList_store_row rfl 86 _ _ rfl (w.heap.size + 1) (reg.map wv ++ (B.map bv ++ [Value.int .u64 (s : Int)])).toArray rfl rfl 86 zeroHash.toArray (by have := Bl.new (w.alloc (Obj.cells ((List.replicate 32 0).map bv).toArray 64)) zeroHash.toArray 86; rw [World.size_alloc] at this; exact this) HC1.out (by have := HC1.out; rw [size76] at this; exact Option.some.inj this) (all_oneCell_toArray HC2.out) ?_)
    | fail)
  refine (held_any (w.heap.size + 1) s _ (HW3.out _ _).size).mono ?_
  rintro e w3 ⟨rfl, hw3⟩
  rw [← HHD.out]
  have H3 : Hid (Hsh w3 (w.heap.size + 1) reg B s) := by rw [hw3]; exact HW3.out _ _
  have HZ : Hid (Bl w3 w.heap.size ((List.replicate 32 0).map bv) 64) := by rw [hw3]; exact HZ3.out _ _
  have HL3 : Hid (Below w.heap.size w w3) := by rw [hw3]; exact HB3.out _ _ _
  clear hw3 HW3 HZ3 HB3 HC1 HC2
  have hs3 : w.heap.size + 1 < w3.heap.size := H3.out.1.lt
  have b3 : w3.cell? ⟨w.heap.size + 1, 8 + hd, none⟩ = some (.int .u8 ((B.getD hd 0 : Nat) : Int)) := H3.out.byte hd hd64
  have f3 : w3.frozen? ⟨w.heap.size + 1, 8 + hd, none⟩ = false := H3.out.1.frozen _
  obtain ⟨w4, hw4⟩ : ∃ x, x = w3.setCell ⟨w.heap.size + 1, 8 + hd, none⟩ (.int .u8 128) := ⟨_, rfl⟩
  have H4 : Hid (Hsh w4 (w.heap.size + 1) reg (B.set hd 128) s) := by rw [hw4]; exact H3.out.setByte hd 128 hd64
  have HZ4 : Hid (Bl w4 w.heap.size ((List.replicate 32 0).map bv) 64) := by rw [hw4]; exact HZ.out.other (by omega) _ _
  have HL4 : Hid (Below w.heap.size w w4) := by rw [hw4]; exact HL3.out.setCell (by simp) _
  have HX4 : Hid (∀ x ∈ B.set hd 128, x < 256) := fun x hx => (List.mem_or_eq_of_mem_set hx).elim (HLB.out x) (fun e => by omega)
  have hsl : ∀ W, (Instr.sliceAt 84 (.pointer (some ⟨w.heap.size + 1, 8, none⟩)) (some (.int .i64 56)) none none).run Tryd.prog W = .ok (.slice (some ⟨w.heap.size + 1, 64, none⟩) 8 8) W := fun W => arr_from 84 64 underArr64 (w.heap.size + 1) 8 56 56 rfl (by decide) W
  generalize B.getD hd 0 = old at *
  by_cases hc : hd < 56
  · go_wp2_with fail
    rw [← hw4]
    have s4 : w4.cell? ⟨g, 72, none⟩ = some (.int .u64 (s : Int)) := (HH.out.below HL4.out hgw).size
    clear hw4 HH H3 HZ HL3 b3 f3
    refine region_any_var (by kernel_rfl) ?_
    intro A hA
    have hsz : A.tmps.size = 30 := by rw [hA]; rfl
    have e0 : A.eval (.tmp 0) = .pointer (some ⟨g, 0, none⟩) := by rw [hA]; rfl
    have e3 : A.eval (.tmp 3) = .pointer (some ⟨w.heap.size + 1, 0, none⟩) := by rw [hA]; rfl
    refine take_run (i := 0) 18 (.pointer (some ⟨w.heap.size + 1, 8, none⟩)) rfl rfl (by kernel_rfl) (by kernel_rfl) (by kernel_rfl) (fun _ _ _ h => h) rfl (fun w => by unfold execOp; simp [ev_put, hsz, sz_put, e0, e3] <;> go_simp) ?_
    refine take_run (i := 1) 19 (.slice (some ⟨w.heap.size + 1, 64, none⟩) 8 8) rfl rfl (by kernel_rfl) (by kernel_rfl) (by kernel_rfl) (fun _ _ _ h => h) rfl (fun w => by unfold execOp; simp [ev_put, hsz, sz_put, e0, e3] <;> go_simp) ?_
    refine take_move (i := 2) 20 0 (.pointer (some ⟨g, 0, none⟩)) rfl rfl rfl (by kernel_rfl) (by kernel_rfl) (by kernel_rfl) (fun _ _ _ h => h) rfl (by simp [ev_put, hsz, sz_put, e0, e3]) ?_
    refine take_run (i := 3) 21 (.pointer (some ⟨g, 0, none⟩)) rfl rfl (by kernel_rfl) (by kernel_rfl) (by kernel_rfl) (fun _ _ _ h => h) rfl (fun w => by unfold execOp; simp [ev_put, hsz, sz_put, e0, e3] <;> go_simp) ?_
    refine take_run (i := 4) 22 (.pointer (some ⟨g, 72, none⟩)) rfl rfl (by kernel_rfl) (by kernel_rfl) (by kernel_rfl) (fun _ _ _ h => h) rfl (fun w => by unfold execOp; simp [ev_put, hsz, sz_put, e0, e3] <;> go_simp) ?_
    refine step_one (i := 5) (w' := w4.drew) 23 (.int .u64 (s : Int)) rfl rfl (by kernel_rfl) rfl (by unfold execOp; simp [ev_put, hsz, sz_put] <;> go_simp) ?_
    refine take_run (i := 6) 24 (.int .u64 (N8 : Int)) rfl rfl (by kernel_rfl) (by kernel_rfl) (by kernel_rfl) (fun _ _ _ h => h) rfl (fun w => by unfold execOp; simp [ev_put, hsz, sz_put] <;> go_simp) ?_
    refine step_call (i := 7) 25 61 #[.slice (some ⟨w.heap.size + 1, 64, none⟩) 8 8, .int .u64 (N8 : Int)] rfl rfl (by kernel_rfl) rfl (by unfold execOp; simp [ev_put, hsz, sz_put] <;> go_simp) ?_
    refine (putNumber_any (w.heap.size + 1) 64 8 8 N8 _ _ _ _ w4.drew H4.out.tail.2.1 H4.out.tail.2.2 (by omega) (by omega) (by exact H4.out.tail.1)).mono ?_
    rintro e w6 ⟨rfl, h6⟩
    refine ⟨_, rfl, ?_⟩
    refine wpAny_done (by kernel_rfl) ?_ _
    subst hA
    simp only [put_mk, List.set_cons_succ, List.set_cons_zero]
    have H6 : Hid (Hsh w6 (w.heap.size + 1) reg ((B.set hd 128).take 56 ++ eight N8) s) := Hsh.ofTail h6.out.1 H4.out.2.1 H4.out.2.2 (eight_length _)
    have HX6 : Hid (∀ x ∈ (B.set hd 128).take 56 ++ eight N8, x < 256) := lt_append (lt_take HX4.out _) (eight_lt _)
    have HO6 : Hid (But (w.heap.size + 1) w4 w6) := (But.drewN _ w4 1).trans h6.out.2
    have HL6 : Hid (Below w.heap.size w w6) := HL4.out.trans (HO6.out.below (by omega) HL4.out.size)
    have HZ6 : Hid (Bl w6 w.heap.size ((List.replicate 32 0).map bv) 64) := HZ4.out.but HO6.out (by omega)
    clear h6
    go_wp2_with fail
    refine (turn_any (w.heap.size + 1) s _ _ w6 H6.out HX6.out (HT.out.below HL6.out HT.out.lt)).mono ?_
    rintro e w7 ⟨rfl, h7⟩
    have HR7 : Hid (Hsh w7 (w.heap.size + 1) (compress reg ((B.set hd 128).take 56 ++ eight N8)) (List.replicate 64 0) s) := h7.out.1
    have HZ7 : Hid (Bl w7 w.heap.size ((List.replicate 32 0).map bv) 64) := HZ6.out.but h7.out.2 (by omega)
    have HL7 : Hid (Below w.heap.size w w7) := HL6.out.trans (h7.out.2.below (by omega) HL6.out.size)
    have HOO : Hid (regBytes (compress reg ((B.set hd 128).take 56 ++ eight N8)) = out) := (HF1.out hc).symm
    clear h7 H6 HX6
    generalize compress reg ((B.set hd 128).take 56 ++ eight N8) = R at *
    have HRL : Hid ((Tryd.prog.info? 76).map (·.size) = some (R.map wv).length) := by show _ = _; rw [size37]; simp [HR7.out.2.1]
    go_wp2_with (first | (refine wpList_load_mid rfl 76 _ rfl (w.heap.size + 1) 0 rfl (R.map wv) _ HR7.out.reg Tryd.underlying76 rfl HRL.out ?_) | fail)
    refine (wordBytes_any R w7 HR7.out.2.1).mono ?_
    rintro e w8 ⟨rfl, h8⟩
    rw [HOO.out]
    have HZ8 : Hid (Bl w8 w.heap.size ((List.replicate 32 0).map bv) 64) := HZ7.out.keep h8
    have HL8 : Hid (Below w.heap.size w w8) := HL7.out.trans (h8.mono HL7.out.size)
    have HS8 : Hid ((Tryd.prog.info? 64).map (·.size) = some (out.map bv).toArray.size) := by show _ = _; rw [size24]; simp [HFL.out]
    clear h8
    go_wp2_with (first | (refine wpList_store_row rfl 64 _ _ rfl w.heap.size (out.map bv).toArray rfl rfl 64 ((List.replicate 32 0).map bv).toArray HZ8.out HS8.out (by simp [HFL.out]) (all_oneCell_toArray (bv_one _)) ?_) | fail)
    refine bodyPost_ret (results_cell_row rfl _ _ w.heap.size 64 (out.map bv).toArray (0, 0) _ rfl (HZ8.out.setRow _) Tryd.underlying64 rfl HS8.out) rfl ⟨rfl, below_setRow HL8.out (Nat.le_refl _) _⟩
  · replace hc : 56 ≤ hd := by omega
    go_wp2_with fail
    rw [← hw4]
    refine (turn_any (w.heap.size + 1) s _ _ w4 H4.out HX4.out (HT.out.below HL4.out HT.out.lt)).mono ?_
    rintro e w5 ⟨rfl, h5⟩
    have H5 : Hid (Hsh w5 (w.heap.size + 1) (compress reg (B.set hd 128)) (List.replicate 64 0) s) := h5.out.1
    have HZ5 : Hid (Bl w5 w.heap.size ((List.replicate 32 0).map bv) 64) := HZ4.out.but h5.out.2 (by omega)
    have HL5 : Hid (Below w.heap.size w w5) := HL4.out.trans (h5.out.2.below (by omega) HL4.out.size)
    have HX5 : Hid (∀ x ∈ List.replicate 64 0, x < 256) := fun x hx => by rw [List.eq_of_mem_replicate hx]; decide
    have s4 : w5.cell? ⟨g, 72, none⟩ = some (.int .u64 (s : Int)) := (HH.out.below HL5.out hgw).size
    clear hw4 HH H3 HZ HL3 b3 f3 h5 H4 HZ4 HL4 HX4
    generalize compress reg (B.set hd 128) = reg5 at *
    go_wp2
    refine region_any_var (by kernel_rfl) ?_
    intro A hA
    have hsz : A.tmps.size = 30 := by rw [hA]; rfl
    have e0 : A.eval (.tmp 0) = .pointer (some ⟨g, 0, none⟩) := by rw [hA]; rfl
    have e3 : A.eval (.tmp 3) = .pointer (some ⟨w.heap.size + 1, 0, none⟩) := by rw [hA]; rfl
    refine take_run (i := 0) 18 (.pointer (some ⟨w.heap.size + 1, 8, none⟩)) rfl rfl (by kernel_rfl) (by kernel_rfl) (by kernel_rfl) (fun _ _ _ h => h) rfl (fun w => by unfold execOp; simp [ev_put, hsz, sz_put, e0, e3] <;> go_simp) ?_
    refine take_run (i := 1) 19 (.slice (some ⟨w.heap.size + 1, 64, none⟩) 8 8) rfl rfl (by kernel_rfl) (by kernel_rfl) (by kernel_rfl) (fun _ _ _ h => h) rfl (fun w => by unfold execOp; simp [ev_put, hsz, sz_put, e0, e3] <;> go_simp) ?_
    refine take_move (i := 2) 20 0 (.pointer (some ⟨g, 0, none⟩)) rfl rfl rfl (by kernel_rfl) (by kernel_rfl) (by kernel_rfl) (fun _ _ _ h => h) rfl (by simp [ev_put, hsz, sz_put, e0, e3]) ?_
    refine take_run (i := 3) 21 (.pointer (some ⟨g, 0, none⟩)) rfl rfl (by kernel_rfl) (by kernel_rfl) (by kernel_rfl) (fun _ _ _ h => h) rfl (fun w => by unfold execOp; simp [ev_put, hsz, sz_put, e0, e3] <;> go_simp) ?_
    refine take_run (i := 4) 22 (.pointer (some ⟨g, 72, none⟩)) rfl rfl (by kernel_rfl) (by kernel_rfl) (by kernel_rfl) (fun _ _ _ h => h) rfl (fun w => by unfold execOp; simp [ev_put, hsz, sz_put, e0, e3] <;> go_simp) ?_
    refine step_one (i := 5) (w' := w5.drew) 23 (.int .u64 (s : Int)) rfl rfl (by kernel_rfl) rfl (by unfold execOp; simp [ev_put, hsz, sz_put] <;> go_simp) ?_
    refine take_run (i := 6) 24 (.int .u64 (N8 : Int)) rfl rfl (by kernel_rfl) (by kernel_rfl) (by kernel_rfl) (fun _ _ _ h => h) rfl (fun w => by unfold execOp; simp [ev_put, hsz, sz_put] <;> go_simp) ?_
    refine step_call (i := 7) 25 61 #[.slice (some ⟨w.heap.size + 1, 64, none⟩) 8 8, .int .u64 (N8 : Int)] rfl rfl (by kernel_rfl) rfl (by unfold execOp; simp [ev_put, hsz, sz_put] <;> go_simp) ?_
    refine (putNumber_any (w.heap.size + 1) 64 8 8 N8 _ _ _ _ w5.drew H5.out.tail.2.1 H5.out.tail.2.2 (by omega) (by omega) (by exact H5.out.tail.1)).mono ?_
    rintro e w6 ⟨rfl, h6⟩
    refine ⟨_, rfl, ?_⟩
    refine wpAny_done (by kernel_rfl) ?_ _
    subst hA
    simp only [put_mk, List.set_cons_succ, List.set_cons_zero]
    have H6 : Hid (Hsh w6 (w.heap.size + 1) reg5 ((List.replicate 64 0).take 56 ++ eight N8) s) := Hsh.ofTail h6.out.1 H5.out.2.1 H5.out.2.2 (eight_length _)
    have HX6 : Hid (∀ x ∈ (List.replicate 64 0).take 56 ++ eight N8, x < 256) := lt_append (lt_take HX5.out _) (eight_lt _)
    have HO6 : Hid (But (w.heap.size + 1) w5 w6) := (But.drewN _ w5 1).trans h6.out.2
    have HL6 : Hid (Below w.heap.size w w6) := HL5.out.trans (HO6.out.below (by omega) HL5.out.size)
    have HZ6 : Hid (Bl w6 w.heap.size ((List.replicate 32 0).map bv) 64) := HZ5.out.but HO6.out (by omega)
    clear h6
    go_wp2_with fail
    refine (turn_any (w.heap.size + 1) s _ _ w6 H6.out HX6.out (HT.out.below HL6.out HT.out.lt)).mono ?_
    rintro e w7 ⟨rfl, h7⟩
    have HR7 : Hid (Hsh w7 (w.heap.size + 1) (compress reg5 ((List.replicate 64 0).take 56 ++ eight N8)) (List.replicate 64 0) s) := h7.out.1
    have HZ7 : Hid (Bl w7 w.heap.size ((List.replicate 32 0).map bv) 64) := HZ6.out.but h7.out.2 (by omega)
    have HL7 : Hid (Below w.heap.size w w7) := HL6.out.trans (h7.out.2.below (by omega) HL6.out.size)
    have HOO : Hid (regBytes (compress reg5 ((List.replicate 64 0).take 56 ++ eight N8)) = out) := (HF2.out hc).symm
    clear h7 H6 HX6
    generalize compress reg5 ((List.replicate 64 0).take 56 ++ eight N8) = R at *
    have HRL : Hid ((Tryd.prog.info? 76).map (·.size) = some (R.map wv).length) := by show _ = _; rw [size37]; simp [HR7.out.2.1]
    go_wp2_with (first | (refine wpList_load_mid rfl 76 _ rfl (w.heap.size + 1) 0 rfl (R.map wv) _ HR7.out.reg Tryd.underlying76 rfl HRL.out ?_) | fail)
    refine (wordBytes_any R w7 HR7.out.2.1).mono ?_
    rintro e w8 ⟨rfl, h8⟩
    rw [HOO.out]
    have HZ8 : Hid (Bl w8 w.heap.size ((List.replicate 32 0).map bv) 64) := HZ7.out.keep h8
    have HL8 : Hid (Below w.heap.size w w8) := HL7.out.trans (h8.mono HL7.out.size)
    have HS8 : Hid ((Tryd.prog.info? 64).map (·.size) = some (out.map bv).toArray.size) := by show _ = _; rw [size24]; simp [HFL.out]
    clear h8
    go_wp2_with (first | (refine wpList_store_row rfl 64 _ _ rfl w.heap.size (out.map bv).toArray rfl rfl 64 ((List.replicate 32 0).map bv).toArray HZ8.out HS8.out (by simp [HFL.out]) (all_oneCell_toArray (bv_one _)) ?_) | fail)
    refine bodyPost_ret (results_cell_row rfl _ _ w.heap.size 64 (out.map bv).toArray (0, 0) _ rfl (HZ8.out.setRow _) Tryd.underlying64 rfl HS8.out) rfl ⟨rfl, below_setRow HL8.out (Nat.le_refl _) _⟩
end Go.Proofs.YtonnnolnkjahgaaDoor
