/- The contract of digest.spread: for every block of 64 bytes the 64 words of its schedule. -/
import Derived.Test.YtonnnolnkjahgaaDoorSha1
namespace Go.Proofs.YtonnnolnkjahgaaDoor
open Go.RowKit

theorem underArr64 : Tryd.prog.underlying 84 = some (.array 64 5) := Tryd.underlying84
theorem size99 : (Tryd.prog.info? 97).map (·.size) = some 64 := by kernel_rfl
theorem size37 : (Tryd.prog.info? 76).map (·.size) = some 8 := by kernel_rfl
theorem size70 : (Tryd.prog.info? 84).map (·.size) = some 64 := by kernel_rfl
theorem size24 : (Tryd.prog.info? 64).map (·.size) = some 32 := by kernel_rfl
/-- The words so far, zeros behind them. -/
def fill (blk : List Nat) (t : Nat) : List Nat := sched blk t ++ List.replicate (64 - t) 0
theorem fill_length (blk : List Nat) (t : Nat) (h : t ≤ 64) : (fill blk t).length = 64 := by simp [fill, sched_length]; omega
theorem fill_set (blk : List Nat) (t x : Nat) (h : t < 64) (hs : sched blk (t + 1) = sched blk t ++ [x]) : (fill blk t).set t x = fill blk (t + 1) := by
  unfold fill
  rw [hs, List.set_append_right _ _ (by rw [sched_length]; omega), sched_length, Nat.sub_self, show 64 - t = (64 - (t + 1)) + 1 by omega, List.replicate_succ]
  simp
theorem fill_get (blk : List Nat) (t i : Nat) (h : i < t) : (fill blk t).getD i 0 = (sched blk t).getD i 0 := by
  simp only [fill, List.getD]
  rw [List.getElem?_append_left (by rw [sched_length]; exact h)]
theorem zeros64 : ([.int .u32 0, .int .u32 0, .int .u32 0, .int .u32 0, .int .u32 0, .int .u32 0, .int .u32 0, .int .u32 0, .int .u32 0, .int .u32 0, .int .u32 0, .int .u32 0, .int .u32 0, .int .u32 0, .int .u32 0, .int .u32 0, .int .u32 0, .int .u32 0, .int .u32 0, .int .u32 0, .int .u32 0, .int .u32 0, .int .u32 0, .int .u32 0, .int .u32 0, .int .u32 0, .int .u32 0, .int .u32 0, .int .u32 0, .int .u32 0, .int .u32 0, .int .u32 0, .int .u32 0, .int .u32 0, .int .u32 0, .int .u32 0, .int .u32 0, .int .u32 0, .int .u32 0, .int .u32 0, .int .u32 0, .int .u32 0, .int .u32 0, .int .u32 0, .int .u32 0, .int .u32 0, .int .u32 0, .int .u32 0, .int .u32 0, .int .u32 0, .int .u32 0, .int .u32 0, .int .u32 0, .int .u32 0, .int .u32 0, .int .u32 0, .int .u32 0, .int .u32 0, .int .u32 0, .int .u32 0, .int .u32 0, .int .u32 0, .int .u32 0, .int .u32 0] : List Value) = (List.replicate 64 0).map wv := by rfl

set_option maxHeartbeats 1000000 in
set_option maxRecDepth 100000 in
theorem spread_any (blk : List Nat) (w : World) (hl : blk.length = 64) (hb : ∀ x ∈ blk, x < 256) : Calls Tryd.prog 71 #[.agg (blk.map bv).toArray] w fun e w' => e = .returned (.agg ((sched blk 64).map wv).toArray) ∧ Below w.heap.size w w' := by
  have HL : Hid (blk.length = 64) := hl
  have HX : Hid (∀ x ∈ blk, x < 256) := hb
  clear hl hb
  go_enter Tryd.func71, Tryd.ntmps71
  go_wp2
  go_loopw [10] (fun i wr => ∃ k : Nat, k ≤ 16 ∧ i = .int .i64 k ∧ Hid (Bl wr w.heap.size (blk.map bv) 84) ∧ Hid (Bl wr (w.heap.size + 1) ((List.replicate 64 0).map wv) 97) ∧ Hid (Bl wr (w.heap.size + 1 + 1) ((fill blk k).map wv) 97) ∧ Hid (Below w.heap.size w wr)) (fun i _ => 16 - (intOf i).toNat)
  case atStart =>
    refine ⟨0, Nat.zero_le _, rfl, ?_, ?_, ?_, ?_⟩
    · exact ((Bl.new w _ _).alloc _).alloc _
    · have := (Bl.new (w.alloc (Obj.cells (List.map bv blk).toArray 84)) ((List.replicate 64 0).map wv).toArray 97)
      rw [World.size_alloc] at this
      exact this.alloc _
    · have := (Bl.new ((w.alloc (Obj.cells (List.map bv blk).toArray 84)).alloc (Obj.cells ((List.replicate 64 0).map wv).toArray 97)) ((List.replicate 64 0).map wv).toArray 97)
      rw [World.size_alloc, World.size_alloc] at this
      exact this
    · show Below _ _ _; go_grown
  case round =>
    obtain ⟨k, hk, rfl, H0, H1, H2, HB⟩ := hrel
    by_cases hlt : k < 16
    · have hsl := fun W => arr_from 84 64 underArr64 w.heap.size 0 (4 * k) (4 * (k : Int)) (by omega) (by omega) W
      rw [Nat.zero_add] at hsl
      have hrow : Hid (Row wr (some ⟨w.heap.size, 4 * k, none⟩) (blk.drop (4 * k))) := by
        have := H0.out.row.dropN (4 * k)
        rw [Nat.zero_add] at this
        exact this
      have hlen : Hid (64 - 4 * k = (blk.drop (4 * k)).length) := by show _ = _; rw [List.length_drop, HL.out]
      go_wp2_with fail
      refine (word_any (64 - 4 * k) (64 - 4 * k) _ _ (blk.drop (4 * k)) wr (by rw [← hlen.out]; omega) hlen.out (lt_drop HX.out _) hrow.out).mono ?_
      rintro e w1 ⟨rfl, m, rfl⟩
      have HW : Hid (word4 (blk.drop (4 * k)) = wordAt blk k) := by
        show word4 _ = _
        simp [word4, wordAt, List.getD, List.getElem?_drop]
      have c2 : wr.cell? ⟨w.heap.size + 1 + 1, k, none⟩ = some (.int .u32 (((fill blk k).getD k 0 : Nat) : Int)) := H2.out.u32 k (by rw [fill_length _ _ (by omega)]; omega)
      have f2 : wr.frozen? ⟨w.heap.size + 1 + 1, k, none⟩ = false := H2.out.frozen k
      clear hsl
      go_wp2
      go_roundw
      case rel =>
        refine ⟨k + 1, by omega, by go_num, ?_, ?_, ?_, ?_⟩
        · exact (H0.out.drewN m).other (by omega) _ _
        · exact (H1.out.drewN m).other (by omega) _ _
        · have := (H2.out.drewN m).set k (wv (wordAt blk k))
          rw [← List.map_set, fill_set blk k _ (by omega) (sched_low blk k hlt), ← HW.out] at this
          exact this
        · exact (below_drewN HB.out m).setCell (by simp; omega) _
      case measure => simp [intOf]; omega
    · have HK : Hid (k = 16) := by show _ = _; omega
      go_wp2
      go_loopw [5] (fun i wr => ∃ k : Nat, 16 ≤ k ∧ k ≤ 64 ∧ i = .int .i64 k ∧ Hid (Bl wr (w.heap.size + 1) ((List.replicate 64 0).map wv) 97) ∧ Hid (Bl wr (w.heap.size + 1 + 1) ((fill blk k).map wv) 97) ∧ Hid (Below w.heap.size w wr)) (fun i _ => 64 - (intOf i).toNat)
      case atStart => exact ⟨16, Nat.le_refl _, by decide, rfl, H1, by rw [← HK.out]; exact H2, HB⟩
      case round =>
        clear H0 H1 H2 HB hk hlt
        rename_i k0 _
        obtain ⟨k, hk0, hk, rfl, H1, H2, HB⟩ := hrel
        by_cases hlt : k < 64
        · obtain ⟨t, rfl⟩ : ∃ t, k = t + 16 := ⟨k - 16, by omega⟩
          have HC : Hid (∀ j, j < 64 → wr.cell? ⟨w.heap.size + 1 + 1, j, none⟩ = some (.int .u32 (((fill blk (t + 16)).getD j 0 : Nat) : Int))) := fun j hj => H2.out.u32 j (by rw [fill_length _ _ (by omega)]; omega)
          have c16 := HC.out t (by omega)
          have c15 := HC.out (t + 1) (by omega)
          have c7 := HC.out (t + 9) (by omega)
          have c2 := HC.out (t + 14) (by omega)
          have ck := HC.out (t + 16) (by omega)
          have fk : wr.frozen? ⟨w.heap.size + 1 + 1, t + 16, none⟩ = false := H2.out.frozen _
          have HN : Hid (nextW (sched blk (t + 16)) (t + 16) = a32 (a32 (a32 ((fill blk (t + 16)).getD t 0) (sg0 ((fill blk (t + 16)).getD (t + 1) 0))) ((fill blk (t + 16)).getD (t + 9) 0)) (sg1 ((fill blk (t + 16)).getD (t + 14) 0))) := by
            show nextW _ _ = _
            rw [fill_get _ _ _ (by omega), fill_get _ _ _ (by omega), fill_get _ _ _ (by omega), fill_get _ _ _ (by omega)]
            rfl
          have fx := wx
          have fa := wadd
          generalize (fill blk (t + 16)).getD t 0 = y16 at *
          generalize (fill blk (t + 16)).getD (t + 1) 0 = y15 at *
          generalize (fill blk (t + 16)).getD (t + 9) 0 = y7 at *
          generalize (fill blk (t + 16)).getD (t + 14) 0 = y2 at *
          generalize (fill blk (t + 16)).getD (t + 16) 0 = yk at *
          have d3 : ∀ z : Nat, (z : Int) / 8 = ((shr z 3 : Nat) : Int) := fun z => by unfold shr; omega
          have d10 : ∀ z : Nat, (z : Int) / 1024 = ((shr z 10 : Nat) : Int) := fun z => by unfold shr; omega
          go_wp2
          go_quiet (fail)
          go_wp2_with (go_at_call 72; refine (round_any _ _ _ (by decide) (by decide)).mono ?_; rintro e w' ⟨rfl, rfl⟩)
          go_region
          all_goals
            go_wp2
            go_roundw
            case rel =>
              refine ⟨t + 16 + 1, by omega, by omega, by go_num, ?_, ?_, ?_⟩
              · exact (H1.out.drewN nq).other (by omega) _ _
              · have := (H2.out.drewN nq).set (t + 16) (wv (nextW (sched blk (t + 16)) (t + 16)))
                rw [← List.map_set, fill_set blk (t + 16) _ (by omega) (sched_high blk (t + 16) (by omega)), HN.out] at this
                exact this
              · exact (below_drewN HB.out (nq + 1)).setCell (p := ⟨w.heap.size + 1 + 1, t + 16, none⟩) (by simp; omega) _
            case measure => simp [intOf]; omega
        · obtain rfl : k = 64 := by omega
          have HF : Hid (fill blk 64 = sched blk 64) := by show _ = _; simp [fill]
          go_wp2_with (first
            | (refine wpList_load_row rfl 97 _ rfl (w.heap.size + 1 + 1) rfl 97 ((fill blk 64).map wv).toArray (0, 0) _ H2.out Tryd.underlying97 rfl (by rw [size99]; simp [fill_length]) ?_)
            | (refine wpList_store_row rfl 97 _ _ rfl (w.heap.size + 1) ((fill blk 64).map wv).toArray rfl rfl 97 ((List.replicate 64 0).map wv).toArray H1.out (by rw [size99]; simp [fill_length]) (by simp [fill_length]) (all_oneCell_toArray (wv_one _)) ?_))
          refine bodyPost_ret (results_cell_row rfl _ _ (w.heap.size + 1) 97 ((fill blk 64).map wv).toArray (0, 0) _ rfl (H1.out.setRow _) Tryd.underlying97 rfl (by rw [size99]; simp [fill_length])) rfl ⟨by rw [HF.out], below_setRow HB.out (by omega) _⟩
end Go.Proofs.YtonnnolnkjahgaaDoor
