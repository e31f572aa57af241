/- The contract of digest.turned: for every register and block the register that the block turns it into; the table's 64 cells are a condition. -/
import Derived.Test.YtonnnolnkjahgaaDoorSpread
namespace Go.Proofs.YtonnnolnkjahgaaDoor
open Go.RowKit

/-- The table of roots lies in block g. -/
def Roots (w : World) (g : Nat) : Prop := ∀ j : Nat, j < 64 → w.cell? ⟨g, j, none⟩ = some (.int .u32 ((Kt.getD j 0 : Nat) : Int))
theorem Roots.keep {w w' : World} {g : Nat} (h : Roots w g) (hb : Below w.heap.size w w') : Roots w' g := fun j hj => by
  rw [hb.cell (p := ⟨g, j, none⟩) (World.block_lt_of_cell? w _ (h j hj))]; exact h j hj
theorem Roots.lt {w : World} {g : Nat} (h : Roots w g) : g < w.heap.size := World.block_lt_of_cell? w _ (h 0 (by decide))
theorem Roots.below {w w' : World} {g B : Nat} (h : Roots w g) (hb : Below B w w') (hg : g < B) : Roots w' g := fun j hj => by
  rw [hb.cell (p := ⟨g, j, none⟩) hg]; exact h j hj
theorem Roots.but {w w' : World} {g k : Nat} (h : Roots w g) (hb : But k w w') (hg : g ≠ k) : Roots w' g := fun j hj => by
  rw [World.cell?_of_block (hb.block g h.lt hg)]; exact h j hj
theorem S8.of_list (s : S8) : S8.of s.list = s := rfl
theorem list8 (r : List Nat) (h : r.length = 8) : ∃ s : S8, r = s.list := by
  match r, h with
  | [a, b, c, d, e, f, g, k], _ => exact ⟨⟨a, b, c, d, e, f, g, k⟩, rfl⟩

set_option maxHeartbeats 2000000 in
set_option maxRecDepth 100000 in
theorem turned_any (r blk : List Nat) (w : World) (hr : r.length = 8) (hl : blk.length = 64) (hb : ∀ x ∈ blk, x < 256) (hT : Roots w 2) :
    Calls Tryd.prog 69 #[.agg (r.map wv).toArray, .agg (blk.map bv).toArray] w fun e w' => e = .returned (.agg ((compress r blk).map wv).toArray) ∧ Below w.heap.size w w' := by
  obtain ⟨s, rfl⟩ := list8 r hr
  have HL : Hid (blk.length = 64) := hl
  have HX : Hid (∀ x ∈ blk, x < 256) := hb
  have HT : Hid (Roots w 2) := hT
  clear hl hb hT hr
  have HE : Hid (compress s.list blk = plus8 s (rnds s (sched blk 64) 64)) := rfl
  generalize compress s.list blk = out at *
  obtain ⟨ha, hb, hc, hd, he, hf, hg, hk⟩ := s
  simp only [S8.list, List.map_cons, List.map_nil, wv]
  have HB0 : Hid (∀ o1 o2, Bl (((w.alloc o1).alloc (.cells (blk.map bv).toArray 84)).alloc o2) (w.heap.size + 1) (blk.map bv) 84) := fun o1 o2 => by
    have := (Bl.new (w.alloc o1) (blk.map bv).toArray 84).alloc o2
    rw [World.size_alloc] at this
    exact this
  have HS0 : Hid ((Tryd.prog.info? 84).map (·.size) = some (blk.map bv).toArray.size) := by show _ = _; rw [size70]; simp [HL.out]
  go_enter Tryd.func69, Tryd.ntmps69
  go_wp2_with (first
    | (refine wpList_load_row rfl 84 _ rfl (w.heap.size + 1) rfl 84 (blk.map bv).toArray (0, 0) _ (HB0.out _ _) Tryd.underlying84 rfl HS0.out ?_)
    | fail)
  refine (spread_any blk _ HL.out HX.out).mono ?_
  rintro e w1 ⟨rfl, h1⟩
  have HB1 : Hid (Below w.heap.size w w1) := ((((Below.refl _ _).alloc (Nat.le_refl _) _).alloc (by simp) _).alloc (by simp; omega) _).trans (h1.mono (by simp; omega))
  have G0 : Hid (Bl w1 w.heap.size (S8.list ⟨ha, hb, hc, hd, he, hf, hg, hk⟩ |>.map wv) 76) := by
    refine Bl.keep ?_ h1
    exact ((Bl.new w _ _).alloc _).alloc _
  have G2 : Hid (Bl w1 (w.heap.size + 1 + 1) ((List.replicate 8 0).map wv) 76) := by
    refine Bl.keep ?_ h1
    have := Bl.new ((w.alloc (Obj.cells #[Value.int IntKind.u32 (ha : Int), Value.int IntKind.u32 (hb : Int), Value.int IntKind.u32 (hc : Int), Value.int IntKind.u32 (hd : Int), Value.int IntKind.u32 (he : Int), Value.int IntKind.u32 (hf : Int), Value.int IntKind.u32 (hg : Int), Value.int IntKind.u32 (hk : Int)] 76)).alloc (Obj.cells (List.map bv blk).toArray 84)) ((List.replicate 8 0).map wv).toArray 76
    rw [World.size_alloc, World.size_alloc] at this
    exact this
  have hz1 : w.heap.size + 1 + 1 < w1.heap.size := by have := h1.size; simp at this; omega
  have h00 : 2 < w.heap.size := HT.out.lt
  clear h1 HB0
  have HSL : Hid ((sched blk 64).length = 64) := sched_length _ _
  have HWl : Hid (rnds ⟨ha, hb, hc, hd, he, hf, hg, hk⟩ (sched blk 64) 0 = ⟨ha, hb, hc, hd, he, hf, hg, hk⟩) := rfl
  clear HS0
  generalize sched blk 64 = W at *
  have HS1 : Hid ((Tryd.prog.info? 97).map (·.size) = some (W.map wv).toArray.size) := by show _ = _; rw [size99]; simp [HSL.out]
  have HN : Hid (∀ C, Bl ((w1.alloc (Obj.cells C 97)).setRow w1.heap.size (W.map wv).toArray) w1.heap.size (W.map wv) 97) := fun C => (Bl.new w1 C _).setRow _
  have HO : Hid (∀ C k cs t, Bl w1 k cs t → Bl ((w1.alloc (Obj.cells C 97)).setRow w1.heap.size (W.map wv).toArray) k cs t) := fun C k cs t h => (h.alloc _).setRow_other (by have := h.lt; omega) _
  have HBB : Hid (∀ C, Below w.heap.size w ((w1.alloc (Obj.cells C 97)).setRow w1.heap.size (W.map wv).toArray)) := fun C => below_setRow (HB1.out.alloc (by omega) _) (by omega) _
  have c0 : ∀ C, ((w1.alloc (Obj.cells C 97)).setRow w1.heap.size (W.map wv).toArray).cell? ⟨w.heap.size, 0, none⟩ = some (.int .u32 (ha : Int)) := fun C => (HO.out C _ _ _ G0.out).u32 0 (by simp [S8.list])
  have c1 : ∀ C, ((w1.alloc (Obj.cells C 97)).setRow w1.heap.size (W.map wv).toArray).cell? ⟨w.heap.size, 1, none⟩ = some (.int .u32 (hb : Int)) := fun C => (HO.out C _ _ _ G0.out).u32 1 (by simp [S8.list])
  have c2 : ∀ C, ((w1.alloc (Obj.cells C 97)).setRow w1.heap.size (W.map wv).toArray).cell? ⟨w.heap.size, 2, none⟩ = some (.int .u32 (hc : Int)) := fun C => (HO.out C _ _ _ G0.out).u32 2 (by simp [S8.list])
  have c3 : ∀ C, ((w1.alloc (Obj.cells C 97)).setRow w1.heap.size (W.map wv).toArray).cell? ⟨w.heap.size, 3, none⟩ = some (.int .u32 (hd : Int)) := fun C => (HO.out C _ _ _ G0.out).u32 3 (by simp [S8.list])
  have c4 : ∀ C, ((w1.alloc (Obj.cells C 97)).setRow w1.heap.size (W.map wv).toArray).cell? ⟨w.heap.size, 4, none⟩ = some (.int .u32 (he : Int)) := fun C => (HO.out C _ _ _ G0.out).u32 4 (by simp [S8.list])
  have c5 : ∀ C, ((w1.alloc (Obj.cells C 97)).setRow w1.heap.size (W.map wv).toArray).cell? ⟨w.heap.size, 5, none⟩ = some (.int .u32 (hf : Int)) := fun C => (HO.out C _ _ _ G0.out).u32 5 (by simp [S8.list])
  have c6 : ∀ C, ((w1.alloc (Obj.cells C 97)).setRow w1.heap.size (W.map wv).toArray).cell? ⟨w.heap.size, 6, none⟩ = some (.int .u32 (hg : Int)) := fun C => (HO.out C _ _ _ G0.out).u32 6 (by simp [S8.list])
  have c7 : ∀ C, ((w1.alloc (Obj.cells C 97)).setRow w1.heap.size (W.map wv).toArray).cell? ⟨w.heap.size, 7, none⟩ = some (.int .u32 (hk : Int)) := fun C => (HO.out C _ _ _ G0.out).u32 7 (by simp [S8.list])
  go_wp2_with (first
    | (refine wpList_store_row rfl 97 _ _ rfl w1.heap.size (W.map wv).toArray rfl rfl 97 _ (Bl.new w1 _ _) HS1.out (by simp [HSL.out]) (all_oneCell_toArray (wv_one _)) ?_)
    | fail)
  simp only [Act.put]
  go_quiet (fail)
  clear c0 c1 c2 c3 c4 c5 c6 c7
  go_wp2
  go_loopw [6, 7, 8, 9, 10, 11, 12, 13, 35] (fun a b c d e f g k i wr => ∃ t : Nat, ∃ z : S8, t ≤ 64 ∧ i = .int .i64 t ∧ a = .int .u32 z.a ∧ b = .int .u32 z.b ∧ c = .int .u32 z.c ∧ d = .int .u32 z.d ∧ e = .int .u32 z.e ∧ f = .int .u32 z.f ∧ g = .int .u32 z.g ∧ k = .int .u32 z.k ∧
    Hid (z = rnds ⟨ha, hb, hc, hd, he, hf, hg, hk⟩ W t) ∧ Hid (Bl wr w.heap.size (S8.list ⟨ha, hb, hc, hd, he, hf, hg, hk⟩ |>.map wv) 76) ∧ Hid (Bl wr (w.heap.size + 1 + 1) ((List.replicate 8 0).map wv) 76) ∧ Hid (Bl wr w1.heap.size (W.map wv) 97) ∧ Hid (Below w.heap.size w wr))
    (fun _ _ _ _ _ _ _ _ i _ => 64 - (intOf i).toNat)
  case atStart =>
    refine ⟨0, ⟨ha, hb, hc, hd, he, hf, hg, hk⟩, Nat.zero_le _, rfl, rfl, rfl, rfl, rfl, rfl, rfl, rfl, rfl, HWl.out.symm, ?_, ?_, ?_, ?_⟩
    · exact (HO.out _ _ _ _ G0.out).drewN nq
    · exact (HO.out _ _ _ _ G2.out).drewN nq
    · exact (HN.out _).drewN nq
    · exact below_drewN (HBB.out _) nq
  case round =>
    clear HO HN HBB G0 G2 HB1 HWl
    obtain ⟨t, ⟨za, zb, zc, zd, ze, zf, zg, zk⟩, ht, rfl, rfl, rfl, rfl, rfl, rfl, rfl, rfl, rfl, HZ, G0, G2, G3, HB⟩ := hrel
    by_cases hlt : t < 64
    · have hck : wr.cell? ⟨2, t, none⟩ = some (.int .u32 ((Kt.getD t 0 : Nat) : Int)) := (HT.out.below HB.out HT.out.lt) t hlt
      have hw : wr.cell? ⟨w1.heap.size, t, none⟩ = some (.int .u32 ((W.getD t 0 : Nat) : Int)) := G3.out.u32 t (by rw [HSL.out]; exact hlt)
      have HR : Hid (rnds ⟨ha, hb, hc, hd, he, hf, hg, hk⟩ W (t + 1) = rnd ⟨za, zb, zc, zd, ze, zf, zg, zk⟩ (Kt.getD t 0) (W.getD t 0)) := by show rnd _ _ _ = _; rw [← HZ.out]
      generalize Kt.getD t 0 = kt at *
      generalize W.getD t 0 = wt at *
      have fx := wx
      have fn := wn
      have fn' := wn'
      have fand := wa
      have fa := wadd
      go_wp2
      go_quiet ((go_at_call 72; exact Calls.quiet_of_same (round_any _ _ _ (by decide) (by decide))))
      go_wp2_with (go_at_call 72; refine (round_any _ _ _ (by decide) (by decide)).mono ?_; rintro e w' ⟨rfl, rfl⟩)
      go_roundw
      case rel =>
        refine ⟨t + 1, rnd ⟨za, zb, zc, zd, ze, zf, zg, zk⟩ kt wt, by omega, by go_num, rfl, rfl, rfl, rfl, rfl, rfl, rfl, rfl, HR.out.symm, G0.out.drewN _, G2.out.drewN _, G3.out.drewN _, below_drewN HB.out _⟩
      case measure => simp [intOf]; omega
    · have HZ64 : Hid (⟨za, zb, zc, zd, ze, zf, zg, zk⟩ = rnds ⟨ha, hb, hc, hd, he, hf, hg, hk⟩ W 64) := by rw [show 64 = t by omega]; exact HZ
      have c0 : wr.cell? ⟨w.heap.size, 0, none⟩ = some (.int .u32 (ha : Int)) := G0.out.u32 0 (by simp [S8.list])
      have c1 : wr.cell? ⟨w.heap.size, 1, none⟩ = some (.int .u32 (hb : Int)) := G0.out.u32 1 (by simp [S8.list])
      have c2 : wr.cell? ⟨w.heap.size, 2, none⟩ = some (.int .u32 (hc : Int)) := G0.out.u32 2 (by simp [S8.list])
      have c3 : wr.cell? ⟨w.heap.size, 3, none⟩ = some (.int .u32 (hd : Int)) := G0.out.u32 3 (by simp [S8.list])
      have c4 : wr.cell? ⟨w.heap.size, 4, none⟩ = some (.int .u32 (he : Int)) := G0.out.u32 4 (by simp [S8.list])
      have c5 : wr.cell? ⟨w.heap.size, 5, none⟩ = some (.int .u32 (hf : Int)) := G0.out.u32 5 (by simp [S8.list])
      have c6 : wr.cell? ⟨w.heap.size, 6, none⟩ = some (.int .u32 (hg : Int)) := G0.out.u32 6 (by simp [S8.list])
      have c7 : wr.cell? ⟨w.heap.size, 7, none⟩ = some (.int .u32 (hk : Int)) := G0.out.u32 7 (by simp [S8.list])
      have fa := wadd
      go_wp2_with (first
        | (refine wpList_store_row rfl 76 _ _ rfl (w.heap.size + 1 + 1) ((plus8 ⟨ha, hb, hc, hd, he, hf, hg, hk⟩ ⟨za, zb, zc, zd, ze, zf, zg, zk⟩).map wv).toArray rfl rfl 76 ((List.replicate 8 0).map wv).toArray G2.out (by rw [size37]; rfl) rfl (all_oneCell_toArray (wv_one _)) ?_)
        | fail)
      refine bodyPost_ret (results_cell_row rfl _ _ (w.heap.size + 1 + 1) 76 ((plus8 ⟨ha, hb, hc, hd, he, hf, hg, hk⟩ ⟨za, zb, zc, zd, ze, zf, zg, zk⟩).map wv).toArray (0, 0) _ rfl (G2.out.setRow _) Tryd.underlying76 rfl (by rw [size37]; rfl)) rfl ⟨by rw [HE.out, ← HZ64.out], below_setRow HB.out (by omega) _⟩
end Go.Proofs.YtonnnolnkjahgaaDoor
