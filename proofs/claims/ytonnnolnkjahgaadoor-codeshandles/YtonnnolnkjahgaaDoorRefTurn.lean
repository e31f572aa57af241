/- The contract of the reference's turn: for every register and every place of bytes at which 64 of them lie the register that these turn it into; the table's 64 cells are a condition. -/
import Derived.Test.YtonnnolnkjahgaaDoorTurnedFn
namespace Go.Proofs.YtonnnolnkjahgaaDoor
open Go.RowKit

/-- The word under way: k of its four bytes are in. -/
def partW (blk : List Nat) (t : Nat) : Nat → Nat
  | 0 => 0
  | k + 1 => a32 (partW blk t k * 256 % 4294967296) (blk.getD (4 * t + k) 0)
theorem partW_four (blk : List Nat) (t : Nat) (hb : ∀ x ∈ blk, x < 256) : partW blk t 4 = wordAt blk t := by
  have h0 := getD_lt_of hb (by decide) (4 * t)
  have h1 := getD_lt_of hb (by decide) (4 * t + 1)
  have h2 := getD_lt_of hb (by decide) (4 * t + 2)
  have h3 := getD_lt_of hb (by decide) (4 * t + 3)
  simp only [partW, wordAt, be4, a32, Nat.add_zero]
  omega
theorem fill_nth (blk : List Nat) (t : Nat) (h : t < 64) : (fill blk t).getD t 0 = 0 := by
  simp only [fill, List.getD]
  rw [List.getElem?_append_right (by rw [sched_length]; omega), sched_length, Nat.sub_self, List.getElem?_replicate_of_lt (by omega)]
  rfl
theorem set_same {l : List Nat} {i x : Nat} (h : l.getD i 0 = x) (hi : i < l.length) : l.set i x = l := by
  apply List.ext_getElem?
  intro j
  rw [List.getElem?_set]
  split
  · rename_i e
    subst e
    simp only [List.getD, List.getElem?_eq_getElem hi, Option.getD_some] at h
    rw [List.getElem?_eq_getElem hi, h]
  · rfl
theorem set_getD {l : List Nat} {i x : Nat} (h : i < l.length) : (l.set i x).getD i 0 = x := by simp [List.getD, h]

theorem a32_comm (a b : Nat) : a32 a b = a32 b a := by unfold a32; rw [Nat.add_comm]
/-- The sums so far, the words behind them. -/
def mixed (h z : S8) (k : Nat) : List Nat := (plus8 h z).take k ++ z.list.drop k
theorem mixed_length (h z : S8) (k : Nat) (hk : k ≤ 8) : (mixed h z k).length = 8 := by simp [mixed, plus8, S8.list]; omega
theorem mixed_get (h z : S8) (k : Nat) (hk : k < 8) : (mixed h z k).getD k 0 = z.list.getD k 0 := by
  simp only [mixed, List.getD]
  have e : ((plus8 h z).take k).length = k := by simp [plus8]; omega
  rw [List.getElem?_append_right (by omega), e, Nat.sub_self, List.getElem?_drop]
  simp
theorem plus8_get (h z : S8) (k : Nat) (hk : k < 8) : (plus8 h z).getD k 0 = a32 (z.list.getD k 0) (h.list.getD k 0) := by
  rcases (show k = 0 ∨ k = 1 ∨ k = 2 ∨ k = 3 ∨ k = 4 ∨ k = 5 ∨ k = 6 ∨ k = 7 by omega) with rfl | rfl | rfl | rfl | rfl | rfl | rfl | rfl <;> exact a32_comm _ _
theorem mixed_set (h z : S8) (k : Nat) (hk : k < 8) : (mixed h z k).set k (a32 (z.list.getD k 0) (h.list.getD k 0)) = mixed h z (k + 1) := by
  rw [← plus8_get h z k hk]
  simp only [mixed]
  have e : ((plus8 h z).take k).length = k := by simp [plus8]; omega
  have hp : k < (plus8 h z).length := by simp [plus8]; omega
  have hz : k < z.list.length := by simp [S8.list]; omega
  rw [List.set_append_right _ _ (by omega), e, Nat.sub_self, List.take_succ_eq_append_getElem hp, List.drop_eq_getElem_cons hz, List.set_cons_zero, List.append_assoc]
  simp [List.getD, hp]

set_option maxHeartbeats 4000000 in
set_option maxRecDepth 100000 in
theorem refTurn_any (r blk : List Nat) (bb bo n cap at_ : Nat) (w : World) (hr : r.length = 8) (hl : blk.length = 64) (hb : ∀ x ∈ blk, x < 256) (hrow : Row w (some ⟨bb, bo + at_, none⟩) blk) (hn : at_ + 64 ≤ n) (hnm : n ≤ 281474976710656) (hT : Roots w 3) :
    Calls Tryd.prog 70 #[.agg (r.map wv).toArray, .slice (some ⟨bb, bo, none⟩) n cap, .int .i64 (at_ : Int)] w fun e w' => e = .returned (.agg ((compress r blk).map wv).toArray) ∧ Below w.heap.size w w' := by
  obtain ⟨s, rfl⟩ := list8 r hr
  have HL : Hid (blk.length = 64) := hl
  have HX : Hid (∀ x ∈ blk, x < 256) := hb
  have HT : Hid (Roots w 3) := hT
  have HRW : Hid (Row w (some ⟨bb, bo + at_, none⟩) blk) := hrow
  have hbb : bb < w.heap.size := hrow.lt (by intro h; rw [h] at hl; simp at hl)
  clear hl hb hT hr hrow
  have HE : Hid (compress s.list blk = plus8 s (rnds s (sched blk 64) 64)) := rfl
  generalize compress s.list blk = out at *
  obtain ⟨ha, hb, hc, hd, he, hf, hg, hk⟩ := s
  have h00 : 3 < w.heap.size := HT.out.lt
  simp only [S8.list, List.map_cons, List.map_nil, wv]
  go_enter Tryd.func70, Tryd.ntmps70
  go_wp2
  go_loopw [8] (fun i wr => ∃ t : Nat, t ≤ 64 ∧ i = .int .i64 t ∧ Hid (Bl wr w.heap.size (S8.list ⟨ha, hb, hc, hd, he, hf, hg, hk⟩ |>.map wv) 76) ∧ Hid (Bl wr (w.heap.size + 1) ((List.replicate 8 0).map wv) 76) ∧ Hid (Bl wr (w.heap.size + 1 + 1) ((fill blk t).map wv) 97) ∧ Hid (Below w.heap.size w wr)) (fun i _ => 64 - (intOf i).toNat)
  case atStart =>
    refine ⟨0, Nat.zero_le _, rfl, ?_, ?_, ?_, ?_⟩
    · exact ((Bl.new w _ _).alloc _).alloc _
    · have := (Bl.new (w.alloc (Obj.cells #[Value.int IntKind.u32 (ha : Int), Value.int IntKind.u32 (hb : Int), Value.int IntKind.u32 (hc : Int), Value.int IntKind.u32 (hd : Int), Value.int IntKind.u32 (he : Int), Value.int IntKind.u32 (hf : Int), Value.int IntKind.u32 (hg : Int), Value.int IntKind.u32 (hk : Int)] 76)) ((List.replicate 8 0).map wv).toArray 76)
      rw [World.size_alloc] at this
      exact this.alloc _
    · have := (Bl.new ((w.alloc (Obj.cells #[Value.int IntKind.u32 (ha : Int), Value.int IntKind.u32 (hb : Int), Value.int IntKind.u32 (hc : Int), Value.int IntKind.u32 (hd : Int), Value.int IntKind.u32 (he : Int), Value.int IntKind.u32 (hf : Int), Value.int IntKind.u32 (hg : Int), Value.int IntKind.u32 (hk : Int)] 76)).alloc (Obj.cells ((List.replicate 8 0).map wv).toArray 76)) ((List.replicate 64 0).map wv).toArray 97)
      rw [World.size_alloc, World.size_alloc] at this
      exact this
    · show Below _ _ _; go_grown
  case round =>
    obtain ⟨t, ht, rfl, G0, G1, G2, HB⟩ := hrel
    by_cases hlt : t < 64
    · by_cases h16 : t < 16
      · go_wp2
        go_loopw [9] (fun i wr => ∃ k : Nat, k ≤ 4 ∧ i = .int .i64 k ∧ Hid (Bl wr w.heap.size (S8.list ⟨ha, hb, hc, hd, he, hf, hg, hk⟩ |>.map wv) 76) ∧ Hid (Bl wr (w.heap.size + 1) ((List.replicate 8 0).map wv) 76) ∧ Hid (Bl wr (w.heap.size + 1 + 1) (((fill blk t).set t (partW blk t k)).map wv) 97) ∧ Hid (Below w.heap.size w wr)) (fun i _ => 4 - (intOf i).toNat)
        case atStart => exact ⟨0, Nat.zero_le _, rfl, G0, G1, by rw [show partW blk t 0 = 0 from rfl, set_same (fill_nth blk t hlt) (by rw [fill_length blk t ht]; exact hlt)]; exact G2, HB⟩
        case round =>
          clear G0 G1 G2 HB
          obtain ⟨k, hk4, rfl, G0, G1, G2, HB⟩ := hrel
          by_cases hlk : k < 4
          · have hfl := fill_length blk t ht
            have c1 : wr.cell? ⟨w.heap.size + 1 + 1, t, none⟩ = some (.int .u32 ((partW blk t k : Nat) : Int)) := by
              rw [G2.out.u32 t (by simp [hfl]; exact hlt), set_getD (by omega)]
            have f1 : wr.frozen? ⟨w.heap.size + 1 + 1, t, none⟩ = false := G2.out.frozen _
            have c2 : wr.cell? ⟨bb, bo + (at_ + 4 * t + k), none⟩ = some (.int .u8 ((blk.getD (4 * t + k) 0 : Nat) : Int)) := by
              have := (HRW.out.below HB.out (fun a ha => by cases ha; exact hbb)).cell (4 * t + k) (by rw [HL.out]; omega)
              rw [← this]
              congr 2
              omega
            have HP : Hid (partW blk t (k + 1) = a32 (partW blk t k * 256 % 4294967296) (blk.getD (4 * t + k) 0)) := rfl
            have hx := lt_get HX.out (4 * t + k)
            have fa := wadd
            generalize partW blk t k = pk at *
            generalize blk.getD (4 * t + k) 0 = bk at *
            have hm : ((pk : Int) * 256) % 4294967296 = ((pk * 256 % 4294967296 : Nat) : Int) := by omega
            have HA : Hid (a32 (pk * 256 % 4294967296) bk = pk * 256 % 4294967296 + bk) := by show _ = _; unfold a32; omega
            generalize pk * 256 % 4294967296 = pm at *
            clear hfl
            go_wp2
            go_region
            all_goals
              go_wp2
              go_roundw
              case rel =>
                refine ⟨k + 1, by omega, by go_num, ?_, ?_, ?_, ?_⟩
                · exact (G0.out.drewN 1).other (by omega) _ _
                · exact (G1.out.drewN 1).other (by omega) _ _
                · have := (G2.out.drewN 1).set t (wv (partW blk t (k + 1)))
                  rw [← List.map_set, List.set_set, HP.out, HA.out] at this
                  rw [HP.out, HA.out]
                  exact this
                · exact (below_drewN HB.out 1).setCell (p := ⟨w.heap.size + 1 + 1, t, none⟩) (by simp; omega) _
              case measure => simp [intOf]; omega
          · have HK : Hid (k = 4) := by show _ = _; omega
            go_wp2
            go_roundw
            case rel =>
              refine ⟨t + 1, by omega, by go_num, G0, G1, ?_, HB⟩
              have := G2.out
              rw [HK.out, partW_four blk t HX.out, fill_set blk t _ hlt (sched_low blk t h16)] at this
              exact this
            case measure => simp [intOf]; omega
      · obtain ⟨j, rfl⟩ : ∃ j, t = j + 16 := ⟨t - 16, by omega⟩
        have HC : Hid (∀ i, i < 64 → wr.cell? ⟨w.heap.size + 1 + 1, i, none⟩ = some (.int .u32 (((fill blk (j + 16)).getD i 0 : Nat) : Int))) := fun i hi => G2.out.u32 i (by rw [fill_length _ _ (by omega)]; omega)
        have c16 := HC.out j (by omega)
        have c15 := HC.out (j + 1) (by omega)
        have c7 := HC.out (j + 9) (by omega)
        have c2 := HC.out (j + 14) (by omega)
        have ck := HC.out (j + 16) (by omega)
        have fk : wr.frozen? ⟨w.heap.size + 1 + 1, j + 16, none⟩ = false := G2.out.frozen _
        have HN : Hid (nextW (sched blk (j + 16)) (j + 16) = a32 (a32 (a32 ((fill blk (j + 16)).getD j 0) (sg0 ((fill blk (j + 16)).getD (j + 1) 0))) ((fill blk (j + 16)).getD (j + 9) 0)) (sg1 ((fill blk (j + 16)).getD (j + 14) 0))) := by
          show nextW _ _ = _
          rw [fill_get _ _ _ (by omega), fill_get _ _ _ (by omega), fill_get _ _ _ (by omega), fill_get _ _ _ (by omega)]
          rfl
        have fx := wx
        have fa := wadd
        generalize (fill blk (j + 16)).getD j 0 = y16 at *
        generalize (fill blk (j + 16)).getD (j + 1) 0 = y15 at *
        generalize (fill blk (j + 16)).getD (j + 9) 0 = y7 at *
        generalize (fill blk (j + 16)).getD (j + 14) 0 = y2 at *
        generalize (fill blk (j + 16)).getD (j + 16) 0 = yk at *
        have d3 : ∀ z : Nat, (z : Int) / 8 = ((shr z 3 : Nat) : Int) := fun z => by unfold shr; omega
        have d10 : ∀ z : Nat, (z : Int) / 1024 = ((shr z 10 : Nat) : Int) := fun z => by unfold shr; omega
        go_wp2_with (go_at_call 73; refine (refRound_any _ _ _ (by decide) (by decide)).mono ?_; rintro e w' ⟨rfl, rfl⟩)
        go_region
        all_goals
          go_wp2
          go_roundw
          case rel =>
            refine ⟨j + 16 + 1, by omega, by go_num, ?_, ?_, ?_, ?_⟩
            · exact (G0.out.drewN 1).other (by omega) _ _
            · exact (G1.out.drewN 1).other (by omega) _ _
            · have := (G2.out.drewN 1).set (j + 16) (wv (nextW (sched blk (j + 16)) (j + 16)))
              rw [← List.map_set, fill_set blk (j + 16) _ (by omega) (sched_high blk (j + 16) (by omega)), HN.out] at this
              exact this
            · exact (below_drewN HB.out 1).setCell (p := ⟨w.heap.size + 1 + 1, j + 16, none⟩) (by simp; omega) _
          case measure => simp [intOf]; omega
    · have HF : Hid (fill blk t = sched blk 64) := by show _ = _; rw [show t = 64 by omega]; simp [fill]
      have HSL : Hid ((sched blk 64).length = 64) := sched_length _ _
      have HWl : Hid (rnds ⟨ha, hb, hc, hd, he, hf, hg, hk⟩ (sched blk 64) 0 = ⟨ha, hb, hc, hd, he, hf, hg, hk⟩) := rfl
      have G3 : Hid (Bl wr (w.heap.size + 1 + 1) ((sched blk 64).map wv) 97) := by rw [← HF.out]; exact G2
      clear HF G2
      generalize sched blk 64 = W at *
      have c0 : wr.cell? ⟨w.heap.size, 0, none⟩ = some (.int .u32 (ha : Int)) := G0.out.u32 0 (by simp [S8.list])
      have c1 : wr.cell? ⟨w.heap.size, 1, none⟩ = some (.int .u32 (hb : Int)) := G0.out.u32 1 (by simp [S8.list])
      have c2 : wr.cell? ⟨w.heap.size, 2, none⟩ = some (.int .u32 (hc : Int)) := G0.out.u32 2 (by simp [S8.list])
      have c3 : wr.cell? ⟨w.heap.size, 3, none⟩ = some (.int .u32 (hd : Int)) := G0.out.u32 3 (by simp [S8.list])
      have c4 : wr.cell? ⟨w.heap.size, 4, none⟩ = some (.int .u32 (he : Int)) := G0.out.u32 4 (by simp [S8.list])
      have c5 : wr.cell? ⟨w.heap.size, 5, none⟩ = some (.int .u32 (hf : Int)) := G0.out.u32 5 (by simp [S8.list])
      have c6 : wr.cell? ⟨w.heap.size, 6, none⟩ = some (.int .u32 (hg : Int)) := G0.out.u32 6 (by simp [S8.list])
      have c7 : wr.cell? ⟨w.heap.size, 7, none⟩ = some (.int .u32 (hk : Int)) := G0.out.u32 7 (by simp [S8.list])
      have hs := HB.out.size
      have hg2 := G3.out.lt
      obtain ⟨wq, hwq⟩ : ∃ x, x = wr := ⟨wr, rfl⟩
      subst hwq
      go_wp2
      go_loopw [15] (fun i wx => ∃ j : Nat, ∃ z : S8, j ≤ 64 ∧ i = .int .i64 j ∧ Hid (z = rnds ⟨ha, hb, hc, hd, he, hf, hg, hk⟩ W j) ∧ Hid (Bl wx wq.heap.size (z.list.map wv) 76) ∧ Hid (Bl wx w.heap.size (S8.list ⟨ha, hb, hc, hd, he, hf, hg, hk⟩ |>.map wv) 76) ∧ Hid (Bl wx (w.heap.size + 1) ((List.replicate 8 0).map wv) 76) ∧ Hid (Bl wx (w.heap.size + 1 + 1) (W.map wv) 97) ∧ Hid (Below w.heap.size w wx)) (fun i _ => 64 - (intOf i).toNat)
      case atStart =>
        refine ⟨0, ⟨ha, hb, hc, hd, he, hf, hg, hk⟩, Nat.zero_le _, rfl, HWl.out.symm, ?_, ?_, ?_, ?_, ?_⟩
        · exact Bl.new wq _ _
        · exact G0.out.alloc _
        · exact G1.out.alloc _
        · exact G3.out.alloc _
        · exact HB.out.alloc hs _
      case round =>
        clear c0 c1 c2 c3 c4 c5 c6 c7 G0 G1 G3 HB HWl hlt ht
        obtain ⟨j, ⟨za, zb, zc, zd, ze, zf, zg, zk⟩, hj, rfl, HZ, GZ, G0, G1, G3, HB⟩ := hrel
        by_cases hlt : j < 64
        · have z0 : wr.cell? ⟨wq.heap.size, 0, none⟩ = some (.int .u32 (za : Int)) := GZ.out.u32 0 (by simp [S8.list])
          have z1 : wr.cell? ⟨wq.heap.size, 1, none⟩ = some (.int .u32 (zb : Int)) := GZ.out.u32 1 (by simp [S8.list])
          have z2 : wr.cell? ⟨wq.heap.size, 2, none⟩ = some (.int .u32 (zc : Int)) := GZ.out.u32 2 (by simp [S8.list])
          have z3 : wr.cell? ⟨wq.heap.size, 3, none⟩ = some (.int .u32 (zd : Int)) := GZ.out.u32 3 (by simp [S8.list])
          have z4 : wr.cell? ⟨wq.heap.size, 4, none⟩ = some (.int .u32 (ze : Int)) := GZ.out.u32 4 (by simp [S8.list])
          have z5 : wr.cell? ⟨wq.heap.size, 5, none⟩ = some (.int .u32 (zf : Int)) := GZ.out.u32 5 (by simp [S8.list])
          have z6 : wr.cell? ⟨wq.heap.size, 6, none⟩ = some (.int .u32 (zg : Int)) := GZ.out.u32 6 (by simp [S8.list])
          have z7 : wr.cell? ⟨wq.heap.size, 7, none⟩ = some (.int .u32 (zk : Int)) := GZ.out.u32 7 (by simp [S8.list])
          have hck : wr.cell? ⟨3, j, none⟩ = some (.int .u32 ((Kt.getD j 0 : Nat) : Int)) := (HT.out.below HB.out HT.out.lt) j hlt
          have hw : wr.cell? ⟨w.heap.size + 1 + 1, j, none⟩ = some (.int .u32 ((W.getD j 0 : Nat) : Int)) := G3.out.u32 j (by rw [HSL.out]; exact hlt)
          have HR : Hid (rnds ⟨ha, hb, hc, hd, he, hf, hg, hk⟩ W (j + 1) = rnd ⟨za, zb, zc, zd, ze, zf, zg, zk⟩ (Kt.getD j 0) (W.getD j 0)) := by show rnd _ _ _ = _; rw [← HZ.out]
          generalize Kt.getD j 0 = kt at *
          generalize W.getD j 0 = wt at *
          have fx := wx
          have fn := wn
          have fn' := wn'
          have fand := wa
          have fa := wadd
          go_wp2
          go_quiet (fail)
          go_wp2
          obtain ⟨w2, hw2⟩ : ∃ x, x = wr.drewN nq := ⟨_, rfl⟩
          rw [← hw2]
          replace z0 : w2.cell? ⟨wq.heap.size, 0, none⟩ = some (.int .u32 (za : Int)) := by rw [hw2]; exact z0
          replace z1 : w2.cell? ⟨wq.heap.size, 1, none⟩ = some (.int .u32 (zb : Int)) := by rw [hw2]; exact z1
          replace z2 : w2.cell? ⟨wq.heap.size, 2, none⟩ = some (.int .u32 (zc : Int)) := by rw [hw2]; exact z2
          replace z3 : w2.cell? ⟨wq.heap.size, 3, none⟩ = some (.int .u32 (zd : Int)) := by rw [hw2]; exact z3
          replace z4 : w2.cell? ⟨wq.heap.size, 4, none⟩ = some (.int .u32 (ze : Int)) := by rw [hw2]; exact z4
          replace z5 : w2.cell? ⟨wq.heap.size, 5, none⟩ = some (.int .u32 (zf : Int)) := by rw [hw2]; exact z5
          replace z6 : w2.cell? ⟨wq.heap.size, 6, none⟩ = some (.int .u32 (zg : Int)) := by rw [hw2]; exact z6
          replace z7 : w2.cell? ⟨wq.heap.size, 7, none⟩ = some (.int .u32 (zk : Int)) := by rw [hw2]; exact z7
          replace hck : w2.cell? ⟨3, j, none⟩ = some (.int .u32 (kt : Int)) := by rw [hw2]; exact hck
          replace hw : w2.cell? ⟨w.heap.size + 1 + 1, j, none⟩ = some (.int .u32 (wt : Int)) := by rw [hw2]; exact hw
          replace GZ : Hid (Bl w2 wq.heap.size (S8.list ⟨za, zb, zc, zd, ze, zf, zg, zk⟩ |>.map wv) 76) := by rw [hw2]; exact GZ.out.drewN nq
          replace G0 : Hid (Bl w2 w.heap.size (S8.list ⟨ha, hb, hc, hd, he, hf, hg, hk⟩ |>.map wv) 76) := by rw [hw2]; exact G0.out.drewN nq
          replace G1 : Hid (Bl w2 (w.heap.size + 1) ((List.replicate 8 0).map wv) 76) := by rw [hw2]; exact G1.out.drewN nq
          replace G3 : Hid (Bl w2 (w.heap.size + 1 + 1) (W.map wv) 97) := by rw [hw2]; exact G3.out.drewN nq
          replace HB : Hid (Below w.heap.size w w2) := by rw [hw2]; exact below_drewN HB.out nq
          clear hw2
          go_quiet ((go_at_call 73; exact Calls.quiet_of_same (refRound_any _ _ _ (by decide) (by decide))))
          go_wp2_with (first
            | (go_at_call 73; refine (refRound_any _ _ _ (by decide) (by decide)).mono ?_; rintro e w' ⟨rfl, rfl⟩)
            | (refine wpList_store_row rfl 76 _ _ rfl wq.heap.size ((rnd ⟨za, zb, zc, zd, ze, zf, zg, zk⟩ kt wt).list.map wv).toArray rfl rfl 76 ((S8.list ⟨za, zb, zc, zd, ze, zf, zg, zk⟩).map wv).toArray GZ.out (by rw [size37]; rfl) rfl (all_oneCell_toArray (wv_one _)) ?_)
            | fail)
          go_roundw
          case rel =>
            refine ⟨j + 1, rnd ⟨za, zb, zc, zd, ze, zf, zg, zk⟩ kt wt, by omega, by go_num, HR.out.symm, ?_, ?_, ?_, ?_, ?_⟩
            · exact (GZ.out.drewN _).setRow _
            · exact (G0.out.drewN _).setRow_other (by omega) _
            · exact (G1.out.drewN _).setRow_other (by omega) _
            · exact (G3.out.drewN _).setRow_other (by omega) _
            · exact below_setRow (below_drewN HB.out _) hs _
          case measure => simp [intOf]; omega
        · have HZ64 : Hid (⟨za, zb, zc, zd, ze, zf, zg, zk⟩ = rnds ⟨ha, hb, hc, hd, he, hf, hg, hk⟩ W 64) := by rw [show 64 = j by omega]; exact HZ
          go_wp2
          go_loopw [22] (fun i wx => ∃ k : Nat, k ≤ 8 ∧ i = .int .i64 k ∧ Hid (Bl wx wq.heap.size ((mixed ⟨ha, hb, hc, hd, he, hf, hg, hk⟩ ⟨za, zb, zc, zd, ze, zf, zg, zk⟩ k).map wv) 76) ∧ Hid (Bl wx w.heap.size (S8.list ⟨ha, hb, hc, hd, he, hf, hg, hk⟩ |>.map wv) 76) ∧ Hid (Bl wx (w.heap.size + 1) ((List.replicate 8 0).map wv) 76) ∧ Hid (Below w.heap.size w wx)) (fun i _ => 8 - (intOf i).toNat)
          case atStart => exact ⟨0, Nat.zero_le _, rfl, GZ, G0, G1, HB⟩
          case round =>
            clear GZ G0 G1 G3 HB hlt hj
            obtain ⟨k, hk8, rfl, GZ, G0, G1, HB⟩ := hrel
            by_cases hlt : k < 8
            · have HM : Hid ((mixed ⟨ha, hb, hc, hd, he, hf, hg, hk⟩ ⟨za, zb, zc, zd, ze, zf, zg, zk⟩ k).set k (a32 ((S8.list ⟨za, zb, zc, zd, ze, zf, zg, zk⟩).getD k 0) ((S8.list ⟨ha, hb, hc, hd, he, hf, hg, hk⟩).getD k 0)) = mixed ⟨ha, hb, hc, hd, he, hf, hg, hk⟩ ⟨za, zb, zc, zd, ze, zf, zg, zk⟩ (k + 1)) := mixed_set _ _ k hlt
              have cz : wr.cell? ⟨wq.heap.size, k, none⟩ = some (.int .u32 (((S8.list ⟨za, zb, zc, zd, ze, zf, zg, zk⟩).getD k 0 : Nat) : Int)) := by
                rw [GZ.out.u32 k (by rw [mixed_length _ _ _ hk8]; exact hlt), mixed_get _ _ _ hlt]
              have ch : wr.cell? ⟨w.heap.size, k, none⟩ = some (.int .u32 (((S8.list ⟨ha, hb, hc, hd, he, hf, hg, hk⟩).getD k 0 : Nat) : Int)) := G0.out.u32 k (by simp [S8.list]; omega)
              have fz : wr.frozen? ⟨wq.heap.size, k, none⟩ = false := GZ.out.frozen _
              generalize (S8.list ⟨za, zb, zc, zd, ze, zf, zg, zk⟩).getD k 0 = zk' at *
              generalize (S8.list ⟨ha, hb, hc, hd, he, hf, hg, hk⟩).getD k 0 = hk' at *
              have fa := wadd
              go_wp2
              go_region
              all_goals
                go_wp2
                go_roundw
                case rel =>
                  refine ⟨k + 1, by omega, by go_num, ?_, ?_, ?_, ?_⟩
                  · have := (GZ.out.drewN 1).set k (wv (a32 zk' hk'))
                    rw [← List.map_set, HM.out] at this
                    exact this
                  · exact (G0.out.drewN 1).other (by omega) _ _
                  · exact (G1.out.drewN 1).other (by omega) _ _
                  · exact (below_drewN HB.out 1).setCell (p := ⟨wq.heap.size, k, none⟩) hs _
                case measure => simp [intOf]; omega
            · have HOO : Hid (out = plus8 ⟨ha, hb, hc, hd, he, hf, hg, hk⟩ ⟨za, zb, zc, zd, ze, zf, zg, zk⟩) := by show _ = _; rw [HE.out, ← HZ64.out]
              have HM : Hid (mixed ⟨ha, hb, hc, hd, he, hf, hg, hk⟩ ⟨za, zb, zc, zd, ze, zf, zg, zk⟩ k = out) := by
                show _ = _
                rw [HOO.out, show k = 8 by omega]
                simp [mixed, plus8, S8.list]
              have GO : Hid (Bl wr wq.heap.size (out.map wv) 76) := by rw [← HM.out]; exact GZ
              have HOL : Hid ((Tryd.prog.info? 76).map (·.size) = some (out.map wv).toArray.size) := by show _ = _; rw [size37, HOO.out]; rfl
              have HOL2 : Hid (((List.replicate 8 0).map wv).toArray.size = (out.map wv).toArray.size) := by show _ = _; rw [HOO.out]; rfl
              clear GZ
              go_wp2_with (first
                | (refine wpList_load_row rfl 76 _ rfl wq.heap.size rfl 76 (out.map wv).toArray (0, 0) _ GO.out Tryd.underlying76 rfl HOL.out ?_)
                | (refine wpList_store_row rfl 76 _ _ rfl (w.heap.size + 1) (out.map wv).toArray rfl rfl 76 ((List.replicate 8 0).map wv).toArray G1.out HOL.out HOL2.out (all_oneCell_toArray (wv_one _)) ?_)
                | fail)
              refine bodyPost_ret (results_cell_row rfl _ _ (w.heap.size + 1) 76 (out.map wv).toArray (0, 0) _ rfl (G1.out.setRow _) Tryd.underlying76 rfl HOL.out) rfl ⟨rfl, below_setRow HB.out (by omega) _⟩
end Go.Proofs.YtonnnolnkjahgaaDoor
