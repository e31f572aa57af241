/- The contracts of digest.keyBlock, digest.padded: for every key, every block and pad. -/
import Derived.Test.YtjdglpfjemoodaaDoorSumTop
namespace Go.Proofs.YtjdglpfjemoodaaDoor
open Go.RowKit

/-- The key as a block. -/
def kkey (xs : List Nat) : List Nat := if 64 < xs.length then sha xs else xs
def kblk (xs : List Nat) : List Nat := kkey xs ++ List.replicate (64 - (kkey xs).length) 0
theorem kkey_length (xs : List Nat) : (kkey xs).length ≤ 64 := by
  unfold kkey
  split
  · rw [sha_length]; decide
  · omega
theorem kkey_lt {xs : List Nat} (h : ∀ x ∈ xs, x < 256) : ∀ x ∈ kkey xs, x < 256 := by
  unfold kkey
  split
  · exact sha_lt xs
  · exact h
theorem kblk_length (xs : List Nat) : (kblk xs).length = 64 := by have := kkey_length xs; unfold kblk; simp; omega
theorem kblk_lt {xs : List Nat} (h : ∀ x ∈ xs, x < 256) : ∀ x ∈ kblk xs, x < 256 := fun x hx => by
  rcases List.mem_append.1 hx with hx | hx
  · exact kkey_lt h x hx
  · rw [List.eq_of_mem_replicate hx]; decide

set_option maxHeartbeats 1000000 in
set_option maxRecDepth 100000 in
theorem keyBlock_any (n cap : Nat) (ao : Option Addr) (xs : List Nat) (w : World) (hn : n = xs.length) (hnc : n ≤ cap) (hl : n ≤ 281474976710656) (hx : ∀ x ∈ xs, x < 256) (hr : Row w ao xs) (hT : Roots w 0) :
    Calls Tryd.prog 41 #[.slice ao n cap] w fun e w' => e = .returned (.agg ((kblk xs).map bv).toArray) ∧ Below w.heap.size w w' := by
  have HN : Hid (n = xs.length) := hn
  have HX : Hid (∀ x ∈ xs, x < 256) := hx
  have HR : Hid (Row w ao xs) := hr
  have HT : Hid (Roots w 0) := hT
  have HKE : Hid (kblk xs = kkey xs ++ List.replicate (64 - (kkey xs).length) 0) := rfl
  have HKL : Hid ((kblk xs).length = 64) := kblk_length xs
  have HKK : Hid ((kkey xs).length ≤ 64) := kkey_length xs
  have HK1 : Hid (64 < n → kkey xs = sha xs) := fun h => by unfold kkey; rw [if_pos (by omega)]
  have HK2 : Hid (¬ 64 < n → kkey xs = xs) := fun h => by unfold kkey; rw [if_neg (by omega)]
  clear hn hx hr hT
  generalize kblk xs = out at *
  generalize kkey xs = kk at *
  have hsa : ∀ W, (Instr.sliceAt 70 (.pointer (some ⟨w.heap.size + 1, 0, none⟩)) none none none).run Tryd.prog W = .ok (.slice (some ⟨w.heap.size + 1, 0, none⟩) 64 64) W := fun W => arr_all 70 64 underArr64 (w.heap.size + 1) 0 (by decide) W
  have hlt0 : w.heap.size < w.heap.size + 1 := by omega
  obtain ⟨wa, hwa⟩ : ∃ x, x = (w.alloc (Obj.cells ((List.replicate 64 0).map bv).toArray 70)).alloc (Obj.cells ((List.replicate 64 0).map bv).toArray 70) := ⟨_, rfl⟩
  have G0 : Hid (Bl wa w.heap.size ((List.replicate 64 0).map bv) 70) := by rw [hwa]; exact (Bl.new w _ _).alloc _
  have G1 : Hid (Bl wa (w.heap.size + 1) ((List.replicate 64 0).map bv) 70) := by
    rw [hwa]
    have := Bl.new (w.alloc (Obj.cells ((List.replicate 64 0).map bv).toArray 70)) ((List.replicate 64 0).map bv).toArray 70
    rw [World.size_alloc] at this
    exact this
  have HBA : Hid (Below w.heap.size w wa) := by rw [hwa]; exact ((Below.refl _ _).alloc (Nat.le_refl _) _).alloc (by simp) _
  have hsz : w.heap.size + 1 < wa.heap.size := G1.out.lt
  have hwa2 : wa = (w.alloc (Obj.cells #[.int .u8 0, .int .u8 0, .int .u8 0, .int .u8 0, .int .u8 0, .int .u8 0, .int .u8 0, .int .u8 0, .int .u8 0, .int .u8 0, .int .u8 0, .int .u8 0, .int .u8 0, .int .u8 0, .int .u8 0, .int .u8 0, .int .u8 0, .int .u8 0, .int .u8 0, .int .u8 0, .int .u8 0, .int .u8 0, .int .u8 0, .int .u8 0, .int .u8 0, .int .u8 0, .int .u8 0, .int .u8 0, .int .u8 0, .int .u8 0, .int .u8 0, .int .u8 0, .int .u8 0, .int .u8 0, .int .u8 0, .int .u8 0, .int .u8 0, .int .u8 0, .int .u8 0, .int .u8 0, .int .u8 0, .int .u8 0, .int .u8 0, .int .u8 0, .int .u8 0, .int .u8 0, .int .u8 0, .int .u8 0, .int .u8 0, .int .u8 0, .int .u8 0, .int .u8 0, .int .u8 0, .int .u8 0, .int .u8 0, .int .u8 0, .int .u8 0, .int .u8 0, .int .u8 0, .int .u8 0, .int .u8 0, .int .u8 0, .int .u8 0, .int .u8 0] 70)).alloc (Obj.cells #[.int .u8 0, .int .u8 0, .int .u8 0, .int .u8 0, .int .u8 0, .int .u8 0, .int .u8 0, .int .u8 0, .int .u8 0, .int .u8 0, .int .u8 0, .int .u8 0, .int .u8 0, .int .u8 0, .int .u8 0, .int .u8 0, .int .u8 0, .int .u8 0, .int .u8 0, .int .u8 0, .int .u8 0, .int .u8 0, .int .u8 0, .int .u8 0, .int .u8 0, .int .u8 0, .int .u8 0, .int .u8 0, .int .u8 0, .int .u8 0, .int .u8 0, .int .u8 0, .int .u8 0, .int .u8 0, .int .u8 0, .int .u8 0, .int .u8 0, .int .u8 0, .int .u8 0, .int .u8 0, .int .u8 0, .int .u8 0, .int .u8 0, .int .u8 0, .int .u8 0, .int .u8 0, .int .u8 0, .int .u8 0, .int .u8 0, .int .u8 0, .int .u8 0, .int .u8 0, .int .u8 0, .int .u8 0, .int .u8 0, .int .u8 0, .int .u8 0, .int .u8 0, .int .u8 0, .int .u8 0, .int .u8 0, .int .u8 0, .int .u8 0, .int .u8 0] 70) := hwa
  clear hwa
  have HCO : Hid ((Tryd.prog.info? 70).map (·.size) = some (out.map bv).toArray.size) := by show _ = _; rw [size70]; simp [HKL.out]
  have HFIN : Hid (∀ W, Bl W (w.heap.size + 1) ((List.replicate 64 0).map bv) 70 → Bl (W.setCells (w.heap.size + 1) 0 (kk.map bv)) (w.heap.size + 1) (out.map bv) 70) := fun W h => by
    have h2 := heap_setCells (w.heap.size + 1) _ (kk.map bv) 0 _ W h (by simp; exact HKK.out)
    rw [List.take_zero, List.nil_append, Nat.zero_add, List.length_map, ← List.map_drop, List.drop_replicate] at h2
    rw [HKE.out, List.map_append]
    exact h2
  have HOTH : Hid (∀ W, Bl W w.heap.size ((List.replicate 64 0).map bv) 70 → Bl (W.setCells (w.heap.size + 1) 0 (kk.map bv)) w.heap.size ((List.replicate 64 0).map bv) 70) := fun W h => (heap_setCells_other _ _ _ _ _ (by omega)).trans h
  have HTHR : Hid (∀ W, Bl W (w.heap.size + 1) ((List.replicate 64 0).map bv) 70 → W.there (w.heap.size + 1) 0 kk.length) := fun W h => h.there 0 _ (by simp; exact HKK.out)
  go_enter Tryd.func41, Tryd.ntmps41
  go_upto_region 2 with fail
  rw [← hwa2]
  clear hwa2
  by_cases hbig : 64 < n
  · go_wp2_with fail
    refine (sum_any n cap ao xs wa hl HN.out hnc HX.out (HR.out.keep HBA.out) (HT.out.keep HBA.out)).mono ?_
    rintro e w1 ⟨rfl, h1⟩
    rw [← HK1.out hbig]
    have HK32 : Hid (kk.length = 32) := by show _ = _; rw [HK1.out hbig, sha_length]
    have hs1 := h1.size
    have G01 : Hid (Bl w1 w.heap.size ((List.replicate 64 0).map bv) 70) := G0.out.keep h1
    have G11 : Hid (Bl w1 (w.heap.size + 1) ((List.replicate 64 0).map bv) 70) := G1.out.keep h1
    have HB1 : Hid (Below w.heap.size w w1) := HBA.out.trans (h1.mono (by omega))
    have HC : Hid ((Tryd.prog.info? 24).map (·.size) = some (kk.map bv).toArray.size) := by show _ = _; rw [size24]; simp [HK32.out]
    have hs32 : ∀ W, (Instr.sliceAt 24 (.pointer (some ⟨w1.heap.size, 0, none⟩)) none none none).run Tryd.prog W = .ok (.slice (some ⟨w1.heap.size, 0, none⟩) 32 32) W := fun W => arr_all 24 32 Tryd.underlying24 w1.heap.size 0 (by decide) W
    clear h1
    have HW3 : Hid (∀ C, Bl ((w1.alloc (Obj.cells C 24)).setRow w1.heap.size (kk.map bv).toArray) w1.heap.size (kk.map bv) 24) := fun C => (Bl.new w1 C _).setRow _
    have HO3 : Hid (∀ C k cs t, Bl w1 k cs t → Bl ((w1.alloc (Obj.cells C 24)).setRow w1.heap.size (kk.map bv).toArray) k cs t) := fun C k cs t h => (h.alloc _).setRow_other (by have := h.lt; omega) _
    have HB3 : Hid (∀ C, Below w.heap.size w ((w1.alloc (Obj.cells C 24)).setRow w1.heap.size (kk.map bv).toArray)) := fun C => below_setRow (HB1.out.alloc (by omega) _) (by omega) _
    go_wp2_with (first
      | (refine wpList_store_row rfl 24 _ _ rfl w1.heap.size (kk.map bv).toArray rfl rfl 24 _ (Bl.new w1 _ _) HC.out (by simp [HK32.out]) (all_oneCell_toArray (bv_one _)) ?_)
      | (refine wpList_copy_at rfl (.tmp 11) (.tmp 12) rfl (w.heap.size + 1) 0 64 64 32 32 (some ⟨w.heap.size + 1, 0, none⟩) (some ⟨w1.heap.size, 0, none⟩) rfl rfl kk (by rw [HK32.out]; rfl) (fun _ => rfl) (HW3.out _).row (HTHR.out _ (HO3.out _ _ _ _ G11.out)) ?_)
      | (refine wpList_load_row rfl 70 _ rfl (w.heap.size + 1) rfl 70 (out.map bv).toArray (0, 0) _ (HFIN.out _ (HO3.out _ _ _ _ G11.out)) Tryd.underlying70 rfl HCO.out ?_)
      | (refine wpList_store_row rfl 70 _ _ rfl w.heap.size (out.map bv).toArray rfl rfl 70 ((List.replicate 64 0).map bv).toArray (HOTH.out _ (HO3.out _ _ _ _ G01.out)) HCO.out (by simp [HKL.out]) (all_oneCell_toArray (bv_one _)) ?_)
      | fail)
    refine bodyPost_ret (results_cell_row rfl _ _ w.heap.size 70 (out.map bv).toArray (0, 0) _ rfl (Bl.setRow (HOTH.out _ (HO3.out _ _ _ _ G01.out)) _) Tryd.underlying70 rfl HCO.out) rfl ⟨rfl, below_setRow ((HB3.out _).trans (below_setCells (by omega) _ _)) (Nat.le_refl _) _⟩
  · have HKN : Hid (kk = xs) := HK2.out hbig
    go_wp2_with (first
      | (refine wpList_copy_at rfl (.tmp 11) (.tmp 12) rfl (w.heap.size + 1) 0 64 64 n cap (some ⟨w.heap.size + 1, 0, none⟩) ao rfl rfl kk (by rw [HKN.out, ← HN.out]; exact (Nat.min_eq_left (by omega)).symm) (fun _ => rfl) (by rw [HKN.out]; exact HR.out.keep HBA.out) (HTHR.out _ G1.out) ?_)
      | (refine wpList_load_row rfl 70 _ rfl (w.heap.size + 1) rfl 70 (out.map bv).toArray (0, 0) _ (HFIN.out _ G1.out) Tryd.underlying70 rfl HCO.out ?_)
      | (refine wpList_store_row rfl 70 _ _ rfl w.heap.size (out.map bv).toArray rfl rfl 70 ((List.replicate 64 0).map bv).toArray (HOTH.out _ G0.out) HCO.out (by simp [HKL.out]) (all_oneCell_toArray (bv_one _)) ?_)
      | fail)
    refine bodyPost_ret (results_cell_row rfl _ _ w.heap.size 70 (out.map bv).toArray (0, 0) _ rfl (Bl.setRow (HOTH.out _ G0.out) _) Tryd.underlying70 rfl HCO.out) rfl ⟨rfl, below_setRow (HBA.out.trans (below_setCells (by omega) _ _)) (Nat.le_refl _) _⟩
theorem x8 (a b : Nat) (ha : a < 256) (hb : b < 256) : bits BinOp.xor IntKind.u8 (a : Int) (b : Int) = ((a ^^^ b : Nat) : Int) := u8_xor_nat a b ha hb
theorem xor8_lt {a b : Nat} (ha : a < 256) (hb : b < 256) : a ^^^ b < 256 := Nat.xor_lt_two_pow (n := 8) ha hb
def padOf (blk : List Nat) (pad : Nat) : List Nat := blk.map (· ^^^ pad)
theorem padOf_length (blk : List Nat) (pad : Nat) : (padOf blk pad).length = blk.length := by simp [padOf]
theorem padOf_lt {blk : List Nat} {pad : Nat} (h : ∀ x ∈ blk, x < 256) (hp : pad < 256) : ∀ x ∈ padOf blk pad, x < 256 := by
  intro x hx
  obtain ⟨y, hy, rfl⟩ := List.mem_map.1 hx
  exact xor8_lt (h y hy) hp
/-- The bytes so far turned, those behind them as they were. -/
def halfPad (blk : List Nat) (pad k : Nat) : List Nat := (padOf blk pad).take k ++ blk.drop k
theorem halfPad_length (blk : List Nat) (pad k : Nat) (hk : k ≤ blk.length) : (halfPad blk pad k).length = blk.length := by simp [halfPad, padOf]; omega
theorem halfPad_get (blk : List Nat) (pad k : Nat) (hk : k < blk.length) : (halfPad blk pad k).getD k 0 = blk.getD k 0 := by
  simp only [halfPad, List.getD]
  rw [List.getElem?_append_right (by simp [padOf]; omega), List.length_take, padOf_length, Nat.min_eq_left (by omega), Nat.sub_self, List.getElem?_drop]
  simp
theorem halfPad_set (blk : List Nat) (pad k : Nat) (hk : k < blk.length) : (halfPad blk pad k).set k (blk.getD k 0 ^^^ pad) = halfPad blk pad (k + 1) := by
  have hp : k < (padOf blk pad).length := by rw [padOf_length]; exact hk
  have e : ((padOf blk pad).take k).length = k := by rw [List.length_take]; omega
  simp only [halfPad]
  rw [List.set_append_right _ _ (by omega), e, Nat.sub_self, List.drop_eq_getElem_cons hk, List.set_cons_zero, List.take_succ_eq_append_getElem hp, List.append_assoc]
  simp [padOf, List.getD, hk]

set_option maxHeartbeats 1000000 in
set_option maxRecDepth 100000 in
theorem padded_any (blk : List Nat) (pad : Nat) (w : World) (hl : blk.length = 64) (hb : ∀ x ∈ blk, x < 256) (hp : pad < 256) (hT : Roots w 0) :
    Calls Tryd.prog 42 #[.agg (blk.map bv).toArray, .int .u8 (pad : Int)] w fun e w' => ∃ g, e = .returned (.pointer (some ⟨g, 0, none⟩)) ∧ Hid (w.heap.size ≤ g ∧ HState w' g first8 0 (padOf blk pad) ∧ Below w.heap.size w w') := by
  have HL : Hid (blk.length = 64) := hl
  have HX : Hid (∀ x ∈ blk, x < 256) := hb
  have HT : Hid (Roots w 0) := hT
  have h00 := hT.lt
  clear hl hb hT
  go_enter Tryd.func42, Tryd.ntmps42
  go_wp2
  go_loopw [7] (fun i wr => ∃ k : Nat, k ≤ 64 ∧ i = .int .i64 k ∧ Hid (Bl wr w.heap.size ((halfPad blk pad k).map bv) 70) ∧ Hid (Below w.heap.size w wr)) (fun i _ => 64 - (intOf i).toNat)
  case atStart => exact ⟨0, Nat.zero_le _, rfl, Bl.new w _ _, below_new w _⟩
  case round =>
    obtain ⟨k, hk, rfl, G0, HB⟩ := hrel
    by_cases hlt : k < 64
    · have c0 : wr.cell? ⟨w.heap.size, k, none⟩ = some (.int .u8 ((blk.getD k 0 : Nat) : Int)) := by
        rw [G0.out.u8 k (by rw [halfPad_length _ _ _ (by rw [HL.out]; exact hk), HL.out]; exact hlt), halfPad_get _ _ _ (by rw [HL.out]; exact hlt)]
      have f0 : wr.frozen? ⟨w.heap.size, k, none⟩ = false := G0.out.frozen _
      have HS : Hid ((halfPad blk pad k).set k (blk.getD k 0 ^^^ pad) = halfPad blk pad (k + 1)) := halfPad_set blk pad k (by rw [HL.out]; exact hlt)
      have hbk := lt_get HX.out k
      generalize blk.getD k 0 = x at *
      have hx8 := x8 x pad hbk hp
      have hxl := xor8_lt hbk hp
      generalize x ^^^ pad = y at *
      go_wp2
      go_roundw
      case rel =>
        refine ⟨k + 1, by omega, by go_num, ?_, HB.out.setCell (by simp) _⟩
        have := G0.out.set k (bv y)
        rw [← List.map_set, HS.out] at this
        exact this
      case measure => simp [intOf]; omega
    · have HF : Hid (halfPad blk pad k = padOf blk pad) := by
        show _ = _
        unfold halfPad
        rw [List.take_of_length_le (by rw [padOf_length, HL.out]; omega), List.drop_of_length_le (by rw [HL.out]; omega), List.append_nil]
      rw [HF.out] at G0
      have hs := HB.out.size
      have hgl := G0.out.lt
      have hsa : ∀ W, (Instr.sliceAt 70 (.pointer (some ⟨w.heap.size, 0, none⟩)) none none none).run Tryd.prog W = .ok (.slice (some ⟨w.heap.size, 0, none⟩) 64 64) W := fun W => arr_all 70 64 underArr64 w.heap.size 0 (by decide) W
      go_wp2_with fail
      refine (newState_any wr).mono ?_
      rintro e w1 ⟨g, rfl, h1⟩
      have hg : wr.heap.size ≤ g := h1.out.1
      have HS1 : Hid (HState w1 g first8 0 []) := h1.out.2.2.1
      have G1 : Hid (Bl w1 w.heap.size ((padOf blk pad).map bv) 70) := G0.out.keep h1.out.2.2.2
      have HB1 : Hid (Below w.heap.size w w1) := HB.out.trans (h1.out.2.2.2.mono hs)
      clear h1
      have HPL : Hid (64 = (padOf blk pad).length) := by show _ = _; rw [padOf_length, HL.out]
      go_wp2_with fail
      refine (writeState_any g 64 64 0 (some ⟨w.heap.size, 0, none⟩) (padOf blk pad) first8 [] w1 HS1.out (by rw [← HPL.out]; decide) (padOf_lt HX.out hp) G1.out.row (fun _ a ha => by cases ha; simp; omega) HPL.out (by decide) (HT.out.keep HB1.out) (by omega)).mono ?_
      rintro e w2 ⟨rfl, h2⟩
      have HB2 : Hid (Below w.heap.size w w2) := HB1.out.trans (h2.out.2.below (by omega) HB1.out.size)
      have HS2 : Hid (HState w2 g first8 0 ([] ++ padOf blk pad)) := h2.out.1
      clear h2
      go_wp2
      go_ret
      exact ⟨g, rfl, by omega, HS2.out, HB2.out⟩
end Go.Proofs.YtjdglpfjemoodaaDoor
