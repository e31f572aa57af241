/- The contracts of the reference's Total and Sum. -/
import Derived.Test.YtonnnolnkjahgaaDoorRefSum
import Derived.Test.YtonnnolnkjahgaaDoorSumTop
namespace Go.Proofs.YtonnnolnkjahgaaDoor
open Go.RowKit

theorem size40 : (Tryd.prog.info? 80).map (·.size) = some 10 := by kernel_rfl
/-- The reference's Hash, as a value. -/
def rhash (r : List Nat) (past : Nat) (v : Value) : List Value := r.map wv ++ [Value.int .u64 (past : Int), v]
theorem padZ_next (m k : Nat) (h : k ≤ padZ m) : ((m + 1 + k) % 64 = 56 ↔ k = padZ m) := by
  unfold padZ at *
  omega
theorem own_grown {w w' : World} {B g : Nat} {cs : List Value} {t : TypeId} (h : Bl w g cs t) {row : Option Nat} (hg : w.grownBy w' row) (hB : g < B) (hr : ∀ k, row = some k → B ≤ k) : Bl w' g cs t :=
  (hg.block g h.lt (fun e => by have := hr g e.symm; omega)).trans h

set_option maxHeartbeats 2000000 in
set_option maxRecDepth 100000 in
theorem refTotal_any (n cap past : Nat) (ao : Option Addr) (r xs : List Nat) (w : World) (hr : r.length = 8) (hn : n = xs.length) (hl : n ≤ 140737488354000) (hp : past + n < 18446744073709551616) (hx : ∀ x ∈ xs, x < 256) (hrow : Row w ao xs) (hT : Roots w 3) :
    Calls Tryd.prog 52 #[.agg (rhash r past (.slice ao n cap)).toArray] w fun e w' => e = .returned (.agg ((total r past xs).map bv).toArray) ∧ Below w.heap.size w w' := by
  have HR : Hid (r.length = 8) := hr
  have HN : Hid (n = xs.length) := hn
  have HX : Hid (∀ x ∈ xs, x < 256) := hx
  have HRW : Hid (Row w ao xs) := hrow
  have HT : Hid (Roots w 3) := hT
  have HTL : Hid ((total r past xs).length = 32) := total_length past xs hr
  have HTE : Hid (total r past xs = regBytes (absorb r (xs ++ [128] ++ List.replicate (padZ xs.length) 0 ++ eight ((8 * (past + n)) % 18446744073709551616)))) := by
    show _ = _
    unfold total padded
    rw [hn]
    simp
  have HAL : Hid (∀ p, (absorb r p).length = 8) := fun p => absorb_length p hr
  clear hr hn hx hrow hT
  generalize total r past xs = out at *
  have hz64 : padZ xs.length < 64 := by unfold padZ; omega
  obtain ⟨z, hz⟩ : ∃ z, z = padZ xs.length := ⟨_, rfl⟩
  rw [← hz] at HTE hz64
  have HZ : Hid (z = padZ xs.length) := hz
  clear hz
  obtain ⟨wa, hwa⟩ : ∃ x, x = (w.alloc (Obj.cells (rhash r past (.slice ao n cap)).toArray 80)).alloc (Obj.cells #[.int .u8 0, .int .u8 0, .int .u8 0, .int .u8 0, .int .u8 0, .int .u8 0, .int .u8 0, .int .u8 0, .int .u8 0, .int .u8 0, .int .u8 0, .int .u8 0, .int .u8 0, .int .u8 0, .int .u8 0, .int .u8 0, .int .u8 0, .int .u8 0, .int .u8 0, .int .u8 0, .int .u8 0, .int .u8 0, .int .u8 0, .int .u8 0, .int .u8 0, .int .u8 0, .int .u8 0, .int .u8 0, .int .u8 0, .int .u8 0, .int .u8 0, .int .u8 0] 64) := ⟨_, rfl⟩
  have G0 : Hid (Bl wa w.heap.size (rhash r past (.slice ao n cap)) 80) := by rw [hwa]; exact (Bl.new w _ _).alloc _
  have G1 : Hid (Bl wa (w.heap.size + 1) ((List.replicate 32 0).map bv) 64) := by
    rw [hwa]
    have := Bl.new (w.alloc (Obj.cells (rhash r past (.slice ao n cap)).toArray 80)) ((List.replicate 32 0).map bv).toArray 64
    rw [World.size_alloc] at this
    exact this
  have HBA : Hid (Below w.heap.size w wa) := by rw [hwa]; exact ((Below.refl _ _).alloc (Nat.le_refl _) _).alloc (by simp) _
  have hsa : w.heap.size + 2 ≤ wa.heap.size := G1.out.lt
  have c8 : wa.cell? ⟨w.heap.size, 8, none⟩ = some (.int .u64 (past : Int)) := by
    rw [G0.out.cell]; unfold rhash; rw [List.getElem?_append_right (by simp [HR.out])]; simp [HR.out]
  have c9 : wa.cell? ⟨w.heap.size, 9, none⟩ = some (.slice ao n cap) := by
    rw [G0.out.cell]; unfold rhash; rw [List.getElem?_append_right (by simp [HR.out])]; simp [HR.out]
  have ca9 : ∀ o, (wa.alloc o).cell? ⟨w.heap.size, 9, none⟩ = some (.slice ao n cap) := fun o => cell_kept c9 (below_new wa o)
  go_enter Tryd.func52, Tryd.ntmps52
  go_upto_region 1 with fail
  rw [← hwa]
  clear hwa
  go_wp2_with (first | (at_builtin; refine wpList_append_bytes rfl _ _ rfl (w.heap.size + 2) _ [] rfl (own_new wa (w.heap.size + 2) [] hsa (Nat.zero_le _)) ao _ cap xs HN.out rfl ((HRW.out.keep HBA.out).keep (below_new wa _)) (by simp; rw [← HN.out]; omega) (by simp; omega) ?_) | fail)
  rintro v1 w1 hown1 hgr1
  have HB1 : Hid (Below (w.heap.size + 2) wa w1) := ((Below.refl _ _).alloc hsa _).grown hgr1 (by simp; omega) (fun k hk => by simp [Value.ownBlock] at hk; omega)
  have HO1 : Hid (Own w1 (w.heap.size + 2) v1 xs) := hown1
  have hs1 := HB1.out.size
  clear hown1 hgr1 c8 c9 ca9
  go_wp2_with (first | (at_builtin; refine wpList_append_bytes rfl _ _ rfl (w.heap.size + 2) _ xs rfl (HO1.out.alloc _) (some ⟨w1.heap.size, 0, none⟩) 1 1 [128] rfl rfl (row_one _ 128) (by simp; rw [← HN.out]; omega) (by simp; omega) ?_) | fail)
  rintro v2 w2 hown2 hgr2
  have HB2 : Hid (Below (w.heap.size + 2) wa w2) := (HB1.out.alloc (by omega) _).grown hgr2 (by simp; omega) HO1.out.ge
  have HO2 : Hid (Own w2 (w.heap.size + 2) v2 (xs ++ [128] ++ List.replicate 0 0)) := by rw [List.replicate_zero, List.append_nil]; exact hown2
  clear hown2 hgr2
  go_wp2
  go_loopw [4] (fun v wr => ∃ k : Nat, k ≤ z ∧ Hid (Own wr (w.heap.size + 2) v (xs ++ [128] ++ List.replicate k 0)) ∧ Hid (Below (w.heap.size + 2) wa wr)) (fun v _ => n + 1 + z - slLen v)
  case atStart => exact ⟨0, Nat.zero_le _, HO2, HB2⟩
  case round =>
    clear HO1 HB1 HO2 HB2
    obtain ⟨k, hk, HO, HB⟩ := hrel
    have HLn : Hid ((xs ++ [128] ++ List.replicate k 0).length = n + 1 + k) := by show _ = _; simp [← HN.out]; omega
    obtain ⟨a4, cp4, rfl, hcp4, HR4⟩ := HO.out.read
    rw [HLn.out] at HO hcp4 ⊢
    replace HR4 := hide HR4
    have hs := HB.out.size
    have hpz := padZ_next xs.length k (by rw [← HZ.out]; exact hk)
    rw [← HZ.out, ← HN.out] at hpz
    by_cases hlt : k < z
    · have hne : (((n + 1 + k : Nat) : Int) % 64 != 56) = true := by
        rw [bne_iff_ne]; intro h; have := hpz.1 (by omega); omega
      clear hpz
      have hne2 : (((n : Int) + 1 + (k : Int)) % 64 != 56) = true := by rw [← hne]; simp
      go_wp2_with (first | (at_builtin; refine wpList_append_bytes rfl _ _ rfl (w.heap.size + 2) _ (xs ++ [128] ++ List.replicate k 0) rfl (HO.out.alloc _) (some ⟨wr.heap.size, 0, none⟩) 1 1 [0] rfl rfl (row_one _ 0) (by rw [HLn.out]; simp; omega) (by simp; omega) ?_) | fail)
      rintro v5 w5 hown5 hgr5
      have HB5 : Hid (Below (w.heap.size + 2) wa w5) := (HB.out.alloc (by omega) _).grown hgr5 (by simp; omega) HO.out.ge
      have HO5 : Hid (Own w5 (w.heap.size + 2) v5 (xs ++ [128] ++ List.replicate (k + 1) 0)) := by rw [List.replicate_succ', show xs ++ [128] ++ (List.replicate k 0 ++ [0]) = xs ++ 128 :: (List.replicate k 0 ++ [0]) by simp]; exact hown5
      clear hown5 hgr5
      obtain ⟨a5, cp5, he5, hcp5, _⟩ := HO5.out.read
      have HL5 : Hid ((xs ++ [128] ++ List.replicate (k + 1) 0).length = n + 1 + (k + 1)) := by show _ = _; simp [← HN.out]; omega
      rw [HL5.out] at he5
      subst he5
      go_wp2
      go_roundw
      case rel => exact ⟨k + 1, by omega, HO5, HB5⟩
      case measure => simp [slLen]; omega
    · have hkz : Hid (k = z) := by show _ = _; omega
      have hne : (((n + 1 + k : Nat) : Int) % 64 != 56) = false := by
        rw [bne_eq_false_iff_eq]; have := hpz.2 hkz.out; omega
      clear hpz
      have hne2 : (((n : Int) + 1 + (k : Int)) % 64 != 56) = false := by rw [← hne]; simp
      have hm9 : IntKind.u64.wrap (8 * ((past : Int) + (n : Int))) = ((8 * (past + n) % 18446744073709551616 : Nat) : Int) := by rw [IntKind.wrap_u64]; omega
      have hm8 : (8 * ((past : Int) + (n : Int))) % 18446744073709551616 = ((8 * (past + n) % 18446744073709551616 : Nat) : Int) := by omega
      generalize 8 * (past + n) % 18446744073709551616 = N8 at *
      go_wp2_with fail
      refine (refEight_any N8 wr).mono ?_
      rintro e w6 ⟨v6, rfl, h6⟩
      obtain ⟨a6, cp6, rfl, hcp6, hr6⟩ := h6.out.1.read
      rw [eight_length] at hcp6 ⊢
      have HR6 : Hid (Row w6 a6 (eight N8)) := hr6
      have HB6 : Hid (Below (w.heap.size + 2) wa w6) := HB.out.trans (h6.out.2.mono (by omega))
      have HO6 : Hid (Own w6 (w.heap.size + 2) (.slice a4 (n + 1 + k) cp4) (xs ++ [128] ++ List.replicate k 0)) := HO.out.keep h6.out.2
      have hs6 := HB6.out.size
      clear h6 hr6 HO HB HR4
      go_wp2_with (first | (at_builtin; refine wpList_append_bytes rfl _ _ rfl (w.heap.size + 2) _ (xs ++ [128] ++ List.replicate k 0) rfl HO6.out a6 8 cp6 (eight N8) (eight_length _).symm rfl HR6.out (by rw [HLn.out, eight_length]; omega) (by omega) ?_) | fail)
      rintro v7 w7 hown7 hgr7
      have HB7 : Hid (Below (w.heap.size + 2) wa w7) := HB6.out.grown hgr7 (by omega) HO6.out.ge
      rw [hkz.out, show xs ++ 128 :: (List.replicate z 0 ++ eight N8) = xs ++ [128] ++ List.replicate z 0 ++ eight N8 by simp] at hown7
      obtain ⟨P, hP⟩ : ∃ P, P = xs ++ [128] ++ List.replicate z 0 ++ eight N8 := ⟨_, rfl⟩
      have HPL : Hid (P.length = n + 1 + z + 8) := by show _ = _; rw [hP]; simp [← HN.out, eight_length]; omega
      have HPX : Hid (∀ x ∈ P, x < 256) := by
        rw [hP]
        refine lt_append (lt_append (lt_append HX.out (by simp)) (fun x hx => by rw [List.eq_of_mem_replicate hx]; decide)) (eight_lt _)
      rw [← hP] at hown7 HTE
      clear hP
      obtain ⟨a7, cp7, rfl, hcp7, hr7⟩ := hown7.read
      rw [HPL.out] at hcp7 ⊢
      have HR7 : Hid (Row w7 a7 P) := hr7
      have hs7 := HB7.out.size
      have HG7 : Hid (w7.rangeAt w.heap.size 0 (r.map wv)) := Bl.range (pre := []) (G0.out.below HB7.out (by omega))
      have HC7 : Hid ((Tryd.prog.info? 76).map (·.size) = some (r.map wv).length) := by show _ = _; rw [size37]; simp [HR.out]
      clear hown7 hgr7 hr7 HO6 HR6
      go_wp2_with (first | (refine wpList_load_mid rfl 76 _ rfl w.heap.size 0 rfl (r.map wv) _ HG7.out Tryd.underlying76 rfl HC7.out ?_) | fail)
      refine (refBlocks_any (n + 1 + z + 8) cp7 a7 r P w7 HR.out HPL.out.symm (by omega) HPX.out HR7.out ((HT.out.keep HBA.out).below HB7.out (by have := HT.out.lt; omega))).mono ?_
      rintro e w8 ⟨rfl, h8⟩
      have HA8 := hide (HAL.out P)
      have HB8 : Hid (Below (w.heap.size + 2) wa w8) := HB7.out.trans (h8.mono (by omega))
      have hs8 := HB8.out.size
      clear h8 HG7 HR7
      generalize absorb r P = R at *
      go_wp2_with fail
      refine (refWords_any R w8 HA8.out).mono ?_
      rintro e w9 ⟨v9, rfl, h9⟩
      have HO9 := h9.out.1
      rw [← HTE.out] at HO9
      obtain ⟨a9, cp9, rfl, hcp9, hr9⟩ := HO9.read
      rw [HTL.out] at hcp9 ⊢
      have HR9 : Hid (Row w9 a9 out) := hr9
      have HB9 : Hid (Below (w.heap.size + 2) wa w9) := HB8.out.trans (h9.out.2.mono (by omega))
      have hs9 := HB9.out.size
      have G19 : Hid (Bl w9 (w.heap.size + 1) ((List.replicate 32 0).map bv) 64) := G1.out.below HB9.out (by omega)
      have HW9 : Hid (Below w.heap.size w w9) := HBA.out.trans (HB9.out.mono (by omega))
      obtain ⟨b9, off9, rfl⟩ := HR9.out.form (by rw [HTL.out]; decide)
      clear h9 HO9 hr9 HB9 HB8 HB7 HB6
      have hnw := HR9.out.lt (by intro h; have := HTL.out; rw [h] at this; simp at this)
      go_wp2
      go_loopw [7] (fun i wr => ∃ j : Nat, j ≤ 32 ∧ i = .int .i64 j ∧ Hid (Bl wr w9.heap.size ((out.take j ++ List.replicate (32 - j) 0).map bv) 64) ∧ Hid (Bl wr (w.heap.size + 1) ((List.replicate 32 0).map bv) 64) ∧ Hid (Below w9.heap.size w9 wr)) (fun i _ => 32 - (intOf i).toNat)
      case atStart => exact ⟨0, Nat.zero_le _, rfl, Bl.new w9 _ _, G19.out.alloc _, below_new w9 _⟩
      case round =>
        obtain ⟨j, hj, rfl, GS, GR, HBj⟩ := hrel
        by_cases hlj : j < 32
        · have cj : wr.cell? ⟨b9, off9 + j, none⟩ = some (.int .u8 ((out.getD j 0 : Nat) : Int)) := (HR9.out.keep HBj.out).cell j (by rw [HTL.out]; exact hlj)
          have csj : wr.cell? ⟨w9.heap.size, j, none⟩ = some (.int .u8 (((out.take j ++ List.replicate (32 - j) 0).getD j 0 : Nat) : Int)) := GS.out.u8 j (by rw [takeFill_length out j 32 HTL.out hj]; exact hlj)
          have fsj : wr.frozen? ⟨w9.heap.size, j, none⟩ = false := GS.out.frozen _
          have HSET : Hid ((out.take j ++ List.replicate (32 - j) 0).set j (out.getD j 0) = out.take (j + 1) ++ List.replicate (32 - (j + 1)) 0) := takeFill_set out j 32 HTL.out hlj
          generalize out.getD j 0 = x at *
          generalize (out.take j ++ List.replicate (32 - j) 0).getD j 0 = old at *
          go_wp2
          go_roundw
          case rel =>
            refine ⟨j + 1, by omega, by go_num, ?_, GR.out.other (by omega) _ _, HBj.out.setCell (by simp) _⟩
            have := GS.out.set j (bv x)
            rw [← List.map_set, HSET.out] at this
            exact this
          case measure => simp [intOf]; omega
        · have HOO : Hid (out.take j ++ List.replicate (32 - j) 0 = out) := by
            show _ = _
            rw [List.take_of_length_le (by rw [HTL.out]; omega), show 32 - j = 0 by omega]; simp
          rw [HOO.out] at GS
          have HC : Hid ((Tryd.prog.info? 64).map (·.size) = some (out.map bv).toArray.size) := by show _ = _; rw [size24]; simp [HTL.out]
          go_wp2_with (first
            | (refine wpList_load_row rfl 64 _ rfl w9.heap.size rfl 64 (out.map bv).toArray (0, 0) _ GS.out Tryd.underlying64 rfl HC.out ?_)
            | (refine wpList_store_row rfl 64 _ _ rfl (w.heap.size + 1) (out.map bv).toArray rfl rfl 64 ((List.replicate 32 0).map bv).toArray GR.out HC.out (by simp [HTL.out]) (all_oneCell_toArray (bv_one _)) ?_)
            | fail)
          refine bodyPost_ret (results_cell_row rfl _ _ (w.heap.size + 1) 64 (out.map bv).toArray (0, 0) _ rfl (GR.out.setRow _) Tryd.underlying64 rfl HC.out) rfl ⟨rfl, below_setRow (HW9.out.trans (HBj.out.mono (by omega))) (by omega) _⟩

set_option maxHeartbeats 1000000 in
set_option maxRecDepth 100000 in
theorem refSum_any (n cap : Nat) (ao : Option Addr) (xs : List Nat) (w : World) (hn : n = xs.length) (hl : n ≤ 140737488354000) (hx : ∀ x ∈ xs, x < 256) (hrow : Row w ao xs) (hT : Roots w 3) :
    Calls Tryd.prog 42 #[.slice ao n cap] w fun e w' => e = .returned (.agg ((sha xs).map bv).toArray) ∧ Below w.heap.size w w' := by
  have HN : Hid (n = xs.length) := hn
  have HX : Hid (∀ x ∈ xs, x < 256) := hx
  have HRW : Hid (Row w ao xs) := hrow
  have HT : Hid (Roots w 3) := hT
  have HSL : Hid ((sha xs).length = 32) := sha_length xs
  have HSE : Hid (total first8 0 xs = sha xs) := rfl
  clear hn hx hrow hT
  generalize sha xs = out at *
  go_enter Tryd.func42, Tryd.ntmps42
  go_wp2_with fail
  refine (begin_any _).mono ?_
  rintro e w1 ⟨rfl, h1⟩
  have HZ1 : Hid (Bl w1 w.heap.size ((List.replicate 32 0).map bv) 64) := (Bl.new w _ _).keep h1
  have HB1 : Hid (Below w.heap.size w w1) := (below_new w _).trans (h1.mono (by simp))
  have hs1 := HB1.out.size
  clear h1
  go_wp2_with (first | (refine wpList_build_eq rfl 80 _ rfl (rhash first8 0 (.slice ao n cap)).toArray (by kernel_rfl) ?_) | fail)
  refine (refTotal_any n cap 0 ao first8 xs w1 rfl HN.out hl (by omega) HX.out (HRW.out.keep HB1.out) (HT.out.keep HB1.out)).mono ?_
  rintro e w2 ⟨rfl, h2⟩
  rw [HSE.out]
  have HZ2 : Hid (Bl w2 w.heap.size ((List.replicate 32 0).map bv) 64) := HZ1.out.keep h2
  have HB2 : Hid (Below w.heap.size w w2) := HB1.out.trans (h2.mono hs1)
  have HC : Hid ((Tryd.prog.info? 64).map (·.size) = some (out.map bv).toArray.size) := by show _ = _; rw [size24]; simp [HSL.out]
  clear h2
  go_wp2_with (first | (refine wpList_store_row rfl 64 _ _ rfl w.heap.size (out.map bv).toArray rfl rfl 64 ((List.replicate 32 0).map bv).toArray HZ2.out HC.out (by simp [HSL.out]) (all_oneCell_toArray (bv_one _)) ?_) | fail)
  refine bodyPost_ret (results_cell_row rfl _ _ w.heap.size 64 (out.map bv).toArray (0, 0) _ rfl (HZ2.out.setRow _) Tryd.underlying64 rfl HC.out) rfl ⟨rfl, below_setRow HB2.out (Nat.le_refl _) _⟩
end Go.Proofs.YtonnnolnkjahgaaDoor
