/- The contracts of the reference's Begin, eight, words and blocks. -/
import Derived.Test.YtonnnolnkjahgaaDoorRefTurn
import Derived.Test.YtonnnolnkjahgaaDoorHexFn
import Derived.Test.YtonnnolnkjahgaaDoorHashFn
namespace Go.Proofs.YtonnnolnkjahgaaDoor
open Go.RowKit

set_option maxRecDepth 100000 in
theorem begin_any (w : World) : Calls Tryd.prog 53 #[] w fun e w' => e = .returned (.agg (first8.map wv).toArray) ∧ Below w.heap.size w w' := by
  go_enter Tryd.func53, Tryd.ntmps53
  go_wp2
  go_returns
  exact ⟨rfl, by go_grown⟩
theorem take_next {l : List Nat} {k : Nat} (h : k < l.length) : l.take (k + 1) = l.take k ++ [l.getD k 0] := take_getD h
set_option maxHeartbeats 400000 in
set_option maxRecDepth 100000 in
theorem refEight_any (N : Nat) (w : World) : Calls Tryd.prog 63 #[.int .u64 (N : Int)] w fun e w' => ∃ v, e = .returned v ∧ Hid (Own w' w.heap.size v (eight N) ∧ Below w.heap.size w w') := by
  go_enter Tryd.func63, Tryd.ntmps63
  go_wp2
  go_loopw [3, 4] (fun v i wr => ∃ k : Nat, k ≤ 8 ∧ i = .int .i64 k ∧ Hid (Own wr w.heap.size v ((eight N).take k)) ∧ Hid (Below w.heap.size w wr)) (fun _ i _ => 8 - (intOf i).toNat)
  case atStart => exact ⟨0, Nat.zero_le _, rfl, own_nil _ _, Below.refl _ _⟩
  case round =>
    obtain ⟨k, hk, rfl, HO, HB⟩ := hrel
    by_cases hlt : k < 8
    · have HE : Hid ((eight N).take (k + 1) = (eight N).take k ++ [(eight N).getD k 0]) := take_getD (by rw [eight_length]; exact hlt)
      have hI : ((N : Int) / 2 ^ (56 - 8 * k) % 256) = (((eight N).getD k 0 : Nat) : Int) := by rw [eight_get N k hlt]; simp
      have hb := getD_lt_of (eight_lt N) (by decide) k
      have HLn : Hid (((eight N).take k).length ≤ 8) := by show _ ≤ _; simp [eight_length]; omega
      have hs := HB.out.size
      generalize (eight N).getD k 0 = x at *
      go_wp2_with (first | (at_builtin; refine wpList_append_bytes rfl _ _ rfl w.heap.size _ ((eight N).take k) rfl (HO.out.alloc _) (some ⟨wr.heap.size, 0, none⟩) 1 1 [x] rfl rfl (row_one _ _) (by have := HLn.out; simp only [List.length_singleton]; omega) (by simp; omega) ?_) | fail)
      rintro v1 w1 hown1 hgr1
      have HB1 : Hid (Below w.heap.size w w1) := (HB.out.alloc hs _).grown hgr1 (by simp; omega) HO.out.ge
      have HO1 : Hid (Own w1 w.heap.size v1 ((eight N).take (k + 1))) := by rw [HE.out]; exact hown1
      clear hown1 hgr1
      go_wp2
      go_roundw
      case rel => exact ⟨k + 1, by omega, by go_num, HO1, HB1⟩
      case measure => simp [intOf]; omega
    · have HE : Hid ((eight N).take k = eight N) := by show _ = _; rw [List.take_of_length_le (by rw [eight_length]; omega)]
      go_wp2
      go_ret
      exact ⟨_, rfl, by rw [← HE.out]; exact HO.out, HB.out⟩

set_option maxHeartbeats 800000 in
set_option maxRecDepth 100000 in
theorem refWords_any (r : List Nat) (w : World) (hr : r.length = 8) : Calls Tryd.prog 64 #[.agg (r.map wv).toArray] w fun e w' => ∃ v, e = .returned v ∧ Hid (Own w' w.heap.size v (regBytes r) ∧ Below w.heap.size w w') := by
  have HR : Hid (r.length = 8) := hr
  have HRB : Hid ((regBytes r).length = 32) := by show _ = _; rw [regBytes_length, hr]
  clear hr
  go_enter Tryd.func64, Tryd.ntmps64
  go_wp2
  obtain ⟨wb, hwb⟩ : ∃ x, x = w.alloc (Obj.cells (r.map wv).toArray 76) := ⟨_, rfl⟩
  rw [← hwb]
  have HG : Hid (Bl wb w.heap.size (r.map wv) 76) := by rw [hwb]; exact Bl.new w _ _
  have HBW : Hid (Below w.heap.size w wb) := by rw [hwb]; exact below_new w _
  have hsb : w.heap.size + 1 ≤ wb.heap.size := HG.out.lt
  clear hwb
  go_loopw [3, 4] (fun v i wr => ∃ k : Nat, k ≤ 8 ∧ i = .int .i64 k ∧ Hid (Own wr (w.heap.size + 1) v ((regBytes r).take (4 * k))) ∧ Hid (Below (w.heap.size + 1) wb wr)) (fun _ i _ => 8 - (intOf i).toNat)
  case atStart => exact ⟨0, Nat.zero_le _, rfl, own_nil _ _, Below.refl _ _⟩
  case round =>
    obtain ⟨k, hk, rfl, HO, HB⟩ := hrel
    by_cases hlt : k < 8
    · have hki : decide ((k : Int) < 8) = true := by simp; omega
      go_wp2
      go_loopw [3, 5] (fun v i wr => ∃ j : Nat, j ≤ 4 ∧ i = .int .i64 j ∧ Hid (Own wr (w.heap.size + 1) v ((regBytes r).take (4 * k + j))) ∧ Hid (Below (w.heap.size + 1) wb wr)) (fun _ i _ => 4 - (intOf i).toNat)
      case atStart => exact ⟨0, Nat.zero_le _, rfl, HO, HB⟩
      case round =>
        clear HO HB
        obtain ⟨j, hj, rfl, HO, HB⟩ := hrel
        by_cases hlj : j < 4
        · have c0 : wr.cell? ⟨w.heap.size, k, none⟩ = some (.int .u32 ((r.getD k 0 : Nat) : Int)) := (HG.out.below HB.out (by omega)).u32 k (by rw [HR.out]; exact hlt)
          have HE : Hid ((regBytes r).take (4 * k + (j + 1)) = (regBytes r).take (4 * k + j) ++ [(regBytes r).getD (4 * k + j) 0]) := take_getD (k := 4 * k + j) (by rw [HRB.out]; omega)
          have hI : (((r.getD k 0 : Nat) : Int) / 2 ^ (24 - 8 * j) % 256) = (((regBytes r).getD (4 * k + j) 0 : Nat) : Int) := by
            rw [regBytes_get r (4 * k + j) (by rw [HR.out]; omega), show (4 * k + j) / 4 = k by omega, show (4 * k + j) % 4 = j by omega]; simp
          have hb := getD_lt_of (regBytes_lt r) (by decide) (4 * k + j)
          have HLn : Hid (((regBytes r).take (4 * k + j)).length ≤ 32) := by show _ ≤ _; rw [List.length_take, HRB.out]; omega
          have hs := HB.out.size
          generalize r.getD k 0 = rk at *
          generalize (regBytes r).getD (4 * k + j) 0 = x at *
          go_wp2_with (first | (at_builtin; refine wpList_append_bytes rfl _ _ rfl (w.heap.size + 1) _ ((regBytes r).take (4 * k + j)) rfl (HO.out.alloc _) (some ⟨wr.heap.size, 0, none⟩) 1 1 [x] rfl rfl (row_one _ _) (by have := HLn.out; simp only [List.length_singleton]; omega) (by simp; omega) ?_) | fail)
          rintro v1 w1 hown1 hgr1
          have HB1 : Hid (Below (w.heap.size + 1) wb w1) := (HB.out.alloc (by omega) _).grown hgr1 (by simp; omega) HO.out.ge
          have HO1 : Hid (Own w1 (w.heap.size + 1) v1 ((regBytes r).take (4 * k + (j + 1)))) := by rw [HE.out]; exact hown1
          clear hown1 hgr1
          go_wp2
          go_roundw
          case rel => exact ⟨j + 1, by omega, by go_num, HO1, HB1⟩
          case measure => simp [intOf]; omega
        · have HJ : Hid (4 * k + j = 4 * (k + 1)) := by show _ = _; omega
          go_wp2
          go_roundw
          case rel => exact ⟨k + 1, by omega, by go_num, by rw [← HJ.out]; exact HO, HB⟩
          case measure => simp [intOf]; omega
    · have HE : Hid ((regBytes r).take (4 * k) = regBytes r) := by show _ = _; rw [List.take_of_length_le (by rw [HRB.out]; omega)]
      go_wp2
      go_ret
      exact ⟨_, rfl, by rw [← HE.out]; exact HO.out.lower (by omega), HBW.out.trans (HB.out.mono (by omega))⟩

set_option maxHeartbeats 800000 in
set_option maxRecDepth 100000 in
theorem refBlocks_any (n cap : Nat) (ao : Option Addr) (r xs : List Nat) (w : World) (hr : r.length = 8) (hn : n = xs.length) (hl : n ≤ 281474976710656) (hx : ∀ x ∈ xs, x < 256) (hrow : Row w ao xs) (hT : Roots w 3) :
    Calls Tryd.prog 65 #[.agg (r.map wv).toArray, .slice ao n cap] w fun e w' => e = .returned (.agg ((absorb r xs).map wv).toArray) ∧ Below w.heap.size w w' := by
  have HR : Hid (r.length = 8) := hr
  have HN : Hid (n = xs.length) := hn
  have HX : Hid (∀ x ∈ xs, x < 256) := hx
  have HRW : Hid (Row w ao xs) := hrow
  have HT : Hid (Roots w 3) := hT
  clear hr hn hx hrow hT
  have HLen : Hid (∀ k, (absF k r xs).length = 8) := fun k => absF_length k r xs HR.out
  have HAB : Hid (absF (xs.length / 64) r xs = absorb r xs) := rfl
  generalize absorb r xs = out at *
  have HC : Hid (∀ k, (Tryd.prog.info? 76).map (·.size) = some ((absF k r xs).map wv).toArray.size) := fun k => by rw [size37]; simp [HLen.out k]
  go_enter Tryd.func65, Tryd.ntmps65
  go_wp2
  go_loopw [5] (fun i wr => ∃ k : Nat, 64 * k ≤ n ∧ i = .int .i64 ((64 * k : Nat) : Int) ∧ Hid (Bl wr w.heap.size ((absF k r xs).map wv) 76) ∧ Hid (Bl wr (w.heap.size + 1) ((List.replicate 8 0).map wv) 76) ∧ Hid (Below w.heap.size w wr)) (fun i _ => n - (intOf i).toNat)
  case atStart =>
    refine ⟨0, Nat.zero_le _, rfl, (Bl.new w _ _).alloc _, ?_, ?_⟩
    · have := Bl.new (w.alloc (Obj.cells (r.map wv).toArray 76)) ((List.replicate 8 0).map wv).toArray 76
      rw [World.size_alloc] at this
      exact this
    · show Below _ _ _; go_grown
  case round =>
    obtain ⟨k, hk, rfl, G0, G1, HB⟩ := hrel
    by_cases hlt : 64 * k + 64 ≤ n
    · obtain ⟨b, off, rfl⟩ := HRW.out.form (by rw [← HN.out]; omega)
      have HBK : Hid (((xs.drop (64 * k)).take 64).length = 64) := by show _ = _; rw [List.length_take, List.length_drop, ← HN.out]; omega
      have HRK : Hid (Row wr (some ⟨b, off + 64 * k, none⟩) ((xs.drop (64 * k)).take 64)) := ((HRW.out.keep HB.out).dropN (64 * k)).takeN 64
      have HS : Hid (absF (k + 1) r xs = compress (absF k r xs) ((xs.drop (64 * k)).take 64)) := absF_snoc k r xs
      have hs := HB.out.size
      have hg1 := G1.out.lt
      go_wp2_with (first
        | (refine wpList_load_row rfl 76 _ rfl w.heap.size rfl 76 ((absF k r xs).map wv).toArray (0, 0) _ G0.out Tryd.underlying76 rfl (HC.out k) ?_)
        | fail)
      refine (refTurn_any (absF k r xs) ((xs.drop (64 * k)).take 64) b off n cap (64 * k) wr (HLen.out k) HBK.out (lt_take (lt_drop HX.out _) _) HRK.out (by omega) hl (HT.out.keep HB.out)).mono ?_
      rintro e w1 ⟨rfl, h1⟩
      rw [← HS.out]
      have G0' : Hid (Bl w1 w.heap.size ((absF k r xs).map wv) 76) := G0.out.keep h1
      have G1' : Hid (Bl w1 (w.heap.size + 1) ((List.replicate 8 0).map wv) 76) := G1.out.keep h1
      have HB' : Hid (Below w.heap.size w w1) := HB.out.trans (h1.mono hs)
      clear h1 G0 G1 HB
      go_wp2_with (first
        | (refine wpList_store_row rfl 76 _ _ rfl w.heap.size ((absF (k + 1) r xs).map wv).toArray rfl rfl 76 ((absF k r xs).map wv).toArray G0'.out (HC.out (k + 1)) (by simp [HLen.out]) (all_oneCell_toArray (wv_one _)) ?_)
        | fail)
      go_roundw
      case rel => exact ⟨k + 1, by omega, by go_num, G0'.out.setRow _, G1'.out.setRow_other (by omega) _, below_setRow HB'.out (Nat.le_refl _) _⟩
      case measure => simp [intOf]; omega
    · have HK : Hid (absF k r xs = out) := by show _ = _; rw [← HAB.out, ← HN.out, show n / 64 = k by omega]
      have HC' : Hid ((Tryd.prog.info? 76).map (·.size) = some (out.map wv).toArray.size) := by rw [← HK.out]; exact HC.out k
      rw [HK.out] at G0
      go_wp2_with (first
        | (refine wpList_load_row rfl 76 _ rfl w.heap.size rfl 76 (out.map wv).toArray (0, 0) _ G0.out Tryd.underlying76 rfl HC'.out ?_)
        | (refine wpList_store_row rfl 76 _ _ rfl (w.heap.size + 1) (out.map wv).toArray rfl rfl 76 ((List.replicate 8 0).map wv).toArray G1.out HC'.out (by have := HC'.out; rw [size37] at this; exact Option.some.inj this) (all_oneCell_toArray (wv_one _)) ?_)
        | fail)
      refine bodyPost_ret (results_cell_row rfl _ _ (w.heap.size + 1) 76 (out.map wv).toArray (0, 0) _ rfl (G1.out.setRow _) Tryd.underlying76 rfl HC'.out) rfl ⟨rfl, below_setRow HB.out (by omega) _⟩
end Go.Proofs.YtonnnolnkjahgaaDoor
