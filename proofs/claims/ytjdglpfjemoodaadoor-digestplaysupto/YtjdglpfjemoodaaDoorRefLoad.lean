/- The contract of the reference's Load: for every row of bytes. -/
import Derived.Test.YtjdglpfjemoodaaDoorLoadMath
import Derived.Test.YtjdglpfjemoodaaDoorRefSave
namespace Go.Proofs.YtjdglpfjemoodaaDoor
open Go.RowKit

theorem results_cell_tmp {fn : Func} {p q : Tmp} {ty : TypeId} (h : fn.results = #[.cell p ty, .tmp q]) (tmps : Array Value) (w : World) (g : Nat) (t : TypeId) (cs : Array Value) (fr : Nat × Nat) (fs : Array Field)
    (hp : tmps.getD p undef = .pointer (some ⟨g, 0, none⟩)) (hg : w.heap[g]? = some (.cells cs t fr))
    (hu : Tryd.prog.underlying ty = some (.struct fs)) (hi : (Tryd.prog.info? ty).map (·.size) = some cs.size) :
    (results fn tmps).run Tryd.prog w = .ok (.tuple #[.agg cs, tmps.getD q undef]) w := by
  have hp' : tmps[p]?.getD undef = .pointer (some ⟨g, 0, none⟩) := by simpa using hp
  simp [results, h, hp', asAddr, run_loadVar_row w g t ty cs fr _ hg hu rfl hi]
set_option linter.unusedSimpArgs false in
set_option maxHeartbeats 4000000 in
set_option maxRecDepth 100000 in
theorem refLoad_any (n cap : Nat) (ao : Option Addr) (xs : List Nat) (w : World) (hn : n = xs.length) (hnc : n ≤ cap) (hx : ∀ x ∈ xs, x < 256) (hr : Row w ao xs) :
    Calls Tryd.prog 49 #[.slice ao n cap] w fun e w' => ∃ r past v, e = .returned (.tuple #[.agg (rhash r past v).toArray, .int .i64 ((loadErr xs : Nat) : Int)]) ∧
      Hid ((r.length = 8 ∧ v.oneCell' = true) ∧ (loadErr xs = 0 → r = regOf xs ∧ past = num8 (xs.drop 96) - num8 (xs.drop 96) % 64 ∧ ∃ ao' c', v = .slice ao' (num8 (xs.drop 96) % 64) c' ∧ num8 (xs.drop 96) % 64 ≤ c' ∧ Row w' ao' ((xs.drop 32).take (num8 (xs.drop 96) % 64)) ∧ ∀ a, ao' = some a → w.heap.size ≤ a.block) ∧ Below w.heap.size w w') := by
  have HN : Hid (n = xs.length) := hn
  have HX : Hid (∀ x ∈ xs, x < 256) := hx
  have HR : Hid (Row w ao xs) := hr
  have hz := zeroRrun
  have HCZ : Hid ((Tryd.prog.info? 40).map (·.size) = some (rhash (List.replicate 8 0) 0 (.slice none 0 0)).toArray.size) := rhash_size _ _ _ rfl
  have HZ0 : Hid (Bl (w.alloc (Obj.cells (rhash (List.replicate 8 0) 0 (.slice none 0 0)).toArray 40)) w.heap.size (rhash (List.replicate 8 0) 0 (.slice none 0 0)) 40) := Bl.new w _ _
  have HB0 : Hid (Below w.heap.size w (w.alloc (Obj.cells (rhash (List.replicate 8 0) 0 (.slice none 0 0)).toArray 40))) := below_new w _
  by_cases h1 : n < 104
  · have e : loadErr xs = 3 := by unfold loadErr; rw [if_pos (by omega)]
    rw [e]
    clear hx hr hn e
    go_enter Tryd.func49, Tryd.ntmps49
    go_wp2_with (first
      | (refine wpList_build_eq rfl 40 _ rfl (rhash (List.replicate 8 0) 0 (.slice none 0 0)).toArray (by kernel_rfl) ?_)
      | (refine wpList_store_row rfl 40 _ _ rfl w.heap.size (rhash (List.replicate 8 0) 0 (.slice none 0 0)).toArray rfl rfl 40 (rhash (List.replicate 8 0) 0 (.slice none 0 0)).toArray HZ0.out HCZ.out rfl (all_oneCell_toArray (rhash_one _ _ _ rfl)) ?_)
      | fail)
    refine bodyPost_ret (results_cell_tmp rfl _ _ w.heap.size 40 (rhash (List.replicate 8 0) 0 (.slice none 0 0)).toArray (0, 0) _ rfl (Bl.setRow HZ0.out _) Tryd.underlying40 HCZ.out) rfl ⟨_, _, _, rfl, ⟨rfl, rfl⟩, fun h => absurd h (by decide), below_setRow HB0.out (Nat.le_refl _) _⟩
  by_cases h2 : 104 < n
  · have e : loadErr xs = 4 := by unfold loadErr; rw [if_neg (by omega), if_pos (by omega)]
    rw [e]
    clear hx hr hn e
    go_enter Tryd.func49, Tryd.ntmps49
    go_wp2_with (first
      | (refine wpList_build_eq rfl 40 _ rfl (rhash (List.replicate 8 0) 0 (.slice none 0 0)).toArray (by kernel_rfl) ?_)
      | (refine wpList_store_row rfl 40 _ _ rfl w.heap.size (rhash (List.replicate 8 0) 0 (.slice none 0 0)).toArray rfl rfl 40 (rhash (List.replicate 8 0) 0 (.slice none 0 0)).toArray HZ0.out HCZ.out rfl (all_oneCell_toArray (rhash_one _ _ _ rfl)) ?_)
      | fail)
    refine bodyPost_ret (results_cell_tmp rfl _ _ w.heap.size 40 (rhash (List.replicate 8 0) 0 (.slice none 0 0)).toArray (0, 0) _ rfl (Bl.setRow HZ0.out _) Tryd.underlying40 HCZ.out) rfl ⟨_, _, _, rfl, ⟨rfl, rfl⟩, fun h => absurd h (by decide), below_setRow HB0.out (Nat.le_refl _) _⟩
  obtain rfl : n = 104 := by omega
  have HE : Hid (loadErr xs = if okSaved (regOf xs) ((xs.drop 32).take 64) (num8 (xs.drop 96)) then 0 else 22) := by show _ = _; unfold loadErr; rw [if_neg (by omega), if_neg (by omega)]
  obtain ⟨b, off, rfl⟩ := hr.form (by omega)
  have HN8 : Hid (num8 (xs.drop 96) = beN ((xs.drop 96).take 8)) := by show _ = _; rw [List.take_of_length_le (by rw [List.length_drop]; omega)]; exact num8_beN (by rw [List.length_drop]; omega)
  have hN := num8_lt (lt_drop hx 96)
  have HBL : Hid (((xs.drop 32).take 64).length = 64) := by show _ = _; rw [List.length_take, List.length_drop]; omega
  have HBG : Hid (∀ j, j < 64 → ((xs.drop 32).take 64).getD j 0 = xs.getD (32 + j) 0) := fun j hj => by simp [List.getD, hj, List.getElem?_drop]
  have HX96 : Hid (∀ x ∈ xs.drop 96, x < 256) := lt_drop hx 96
  obtain ⟨wa, hwa⟩ : ∃ x, x = w.alloc (Obj.cells (rhash (List.replicate 8 0) 0 (.slice none 0 0)).toArray 40) := ⟨_, rfl⟩
  have hwa2 : wa = w.alloc (Obj.cells (rhash [0, 0, 0, 0, 0, 0, 0, 0] 0 (.slice none 0 0)).toArray 40) := hwa
  rw [← hwa] at HZ0 HB0
  have HC : Hid (∀ W, Below w.heap.size w W → ∀ j, j < 104 → W.cell? ⟨b, off + j, none⟩ = some (.int .u8 ((xs.getD j 0 : Nat) : Int))) := fun W h j hj => (hr.keep h).cell j (by omega)
  clear hx hr h1 h2 hn hwa
  go_enter Tryd.func49, Tryd.ntmps49
  go_upto_region 1 with fail
  rw [← hwa2]
  clear hwa2
  go_wp2
  go_loopw [4, 5] (fun v i wr => ∃ k : Nat, k ≤ 8 ∧ i = .int .i64 ((96 + k : Nat) : Int) ∧ v = .int .u64 ((beN ((xs.drop 96).take k) : Nat) : Int) ∧ wr = wa) (fun _ i _ => 104 - (intOf i).toNat)
  case atStart => exact ⟨0, Nat.zero_le _, rfl, rfl, rfl⟩
  case round =>
    obtain ⟨k, hk, rfl, rfl, rfl⟩ := hrel
    by_cases hlt : k < 8
    · have c0 := HC.out wr HB0.out (96 + k) (by omega)
      have HS : Hid (beN ((xs.drop 96).take (k + 1)) = beN ((xs.drop 96).take k) * 256 + xs.getD (96 + k) 0) := by
        show _ = _
        rw [take_getD (by rw [List.length_drop, ← HN.out]; omega), beN_snoc]
        simp [List.getD, List.getElem?_drop]
      have hxk := lt_get HX.out (96 + k)
      have hbn : beN ((xs.drop 96).take k) < 72057594037927936 := by
        have h1 := beN_lt (lt_take HX96.out k)
        have h2 : ((xs.drop 96).take k).length ≤ 7 := by rw [List.length_take]; omega
        exact Nat.lt_of_lt_of_le h1 (Nat.pow_le_pow_right (n := 256) (by decide) h2)
      generalize xs.getD (96 + k) 0 = x at *
      generalize beN ((xs.drop 96).take k) = B at *
      obtain ⟨q, hq⟩ : ∃ q, q = 96 + k := ⟨_, rfl⟩
      have HQ : Hid (q = 96 + k) := hq
      rw [← hq] at c0 ⊢
      have hq1 : q < 104 := by omega
      clear hq
      have hdt : decide ((q : Int) < 104) = true := decide_eq_true (by omega)
      go_wp2
      go_roundw
      case rel => exact ⟨k + 1, by omega, by have := HQ.out; simp only [Value.int.injEq, true_and]; omega, by rw [HS.out]; first | go_num | (simp only [Value.int.injEq, true_and]; omega), by first | trivial | rfl⟩
      case measure => simp [intOf]; omega
    · have hk8 : k = 8 := by omega
      have HNe : Hid (beN ((xs.drop 96).take k) = num8 (xs.drop 96)) := by rw [hk8]; exact HN8.out.symm
      have hki : ((96 + k : Nat) : Int) = 104 := by omega
      rw [HNe.out, hki]
      clear hk8 hki hlt hk HNe HN8
      generalize hNe : num8 (xs.drop 96) = N at *
      replace hNe := hide hNe
      generalize hbk : (xs.drop 32).take 64 = blk at *
      replace hbk := hide hbk
      by_cases hbig : 1152921504606846976 < N
      · have HE2 : Hid (loadErr xs = 22) := by show _ = _; rw [HE.out]; unfold okSaved; rw [decide_eq_false (by omega)]; rfl
        have hdb : decide ((1152921504606846976 : Int) < (N : Int)) = true := decide_eq_true (by omega)
        go_wp2_with (first
          | (refine wpList_build_eq rfl 40 _ rfl (rhash (List.replicate 8 0) 0 (.slice none 0 0)).toArray (by kernel_rfl) ?_)
          | (refine wpList_store_row rfl 40 _ _ rfl w.heap.size (rhash (List.replicate 8 0) 0 (.slice none 0 0)).toArray rfl rfl 40 (rhash (List.replicate 8 0) 0 (.slice none 0 0)).toArray HZ0.out HCZ.out rfl (all_oneCell_toArray (rhash_one _ _ _ rfl)) ?_)
          | fail)
        refine bodyPost_ret (results_cell_tmp rfl _ _ w.heap.size 40 (rhash (List.replicate 8 0) 0 (.slice none 0 0)).toArray (0, 0) _ rfl (Bl.setRow HZ0.out _) Tryd.underlying40 HCZ.out) rfl ⟨_, _, _, by rw [HE2.out]; rfl, ⟨rfl, rfl⟩, fun h => absurd (HE2.out.symm.trans h) (by decide), below_setRow HB0.out (Nat.le_refl _) _⟩
      · obtain ⟨d, hd⟩ : ∃ d, d = N % 64 := ⟨_, rfl⟩
        have hdi : (N : Int) % 64 = (d : Int) := by omega
        have HD : Hid (d = N % 64) := hd
        have hd64 : d < 64 := by omega
        have hdN : d ≤ N := by omega
        have hdb : decide ((1152921504606846976 : Int) < (N : Int)) = false := decide_eq_false (by omega)
        clear hd
        go_wp2
        go_loopw [7] (fun i wq => ∃ k : Nat, k ≤ 64 - d ∧ i = .int .i64 ((32 + d + k : Nat) : Int) ∧ Hid (∀ j, j < k → blk.getD (d + j) 0 = 0) ∧ wq = wr) (fun i _ => 96 - (intOf i).toNat)
        case atStart => exact ⟨0, Nat.zero_le _, by simp, fun j hj => by omega, rfl⟩
        case round =>
          obtain ⟨k2, hk2, rfl, HJ, rfl⟩ := hrel
          obtain ⟨q, hq⟩ : ∃ q, q = 32 + d + k2 := ⟨_, rfl⟩
          have HQ : Hid (q = 32 + d + k2) := hq
          rw [← hq]
          have hq96 : q ≤ 96 := by omega
          clear hq
          by_cases hlt2 : q < 96
          · have hdt : decide ((q : Int) < 96) = true := decide_eq_true (by omega)
            have c0 := HC.out wr HB0.out q (by omega)
            have hxk := lt_get HX.out q
            have HQX : Hid (blk.getD (d + k2) 0 = xs.getD q 0) := by have := HQ.out; rw [HBG.out (d + k2) (by omega), show 32 + (d + k2) = q by omega]; exact rfl
            by_cases hzz : xs.getD q 0 = 0
            · have HJN : Hid (∀ j, j < k2 + 1 → blk.getD (d + j) 0 = 0) := fun j hj => by
                by_cases hjk : j < k2
                · exact HJ.out j hjk
                · rw [show j = k2 by omega, HQX.out]; exact hzz
              rw [hzz] at c0
              clear hzz
              go_wp2
              go_roundw
              case rel => exact ⟨k2 + 1, by have := HQ.out; omega, by have := HQ.out; simp only [Value.int.injEq, true_and]; omega, HJN, by first | trivial | rfl⟩
              case measure => simp [intOf]; omega
            · have HE2 : Hid (loadErr xs = 22) := by
                show _ = _
                rw [HE.out]
                unfold okSaved
                rw [← HD.out, all_zero_false (h := d) (k := k2) (by rw [HBL.out]; have := HQ.out; omega) (by rw [HQX.out]; exact hzz)]
                simp
              generalize xs.getD q 0 = x at *
              have hzi : ((x : Int) != 0) = true := by rw [bne_iff_ne]; omega
              have hzj : ((x : Int) == 0) = false := by rw [beq_eq_false_iff_ne]; omega
              go_wp2_with (first
                | (refine wpList_build_eq rfl 40 _ rfl (rhash (List.replicate 8 0) 0 (.slice none 0 0)).toArray (by kernel_rfl) ?_)
                | (refine wpList_store_row rfl 40 _ _ rfl w.heap.size (rhash (List.replicate 8 0) 0 (.slice none 0 0)).toArray rfl rfl 40 (rhash (List.replicate 8 0) 0 (.slice none 0 0)).toArray HZ0.out HCZ.out rfl (all_oneCell_toArray (rhash_one _ _ _ rfl)) ?_)
                | fail)
              refine bodyPost_ret (results_cell_tmp rfl _ _ w.heap.size 40 (rhash (List.replicate 8 0) 0 (.slice none 0 0)).toArray (0, 0) _ rfl (Bl.setRow HZ0.out _) Tryd.underlying40 HCZ.out) rfl ⟨_, _, _, by rw [HE2.out]; rfl, ⟨rfl, rfl⟩, fun h => absurd (HE2.out.symm.trans h) (by decide), below_setRow HB0.out (Nat.le_refl _) _⟩
          · have hqi : (q : Int) = 96 := by omega
            rw [hqi]
            have HAZ : Hid ((blk.drop d).all (· == 0) = true) := all_zero_true (fun j hj => HJ.out j (by rw [HBL.out] at hj; have := HQ.out; omega))
            clear hqi hlt2 hq96 HQ HJ hk2
            obtain ⟨P, hP⟩ : ∃ P, P = N - d := ⟨_, rfl⟩
            have HP : Hid (P = N - d) := hP
            have hPi : (N : Int) - (d : Int) = (P : Int) := by omega
            clear hP
            obtain ⟨ao8, hsl8, hrow8⟩ := slice_mid_any (some ⟨b, off, none⟩) 104 cap 32 (32 + d) 32 (32 + (d : Int)) rfl (by omega) (by omega) (by omega) hnc
            rw [show 32 + d - 32 = d by omega] at hsl8
            have HR8 : Hid (Row wr ao8 ((xs.drop 32).take d)) := by
              have := hrow8 wr xs HN.out (HR.out.keep HB0.out)
              rw [show 32 + d - 32 = d by omega] at this
              exact this
            have HL8 : Hid (d = ((xs.drop 32).take d).length) := by show _ = _; rw [List.length_take, List.length_drop, ← HN.out]; omega
            clear hrow8
            go_wp2_with (first | (at_builtin; refine wpList_append_bytes rfl _ _ rfl wr.heap.size _ [] rfl (own_new wr wr.heap.size [] (Nat.le_refl _) (Nat.zero_le _)) ao8 d _ ((xs.drop 32).take d) HL8.out rfl (HR8.out.keep (below_new wr _)) (by rw [← HL8.out]; simp only [List.length_nil]; omega) (by simp) ?_) | fail)
            rintro v2 w2 hown2 hgr2
            obtain ⟨ao9, c9, rfl, hc9, hr9, hb2⟩ := copied hown2 hgr2 HL8.out
            have HB2 : Hid (Below w.heap.size w w2) := HB0.out.trans (hb2.mono HB0.out.size)
            have HZ2 : Hid (Bl w2 w.heap.size (rhash (List.replicate 8 0) 0 (.slice none 0 0)) 40) := HZ0.out.keep hb2
            have HR9 : Hid (Row w2 ao9 ((xs.drop 32).take d)) := hr9
            have HF9 : Hid (∀ a, ao9 = some a → w.heap.size + 1 ≤ a.block) := fun a ha => by
              subst ha
              have hzl := HZ0.out.lt
              rcases hown2.2 with ⟨e, _⟩ | ⟨gg, cap', cur, e, hb, _⟩
              · cases e
              · simp only [Value.slice.injEq, Option.some.injEq] at e; rw [e.1]; show _ ≤ gg; omega
            have hs2 := HB2.out.size
            clear hown2 hgr2 hr9 hb2 hsl8 HR8
            have HCV : Hid ((Tryd.prog.info? 40).map (·.size) = some (rhash [0, 0, 0, 0, 0, 0, 0, 0] P (.slice ao9 d c9)).toArray.size) := rhash_size _ _ _ rfl
            go_upto_region 19 with (first
              | (refine wpList_build_eq rfl 40 _ rfl (rhash [0, 0, 0, 0, 0, 0, 0, 0] P (.slice ao9 d c9)).toArray (by kernel_rfl) ?_)
              | (refine wpList_store_row rfl 40 _ _ rfl w2.heap.size (rhash [0, 0, 0, 0, 0, 0, 0, 0] P (.slice ao9 d c9)).toArray rfl rfl 40 (rhash [0, 0, 0, 0, 0, 0, 0, 0] 0 (.slice none 0 0)).toArray (Bl.new w2 _ _) HCV.out rfl (all_oneCell_toArray (rhash_one _ _ _ rfl)) ?_)
              | fail)
            obtain ⟨w3, hq3⟩ : ∃ x, x = (w2.alloc (Obj.cells (rhash [0, 0, 0, 0, 0, 0, 0, 0] 0 (.slice none 0 0)).toArray 40)).setRow w2.heap.size (rhash [0, 0, 0, 0, 0, 0, 0, 0] P (.slice ao9 d c9)).toArray := ⟨_, rfl⟩
            rw [← hq3]
            have HG3 : Hid (Bl w3 w2.heap.size (rhash (regP xs 0) P (.slice ao9 d c9)) 40) := by rw [hq3, regP_zero]; exact (Bl.new w2 _ _).setRow _
            have H23 : Hid (Below w2.heap.size w2 w3) := by rw [hq3]; exact below_setRow (below_new w2 _) (Nat.le_refl _) _
            clear hq3
            obtain ⟨g8, hg8⟩ : ∃ g, g = w2.heap.size := ⟨_, rfl⟩
            rw [← hg8] at HG3 H23 ⊢
            have HG8 : Hid (g8 = w2.heap.size) := hg8
            clear hg8
            go_wp2
            go_loopw [9] (fun i wq => ∃ k : Nat, k ≤ 32 ∧ i = .int .i64 (k : Int) ∧ Hid (Bl wq g8 (rhash (regP xs k) P (.slice ao9 d c9)) 40) ∧ Hid (Below g8 w2 wq)) (fun i _ => 32 - (intOf i).toNat)
            case atStart => exact ⟨0, Nat.zero_le _, rfl, HG3, H23⟩
            case round =>
              clear HG3 H23
              obtain ⟨k3, hk3, rfl, HG, HB⟩ := hrel
              have HBw : Hid (Below w.heap.size w wr) := HB2.out.trans (HB.out.mono (by rw [HG8.out]; exact hs2))
              by_cases hlt3 : k3 < 32
              · have cx := HC.out wr HBw.out k3 (by omega)
                obtain ⟨q4, hq4⟩ : ∃ q, q = k3 / 4 := ⟨_, rfl⟩
                have hqi4 : (k3 : Int) / 4 = (q4 : Int) := by omega
                have hq8 : q4 < 8 := by omega
                have cr : wr.cell? ⟨g8, q4, none⟩ = some (.int .u32 (((regP xs k3).getD q4 0 : Nat) : Int)) := by
                  rw [HG.out.cell]; unfold rhash; rw [List.getElem?_append_left (by rw [List.length_map, regP_length]; exact hq8)]
                  simp [List.getD, show q4 < (regP xs k3).length by rw [regP_length]; exact hq8, wv]
                have fr : wr.frozen? ⟨g8, q4, none⟩ = false := HG.out.frozen _
                have HPS : Hid (regP xs (k3 + 1) = (regP xs k3).set q4 ((regP xs k3).getD q4 0 * 256 + xs.getD k3 0)) := by rw [hq4]; exact regP_succ xs k3 (by rw [← HN.out]; omega)
                have hsm : (regP xs k3).getD q4 0 < 16777216 := by rw [hq4]; exact regP_small HX.out k3 hlt3 (by rw [← HN.out]; omega)
                have hxk := lt_get HX.out k3
                have HGS : Hid (∀ y : Nat, Bl (wr.setCell ⟨g8, q4, none⟩ (.int .u32 (y : Int))) g8 (rhash ((regP xs k3).set q4 y) P (.slice ao9 d c9)) 40) := fun y => by
                  have := HG.out.set q4 (.int .u32 (y : Int))
                  unfold rhash at this ⊢
                  rw [List.set_append_left _ _ (by rw [List.length_map, regP_length]; exact hq8)] at this
                  rw [List.map_set]
                  exact this
                have hdt : decide ((k3 : Int) < 32) = true := decide_eq_true (by omega)
                have li : (k3 : Int) < 104 := by omega
                clear hq4
                generalize (regP xs k3).getD q4 0 = R at *
                generalize xs.getD k3 0 = x at *
                have hw1 : IntKind.u32.wrap ((R : Int) * 256) = (R : Int) * 256 := by rw [IntKind.wrap_u32]; omega
                have hw2 : IntKind.u32.wrap ((R : Int) * 256 + (x : Int)) = (R : Int) * 256 + (x : Int) := by rw [IntKind.wrap_u32]; omega
                go_wp2
                go_region
                all_goals
                  go_wp2
                  go_roundw
                  case rel =>
                    refine ⟨k3 + 1, by omega, by go_num, ?_, ?_⟩
                    · rw [HPS.out]; exact HGS.out (R * 256 + x)
                    · exact (below_drewN HB.out 1).setCell (p := ⟨g8, q4, none⟩) (by simp) _
                  case measure => simp [intOf]; omega
              · have hki : (k3 : Int) = 32 := by omega
                rw [hki]
                obtain ⟨rg, hrg⟩ : ∃ y, y = regOf xs := ⟨_, rfl⟩
                have HRG : Hid (rg = regOf xs) := hrg
                have HG' : Hid (Bl wr g8 (rhash (rg) P (.slice ao9 d c9)) 40) := by
                  rw [hrg]
                  have := HG.out
                  rw [show k3 = 32 by omega, regP_all xs (by rw [← HN.out]; decide)] at this
                  exact this
                clear HG hki hlt3 hk3
                have hln : rg.length = 8 := by rw [hrg]; simp [regOf]
                have HRL8 : Hid (rg.length = 8) := hln
                have hb28 := HB.out
                rw [HG8.out] at hb28
                have HZ3 : Hid (Bl wr w.heap.size (rhash (List.replicate 8 0) 0 (.slice none 0 0)) 40) := HZ2.out.keep hb28
                have HCV3 : Hid ((Tryd.prog.info? 40).map (·.size) = some (rhash (rg) P (.slice ao9 d c9)).toArray.size) := rhash_size _ _ _ hln
                have HOLD : Hid ((rhash (List.replicate 8 0) 0 (.slice none 0 0)).toArray.size = (rhash (rg) P (.slice ao9 d c9)).toArray.size) := by show _ = _; simp [rhash, hln]
                have HRW : Hid (Row wr ao9 ((xs.drop 32).take d)) := HR9.out.keep hb28
                have HFIN : Hid (∀ W, Below wr.heap.size wr W → P = num8 (xs.drop 96) - num8 (xs.drop 96) % 64 ∧ ∃ ao' c', Value.slice ao9 d c9 = .slice ao' (num8 (xs.drop 96) % 64) c' ∧ num8 (xs.drop 96) % 64 ≤ c' ∧ Row (W.setRow w.heap.size (rhash (rg) P (.slice ao9 d c9)).toArray) ao' ((xs.drop 32).take (num8 (xs.drop 96) % 64)) ∧ ∀ a, ao' = some a → w.heap.size ≤ a.block) := fun W hW => by
                  rw [hNe.out]
                  refine ⟨by rw [← HD.out]; exact HP.out, ao9, c9, by rw [← HD.out], by rw [← HD.out]; exact hc9, ?_, fun a ha => by have := HF9.out a ha; omega⟩
                  rw [← HD.out]
                  exact row_setRow (HRW.out.keep hW) (fun a ha => by have := HF9.out a ha; omega)
                have HO : Hid (okSaved (regOf xs) blk N = (decide (64 ≤ N) || decide (rg = first8))) := by show _ = _; rw [← HRG.out]; unfold okSaved; rw [← HD.out, HAZ.out, decide_eq_true (show N ≤ 1152921504606846976 by omega)]; simp
                have hld : ∀ W, Bl W g8 (rhash (rg) P (.slice ao9 d c9)) 40 → (Instr.loadAt 37 (.pointer (some ⟨g8, 0, none⟩))).run Tryd.prog W = .ok (.agg ((rg).map wv).toArray) W := fun W h => run_loadAt_mid W g8 0 37 ((rg).map wv) _ (rhashR h) Tryd.underlying37 rfl (by rw [size37]; simp [hln])
                replace hld := hide hld
                have hq : ∀ W, (Op.equalIn 10000 37 (.agg ((rg).map wv).toArray) (.agg (first8.map wv).toArray)).run Tryd.prog W = .ok (decide (rg = first8)) W := fun W => arr8w_eq (rg) first8 W hln rfl
                clear hb28 hln hrg
                go_wp2
                refine region_any_var (by kernel_rfl) ?_
                intro A hA
                have hsz : A.tmps.size = 89 := by rw [hA]; rfl
                have e4 : A.eval (.tmp 4) = .int .u64 (N : Int) := by rw [hA]; rfl
                have e8 : A.eval (.tmp 8) = .pointer (some ⟨g8, 0, none⟩) := by rw [hA]; rfl
                refine take_move (i := 0) 79 4 (.int .u64 (N : Int)) rfl rfl rfl (by kernel_rfl) (by kernel_rfl) (by kernel_rfl) (fun _ _ _ h => h) rfl (by simp [ev_put, hsz, sz_put, e4]) ?_
                by_cases hN64 : 64 ≤ N
                · as_aux_lemma =>
                    have hge : decide ((N : Int) < 64) = false := decide_eq_false (by omega)
                    have HE0 : Hid (loadErr xs = 0) := by show _ = _; rw [HE.out, HO.out, decide_eq_true hN64]; simp
                    have h6 : Below wr.heap.size wr wr.drew := (Below.refl _ _).drew
                    refine take_run (i := 1) 80 (.bool false) rfl rfl (by kernel_rfl) (by kernel_rfl) (by kernel_rfl) (fun _ _ _ h => h) rfl (fun w => by unfold execOp; simp [ev_put, hsz, sz_put, e4, e8] <;> go_simp) ?_
                    refine take_move (i := 2) 81 80 (.bool false) rfl rfl rfl (by kernel_rfl) (by kernel_rfl) (by kernel_rfl) (fun _ _ _ h => h) rfl (by simp [ev_put, hsz, sz_put, e4]) ?_
                    refine take_skip (i := 3) 82 rfl rfl (by kernel_rfl) (by kernel_rfl) (by kernel_rfl) (fun _ _ _ h => h) (skips 2 81 true rfl rfl (by simp [sz_put, hsz]) (by simp [ev_put, hsz, sz_put, e4])) ?_
                    refine take_skip (i := 4) 83 rfl rfl (by kernel_rfl) (by kernel_rfl) (by kernel_rfl) (fun _ _ _ h => h) (skips 2 81 true rfl rfl (by simp [sz_put, hsz]) (by simp [ev_put, hsz, sz_put, e4])) ?_
                    refine take_skip (i := 5) 84 rfl rfl (by kernel_rfl) (by kernel_rfl) (by kernel_rfl) (fun _ _ _ h => h) (skips 2 81 true rfl rfl (by simp [sz_put, hsz]) (by simp [ev_put, hsz, sz_put, e4])) ?_
                    refine take_skip (i := 6) 85 rfl rfl (by kernel_rfl) (by kernel_rfl) (by kernel_rfl) (fun _ _ _ h => h) (skips 2 81 true rfl rfl (by simp [sz_put, hsz]) (by simp [ev_put, hsz, sz_put, e4])) ?_
                    refine take_run (i := 7) 86 (.bool false) rfl rfl (by kernel_rfl) (by kernel_rfl) (by kernel_rfl) (fun _ _ _ h => h) rfl (fun w => by unfold execOp; simp [ev_put, hsz, sz_put, e4, e8] <;> go_simp) ?_
                    refine wpAny_done (by kernel_rfl) ?_ _
                    subst hA
                    simp only [put_mk]
                    dsimp only [List.set_cons_succ, List.set_cons_zero]
                    go_wp2_with (first
                      | (refine wpList_load_row rfl 40 _ rfl g8 rfl 40 (rhash (rg) P (.slice ao9 d c9)).toArray (0, 0) _ (HG'.out.keep h6) Tryd.underlying40 rfl HCV3.out ?_)
                      | (refine wpList_store_row rfl 40 _ _ rfl w.heap.size (rhash (rg) P (.slice ao9 d c9)).toArray rfl rfl 40 (rhash (List.replicate 8 0) 0 (.slice none 0 0)).toArray (HZ3.out.keep h6) HCV3.out HOLD.out (all_oneCell_toArray (rhash_one _ _ _ rfl)) ?_)
                      | fail)
                    refine bodyPost_ret (results_cell_tmp rfl _ _ w.heap.size 40 (rhash (rg) P (.slice ao9 d c9)).toArray (0, 0) _ rfl (Bl.setRow (HZ3.out.keep h6) _) Tryd.underlying40 HCV3.out) rfl ⟨rg, P, .slice ao9 d c9, by rw [HE0.out]; rfl, ⟨HRL8.out, rfl⟩, fun _ => ⟨HRG.out, HFIN.out _ h6⟩, below_setRow (HBw.out.trans (h6.mono HBw.out.size)) (Nat.le_refl _) _⟩
                · have hge : decide ((N : Int) < 64) = true := decide_eq_true (by omega)
                  have HE1 : Hid (loadErr xs = if decide (rg = first8) = true then 0 else 22) := by show _ = _; rw [HE.out, HO.out, decide_eq_false hN64]; simp
                  refine take_run (i := 1) 80 (.bool true) rfl rfl (by kernel_rfl) (by kernel_rfl) (by kernel_rfl) (fun _ _ _ h => h) rfl (fun w => by unfold execOp; simp [ev_put, hsz, sz_put, e4, e8] <;> go_simp) ?_
                  refine take_move (i := 2) 81 80 (.bool true) rfl rfl rfl (by kernel_rfl) (by kernel_rfl) (by kernel_rfl) (fun _ _ _ h => h) rfl (by simp [ev_put, hsz, sz_put, e4]) ?_
                  refine take_run (i := 3) 82 (.pointer (some ⟨g8, 0, none⟩)) rfl rfl (by kernel_rfl) (by kernel_rfl) (by kernel_rfl) (fun _ _ _ h => h) (wants 2 81 true rfl rfl (by simp [sz_put, hsz]) (by simp [ev_put, hsz, sz_put, e4])) (fun w => by unfold execOp; simp [ev_put, hsz, sz_put, e4, e8] <;> go_simp) ?_
                  refine step_load_call2 (i := 4) (j := 5) 83 84 (.agg ((rg).map wv).toArray) 43 #[] rfl rfl rfl rfl (by kernel_rfl) (wants 2 81 true rfl rfl (by simp [sz_put, hsz]) (by simp [ev_put, hsz, sz_put, e4])) (wants 2 81 true rfl rfl (by simp [sz_put, hsz]) (by simp [ev_put, hsz, sz_put, e4])) (by unfold execOp; simp [ev_put, hsz, sz_put, e4, e8]; rw [hld.out _ (by exact HG'.out)]; rfl) (by unfold execOp; simp [ev_put, hsz, sz_put, e4, e8] <;> go_simp) ?_ ?_
                  · refine step_call (i := 5) 84 43 #[] rfl rfl (by kernel_rfl) (wants 2 81 true rfl rfl (by simp [sz_put, hsz]) (by simp [ev_put, hsz, sz_put, e4])) (by unfold execOp; simp [ev_put, hsz, sz_put, e4, e8] <;> go_simp) ?_
                    refine (begin_any _).mono ?_
                    rintro e w6 ⟨rfl, h6⟩
                    replace h6 : Below wr.heap.size wr w6 := ⟨h6.os, h6.tape, h6.output, h6.size, h6.block⟩
                    refine ⟨_, rfl, ?_⟩
                    by_cases hreg : rg = first8
                    · as_aux_lemma =>
                        have HE0 : Hid (loadErr xs = 0) := by show _ = _; rw [HE1.out, decide_eq_true hreg]; rfl
                        rw [decide_eq_true hreg] at hq
                        replace hreg := hide hreg
                        refine take_run (i := 6) 85 (.bool false) rfl rfl (by kernel_rfl) (by kernel_rfl) (by kernel_rfl) (fun _ _ _ h => h) (wants 2 81 true rfl rfl (by simp [sz_put, hsz]) (by simp [ev_put, hsz, sz_put, e4])) (fun w => by unfold execOp; simp [ev_put, hsz, sz_put, e4, e8] <;> go_simp) ?_
                        refine take_run (i := 7) 86 (.bool false) rfl rfl (by kernel_rfl) (by kernel_rfl) (by kernel_rfl) (fun _ _ _ h => h) rfl (fun w => by unfold execOp; simp [ev_put, hsz, sz_put, e4, e8] <;> go_simp) ?_
                        refine wpAny_done (by kernel_rfl) ?_ _
                        subst hA
                        simp only [put_mk]
                        dsimp only [List.set_cons_succ, List.set_cons_zero]
                        go_wp2_with (first
                          | (refine wpList_load_row rfl 40 _ rfl g8 rfl 40 (rhash (rg) P (.slice ao9 d c9)).toArray (0, 0) _ (HG'.out.keep h6) Tryd.underlying40 rfl HCV3.out ?_)
                          | (refine wpList_store_row rfl 40 _ _ rfl w.heap.size (rhash (rg) P (.slice ao9 d c9)).toArray rfl rfl 40 (rhash (List.replicate 8 0) 0 (.slice none 0 0)).toArray (HZ3.out.keep h6) HCV3.out HOLD.out (all_oneCell_toArray (rhash_one _ _ _ rfl)) ?_)
                          | fail)
                        refine bodyPost_ret (results_cell_tmp rfl _ _ w.heap.size 40 (rhash (rg) P (.slice ao9 d c9)).toArray (0, 0) _ rfl (Bl.setRow (HZ3.out.keep h6) _) Tryd.underlying40 HCV3.out) rfl ⟨rg, P, .slice ao9 d c9, by rw [HE0.out]; rfl, ⟨HRL8.out, rfl⟩, fun _ => ⟨HRG.out, HFIN.out _ h6⟩, below_setRow (HBw.out.trans (h6.mono HBw.out.size)) (Nat.le_refl _) _⟩
                    · as_aux_lemma =>
                        have HE2 : Hid (loadErr xs = 22) := by show _ = _; rw [HE1.out, decide_eq_false hreg]; rfl
                        rw [decide_eq_false hreg] at hq
                        replace hreg := hide hreg
                        refine take_run (i := 6) 85 (.bool true) rfl rfl (by kernel_rfl) (by kernel_rfl) (by kernel_rfl) (fun _ _ _ h => h) (wants 2 81 true rfl rfl (by simp [sz_put, hsz]) (by simp [ev_put, hsz, sz_put, e4])) (fun w => by unfold execOp; simp [ev_put, hsz, sz_put, e4, e8] <;> go_simp) ?_
                        refine take_run (i := 7) 86 (.bool true) rfl rfl (by kernel_rfl) (by kernel_rfl) (by kernel_rfl) (fun _ _ _ h => h) rfl (fun w => by unfold execOp; simp [ev_put, hsz, sz_put, e4, e8] <;> go_simp) ?_
                        refine wpAny_done (by kernel_rfl) ?_ _
                        subst hA
                        simp only [put_mk]
                        dsimp only [List.set_cons_succ, List.set_cons_zero]
                        go_wp2_with (first
                          | (refine wpList_build_eq rfl 40 _ rfl (rhash (List.replicate 8 0) 0 (.slice none 0 0)).toArray (by kernel_rfl) ?_)
                          | (refine wpList_store_row rfl 40 _ _ rfl w.heap.size (rhash (List.replicate 8 0) 0 (.slice none 0 0)).toArray rfl rfl 40 (rhash (List.replicate 8 0) 0 (.slice none 0 0)).toArray (HZ3.out.keep h6) HCZ.out rfl (all_oneCell_toArray (rhash_one _ _ _ rfl)) ?_)
                          | fail)
                        refine bodyPost_ret (results_cell_tmp rfl _ _ w.heap.size 40 (rhash (List.replicate 8 0) 0 (.slice none 0 0)).toArray (0, 0) _ rfl (Bl.setRow (HZ3.out.keep h6) _) Tryd.underlying40 HCZ.out) rfl ⟨_, _, _, by rw [HE2.out]; rfl, ⟨rfl, rfl⟩, fun h => absurd (HE2.out.symm.trans h) (by decide), below_setRow (HBw.out.trans (h6.mono HBw.out.size)) (Nat.le_refl _) _⟩
                  · refine (begin_any _).mono ?_
                    rintro e w6 ⟨rfl, h6⟩
                    replace h6 : Below wr.heap.size wr w6 := ⟨h6.os, h6.tape, h6.output, h6.size, h6.block⟩
                    refine ⟨_, rfl, ?_⟩
                    refine step_one (i := 4) (w' := w6) 83 (.agg ((rg).map wv).toArray) rfl rfl (by kernel_rfl) (wants 2 81 true rfl rfl (by simp [sz_put, hsz]) (by simp [ev_put, hsz, sz_put, e4])) (by unfold execOp; simp [ev_put, hsz, sz_put, e4, e8]; rw [hld.out _ (HG'.out.keep h6)]; rfl) ?_
                    by_cases hreg : rg = first8
                    · as_aux_lemma =>
                        have HE0 : Hid (loadErr xs = 0) := by show _ = _; rw [HE1.out, decide_eq_true hreg]; rfl
                        rw [decide_eq_true hreg] at hq
                        replace hreg := hide hreg
                        refine take_run (i := 6) 85 (.bool false) rfl rfl (by kernel_rfl) (by kernel_rfl) (by kernel_rfl) (fun _ _ _ h => h) (wants 2 81 true rfl rfl (by simp [sz_put, hsz]) (by simp [ev_put, hsz, sz_put, e4])) (fun w => by unfold execOp; simp [ev_put, hsz, sz_put, e4, e8] <;> go_simp) ?_
                        refine take_run (i := 7) 86 (.bool false) rfl rfl (by kernel_rfl) (by kernel_rfl) (by kernel_rfl) (fun _ _ _ h => h) rfl (fun w => by unfold execOp; simp [ev_put, hsz, sz_put, e4, e8] <;> go_simp) ?_
                        refine wpAny_done (by kernel_rfl) ?_ _
                        subst hA
                        simp only [put_mk]
                        dsimp only [List.set_cons_succ, List.set_cons_zero]
                        go_wp2_with (first
                          | (refine wpList_load_row rfl 40 _ rfl g8 rfl 40 (rhash (rg) P (.slice ao9 d c9)).toArray (0, 0) _ (HG'.out.keep h6) Tryd.underlying40 rfl HCV3.out ?_)
                          | (refine wpList_store_row rfl 40 _ _ rfl w.heap.size (rhash (rg) P (.slice ao9 d c9)).toArray rfl rfl 40 (rhash (List.replicate 8 0) 0 (.slice none 0 0)).toArray (HZ3.out.keep h6) HCV3.out HOLD.out (all_oneCell_toArray (rhash_one _ _ _ rfl)) ?_)
                          | fail)
                        refine bodyPost_ret (results_cell_tmp rfl _ _ w.heap.size 40 (rhash (rg) P (.slice ao9 d c9)).toArray (0, 0) _ rfl (Bl.setRow (HZ3.out.keep h6) _) Tryd.underlying40 HCV3.out) rfl ⟨rg, P, .slice ao9 d c9, by rw [HE0.out]; rfl, ⟨HRL8.out, rfl⟩, fun _ => ⟨HRG.out, HFIN.out _ h6⟩, below_setRow (HBw.out.trans (h6.mono HBw.out.size)) (Nat.le_refl _) _⟩
                    · as_aux_lemma =>
                        have HE2 : Hid (loadErr xs = 22) := by show _ = _; rw [HE1.out, decide_eq_false hreg]; rfl
                        rw [decide_eq_false hreg] at hq
                        replace hreg := hide hreg
                        refine take_run (i := 6) 85 (.bool true) rfl rfl (by kernel_rfl) (by kernel_rfl) (by kernel_rfl) (fun _ _ _ h => h) (wants 2 81 true rfl rfl (by simp [sz_put, hsz]) (by simp [ev_put, hsz, sz_put, e4])) (fun w => by unfold execOp; simp [ev_put, hsz, sz_put, e4, e8] <;> go_simp) ?_
                        refine take_run (i := 7) 86 (.bool true) rfl rfl (by kernel_rfl) (by kernel_rfl) (by kernel_rfl) (fun _ _ _ h => h) rfl (fun w => by unfold execOp; simp [ev_put, hsz, sz_put, e4, e8] <;> go_simp) ?_
                        refine wpAny_done (by kernel_rfl) ?_ _
                        subst hA
                        simp only [put_mk]
                        dsimp only [List.set_cons_succ, List.set_cons_zero]
                        go_wp2_with (first
                          | (refine wpList_build_eq rfl 40 _ rfl (rhash (List.replicate 8 0) 0 (.slice none 0 0)).toArray (by kernel_rfl) ?_)
                          | (refine wpList_store_row rfl 40 _ _ rfl w.heap.size (rhash (List.replicate 8 0) 0 (.slice none 0 0)).toArray rfl rfl 40 (rhash (List.replicate 8 0) 0 (.slice none 0 0)).toArray (HZ3.out.keep h6) HCZ.out rfl (all_oneCell_toArray (rhash_one _ _ _ rfl)) ?_)
                          | fail)
                        refine bodyPost_ret (results_cell_tmp rfl _ _ w.heap.size 40 (rhash (List.replicate 8 0) 0 (.slice none 0 0)).toArray (0, 0) _ rfl (Bl.setRow (HZ3.out.keep h6) _) Tryd.underlying40 HCZ.out) rfl ⟨_, _, _, by rw [HE2.out]; rfl, ⟨rfl, rfl⟩, fun h => absurd (HE2.out.symm.trans h) (by decide), below_setRow (HBw.out.trans (h6.mono HBw.out.size)) (Nat.le_refl _) _⟩
end Go.Proofs.YtjdglpfjemoodaaDoor
