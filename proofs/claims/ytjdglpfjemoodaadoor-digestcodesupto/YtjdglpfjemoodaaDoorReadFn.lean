/- The contracts of the reference's read, FromBase64 and FromHex: for every text. -/
import Derived.Test.YtjdglpfjemoodaaDoorCodesFn
import Derived.Test.YtjdglpfjemoodaaDoorFromHexFn
import Derived.Test.YtjdglpfjemoodaaDoorIntRow
namespace Go.Proofs.YtjdglpfjemoodaaDoor
open Go.RowKit

theorem fb64_ref {l : List Nat} (h1 : ¬ 65536 < l.length) (h2 : badAt l = none) (h3 : ¬ l.length % 4 = 1) : (restZero (allBits 6 (vals l)) → fb64 l = (octs (allBits 6 (vals l)), 0, 0)) ∧ (¬ restZero (allBits 6 (vals l)) → fb64 l = ([], 21, l.length - 1)) := by
  have hlen : (vals l).length = l.length := by have := congrArg List.length (map_vals h2); simpa using this
  have hr := rest64 (vals l) (vals_lt l) (by rw [hlen]; exact h3)
  rw [fb64_eq, if_neg h1, h2]
  simp only
  rw [if_neg h3, octs_d64 _ (vals_lt l)]
  exact ⟨fun h => by rw [if_neg (by simpa using hr.1 h)], fun h => by rw [if_pos (by simpa using fun e => h (hr.2 e))]⟩
theorem fhex_ref {l : List Nat} (h1 : ¬ 65536 < l.length) (h2 : badAt16 l = none) (h3 : ¬ l.length % 2 = 1) : (restZero (allBits 4 (vals16 l)) → fhex l = (octs (allBits 4 (vals16 l)), 0, 0)) ∧ (¬ restZero (allBits 4 (vals16 l)) → fhex l = ([], 21, l.length - 1)) := by
  have hlen : (vals16 l).length = l.length := by have := congrArg List.length (map_vals16 h2); simpa using this
  refine ⟨fun _ => ?_, fun h => absurd (rest16 _ (by rw [hlen]; omega)) h⟩
  unfold fhex
  rw [if_neg h1, h2]
  simp only
  rw [if_neg h3, octs_d16 _ (vals16_lt l)]
def eightN (b : List Nat) (i : Nat) : Nat → Nat
  | 0 => 0
  | k + 1 => 2 * eightN b i k + b.getD (i + k) 0
theorem eightN_eight (b : List Nat) (i : Nat) : eightN b i 8 = eightAt b i := rfl
theorem eightN_lt (b : List Nat) (hb : ∀ x ∈ b, x < 2) (i k : Nat) (hk : k ≤ 8) : eightN b i k < 256 := by
  have hg : ∀ j, b.getD j 0 < 2 := fun j => getD_lt_of hb (by decide) j
  have : ∀ k, eightN b i k < 2 ^ k := by
    intro k
    induction k with
    | zero => simp [eightN]
    | succ k ih => unfold eightN; have := hg (i + k); rw [Nat.pow_succ]; omega
  exact Nat.lt_of_lt_of_le (this k) (Nat.pow_le_pow_right (n := 2) (by decide) hk)
theorem allBits_lt (W : Nat) (v : List Nat) : ∀ x ∈ allBits W v, x < 2 := by
  intro x hx
  obtain ⟨n, _, hx⟩ := List.mem_flatMap.1 hx
  obtain ⟨k, _, rfl⟩ := List.mem_map.1 hx
  exact Nat.mod_lt _ (by decide)
theorem allBits_snoc (W : Nat) (v : List Nat) (n : Nat) : allBits W (v ++ [n]) = allBits W v ++ bitsOf W n := by simp [allBits]
theorem vals_snoc {l : List Nat} {c n : Nat} (h : val64 c = some n) : vals (l ++ [c]) = vals l ++ [n] := by
  unfold vals
  rw [List.filterMap_append]
  simp [h]
theorem octs_take_succ (b : List Nat) (j : Nat) (hj : 8 * j + 8 ≤ b.length) : (octs b).take (j + 1) = (octs b).take j ++ [eightAt b (8 * j)] := by
  have hl : (octs b).length = b.length / 8 := by simp [octs]
  rw [List.take_succ_eq_append_getElem (by rw [hl]; omega)]
  congr 2
  simp [octs]
theorem bits_take_succ (W n t : Nat) (ht : t < W) : (bitsOf W n).take (t + 1) = (bitsOf W n).take t ++ [n / 2 ^ (W - 1 - t) % 2] := by
  rw [List.take_succ_eq_append_getElem (by simpa [bitsOf] using ht)]
  congr 2
  simp [bitsOf]
theorem bits_take_all (W n : Nat) : (bitsOf W n).take W = bitsOf W n := List.take_of_length_le (by simp [bitsOf])

set_option maxHeartbeats 4000000 in
set_option maxRecDepth 100000 in
theorem read64_any (s : ByteArray) (w : World) : Calls Tryd.prog 61 #[.string s, .bool false] w fun e w' => ∃ ro rn rc, e = .returned (.tuple #[.slice ro rn rc, .int .i64 (((fb64 (sbytes s)).2.1 : Nat) : Int), .int .i64 (((fb64 (sbytes s)).2.2 : Nat) : Int)]) ∧ Hid (rn = (fb64 (sbytes s)).1.length ∧ rn ≤ rc ∧ Own w' w.heap.size (.slice ro rn rc) (fb64 (sbytes s)).1 ∧ Below w.heap.size w w') := by
  have hz : (sbytes s).length = s.size := sbytes_length s
  by_cases hbig : 65536 < s.size
  · have e : fb64 (sbytes s) = ([], 1, 0) := by unfold fb64; rw [if_pos (by omega)]
    rw [e]
    go_enter Tryd.func61, Tryd.ntmps61
    go_wp2
    go_ret3
    exact ⟨none, 0, 0, rfl, rfl, Nat.le_refl _, own_nil _ _, Below.refl _ _⟩
  · have HZ : Hid ((sbytes s).length = s.size) := hz
    have HNB : Hid (¬ 65536 < (sbytes s).length) := by show ¬ _; omega
    have HSB : Hid (∀ x ∈ sbytes s, x < 256) := sbytes_lt s
    clear hz
    generalize hFe : fb64 (sbytes s) = F
    have HFE : Hid (fb64 (sbytes s) = F) := hFe
    clear hFe
    have hdb : decide (65536 < (s.size : Int)) = false := decide_eq_false (by omega)
    go_enter Tryd.func61, Tryd.ntmps61
    go_wp2
    go_loopw [9, 10] (fun v i wr => ∃ k : Nat, k ≤ s.size ∧ i = .int .i64 (k : Int) ∧ Hid (∀ j, j < k → (val64 ((sbytes s).getD j 0)).isSome = true) ∧ Hid ((vals ((sbytes s).take k)).length ≤ k) ∧ Hid (OwnI wr w.heap.size v (allBits 6 (vals ((sbytes s).take k)))) ∧ Hid (Below w.heap.size w wr)) (fun _ i _ => s.size - (intOf i).toNat)
    case atStart => exact ⟨0, Nat.zero_le _, rfl, fun j hj => by omega, Nat.le_refl _, ownI_nil _ _, Below.refl _ _⟩
    case round =>
      obtain ⟨k, hk, rfl, HV, HLK, HO, HB⟩ := hrel
      have hs := HB.out.size
      by_cases hlt : k < s.size
      · have hix := str_index s k hlt
        have hck := lt_get HSB.out k
        have HTK : Hid ((sbytes s).take (k + 1) = (sbytes s).take k ++ [(sbytes s).getD k 0]) := take_getD (by rw [HZ.out]; exact hlt)
        have hdt : decide ((k : Int) < (s.size : Int)) = true := decide_eq_true (by omega)
        cases hv : val64 ((sbytes s).getD k 0) with
        | none =>
          have HF : Hid (fb64 (sbytes s) = ([], 20, k)) := by show _ = _; unfold fb64; rw [if_neg HNB.out, badAt_some (by rw [HZ.out]; exact hlt) HV.out hv]
          have HV2 : Hid (val64 ((sbytes s).getD k 0) = none) := hv
          obtain rfl : F = ([], 20, k) := HFE.out.symm.trans HF.out
          clear hv
          go_wp2_with fail
          refine (value_64 ((sbytes s).getD k 0) wr).mono ?_
          rintro e w' ⟨rfl, rfl⟩
          rw [HV2.out]
          simp only [valOr]
          go_wp2
          go_ret3
          exact ⟨none, 0, 0, rfl, rfl, Nat.le_refl _, own_nil _ _, HB.out⟩
        | some n =>
          have hn64 := val64_lt hv
          have HST : Hid (vals ((sbytes s).take (k + 1)) = vals ((sbytes s).take k) ++ [n]) := by show _ = _; rw [HTK.out, vals_snoc hv]
          have HV2 : Hid (val64 ((sbytes s).getD k 0) = some n) := hv
          have HVN : Hid (∀ j, j < k + 1 → (val64 ((sbytes s).getD j 0)).isSome = true) := fun j hj => by
            by_cases hjk : j < k
            · exact HV.out j hjk
            · rw [show j = k by omega, HV2.out]; rfl
          have HLN : Hid ((vals ((sbytes s).take (k + 1))).length ≤ k + 1) := by have := HLK.out; show _ ≤ _; rw [HST.out, List.length_append]; simp; omega
          clear hv
          generalize hvs : vals ((sbytes s).take k) = vs at *
          clear hvs
          have HBL : Hid ((allBits 6 vs).length ≤ 6 * k) := by rw [allBits_length]; exact Nat.mul_le_mul_left _ HLK.out
          have hnn : decide ((n : Int) < 0) = false := decide_eq_false (by omega)
          go_wp2_with fail
          refine (value_64 ((sbytes s).getD k 0) wr).mono ?_
          rintro e w' ⟨rfl, rfl⟩
          rw [HV2.out]
          simp only [valOr]
          go_wp2
          go_loopw [9, 12] (fun v kk wq => ∃ t : Nat, t ≤ 6 ∧ kk = .int .i64 ((5 : Int) - (t : Int)) ∧ Hid (OwnI wq w.heap.size v (allBits 6 vs ++ (bitsOf 6 n).take t)) ∧ Hid (Below w.heap.size w wq)) (fun _ kk _ => (intOf kk + 1).toNat)
          case atStart => exact ⟨0, Nat.zero_le _, rfl, by rw [List.take_zero, List.append_nil]; exact HO, HB⟩
          case round =>
            obtain ⟨t, ht, rfl, HO2, HB2⟩ := hrel
            have hs2 := HB2.out.size
            by_cases htl : t < 6
            · have HTS : Hid ((bitsOf 6 n).take (t + 1) = (bitsOf 6 n).take t ++ [n / 2 ^ (6 - 1 - t) % 2]) := bits_take_succ 6 n t htl
              have HTL : Hid ((allBits 6 vs ++ (bitsOf 6 n).take t).length ≤ 6 * k + 6) := by have := HBL.out; show _ ≤ _; rw [List.length_append, List.length_take]; omega
              generalize hls : (bitsOf 6 n).take t = ls at *
              clear hls
              rcases (show t = 0 ∨ t = 1 ∨ t = 2 ∨ t = 3 ∨ t = 4 ∨ t = 5 by omega) with rfl | rfl | rfl | rfl | rfl | rfl
              · have hqd : (n / 32) % 2 < 2 := Nat.mod_lt _ (by decide)
                have hqq : ((n : Int) / 2 ^ min (IntKind.u64.wrap 5).toNat 64).tmod 2 = ((n / 32 % 2 : Nat) : Int) := by
                  show ((n : Int) / 32).tmod 2 = _
                  rw [Int.tmod_eq_emod_of_nonneg (by omega)]; omega
                have HTS2 : Hid ((bitsOf 6 n).take (0 + 1) = ls ++ [n / 32 % 2]) := HTS.out
                have HQ : Hid ((n : Int) / 32 % 2 = ((n / 32 % 2 : Nat) : Int)) := by show _ = _; omega
                clear HTS
                generalize n / 32 % 2 = q at *
                go_wp2_with (first | (at_builtin; refine wpList_append_int rfl _ _ rfl w.heap.size _ (allBits 6 vs ++ ls) rfl (HO2.out.alloc _) ⟨wr.heap.size, 0, none⟩ 1 q rfl (by simp <;> first | exact HQ.out | simpa using HQ.out) (by have := HTL.out; omega) (by simp; omega) ?_) | fail)
                rintro v3 w3 hown3 hgr3
                have HB3 : Hid (Below w.heap.size w w3) := (HB2.out.alloc hs2 _).grown hgr3 (by simp; omega) HO2.out.ge
                have HO3 : Hid (OwnI w3 w.heap.size v3 (allBits 6 vs ++ (bitsOf 6 n).take (0 + 1))) := by rw [HTS2.out]; exact hown3
                clear hown3 hgr3
                go_wp2
                go_roundw
                case rel => exact ⟨0 + 1, by omega, by go_num, HO3, HB3⟩
                case measure => simp [intOf]
              · have hqd : (n / 16) % 2 < 2 := Nat.mod_lt _ (by decide)
                have hqq : ((n : Int) / 2 ^ min (IntKind.u64.wrap 4).toNat 64).tmod 2 = ((n / 16 % 2 : Nat) : Int) := by
                  show ((n : Int) / 16).tmod 2 = _
                  rw [Int.tmod_eq_emod_of_nonneg (by omega)]; omega
                have HTS2 : Hid ((bitsOf 6 n).take (1 + 1) = ls ++ [n / 16 % 2]) := HTS.out
                have HQ : Hid ((n : Int) / 16 % 2 = ((n / 16 % 2 : Nat) : Int)) := by show _ = _; omega
                clear HTS
                generalize n / 16 % 2 = q at *
                go_wp2_with (first | (at_builtin; refine wpList_append_int rfl _ _ rfl w.heap.size _ (allBits 6 vs ++ ls) rfl (HO2.out.alloc _) ⟨wr.heap.size, 0, none⟩ 1 q rfl (by simp <;> first | exact HQ.out | simpa using HQ.out) (by have := HTL.out; omega) (by simp; omega) ?_) | fail)
                rintro v3 w3 hown3 hgr3
                have HB3 : Hid (Below w.heap.size w w3) := (HB2.out.alloc hs2 _).grown hgr3 (by simp; omega) HO2.out.ge
                have HO3 : Hid (OwnI w3 w.heap.size v3 (allBits 6 vs ++ (bitsOf 6 n).take (1 + 1))) := by rw [HTS2.out]; exact hown3
                clear hown3 hgr3
                go_wp2
                go_roundw
                case rel => exact ⟨1 + 1, by omega, by go_num, HO3, HB3⟩
                case measure => simp [intOf]
              · have hqd : (n / 8) % 2 < 2 := Nat.mod_lt _ (by decide)
                have hqq : ((n : Int) / 2 ^ min (IntKind.u64.wrap 3).toNat 64).tmod 2 = ((n / 8 % 2 : Nat) : Int) := by
                  show ((n : Int) / 8).tmod 2 = _
                  rw [Int.tmod_eq_emod_of_nonneg (by omega)]; omega
                have HTS2 : Hid ((bitsOf 6 n).take (2 + 1) = ls ++ [n / 8 % 2]) := HTS.out
                have HQ : Hid ((n : Int) / 8 % 2 = ((n / 8 % 2 : Nat) : Int)) := by show _ = _; omega
                clear HTS
                generalize n / 8 % 2 = q at *
                go_wp2_with (first | (at_builtin; refine wpList_append_int rfl _ _ rfl w.heap.size _ (allBits 6 vs ++ ls) rfl (HO2.out.alloc _) ⟨wr.heap.size, 0, none⟩ 1 q rfl (by simp <;> first | exact HQ.out | simpa using HQ.out) (by have := HTL.out; omega) (by simp; omega) ?_) | fail)
                rintro v3 w3 hown3 hgr3
                have HB3 : Hid (Below w.heap.size w w3) := (HB2.out.alloc hs2 _).grown hgr3 (by simp; omega) HO2.out.ge
                have HO3 : Hid (OwnI w3 w.heap.size v3 (allBits 6 vs ++ (bitsOf 6 n).take (2 + 1))) := by rw [HTS2.out]; exact hown3
                clear hown3 hgr3
                go_wp2
                go_roundw
                case rel => exact ⟨2 + 1, by omega, by go_num, HO3, HB3⟩
                case measure => simp [intOf]
              · have hqd : (n / 4) % 2 < 2 := Nat.mod_lt _ (by decide)
                have hqq : ((n : Int) / 2 ^ min (IntKind.u64.wrap 2).toNat 64).tmod 2 = ((n / 4 % 2 : Nat) : Int) := by
                  show ((n : Int) / 4).tmod 2 = _
                  rw [Int.tmod_eq_emod_of_nonneg (by omega)]; omega
                have HTS2 : Hid ((bitsOf 6 n).take (3 + 1) = ls ++ [n / 4 % 2]) := HTS.out
                have HQ : Hid ((n : Int) / 4 % 2 = ((n / 4 % 2 : Nat) : Int)) := by show _ = _; omega
                clear HTS
                generalize n / 4 % 2 = q at *
                go_wp2_with (first | (at_builtin; refine wpList_append_int rfl _ _ rfl w.heap.size _ (allBits 6 vs ++ ls) rfl (HO2.out.alloc _) ⟨wr.heap.size, 0, none⟩ 1 q rfl (by simp <;> first | exact HQ.out | simpa using HQ.out) (by have := HTL.out; omega) (by simp; omega) ?_) | fail)
                rintro v3 w3 hown3 hgr3
                have HB3 : Hid (Below w.heap.size w w3) := (HB2.out.alloc hs2 _).grown hgr3 (by simp; omega) HO2.out.ge
                have HO3 : Hid (OwnI w3 w.heap.size v3 (allBits 6 vs ++ (bitsOf 6 n).take (3 + 1))) := by rw [HTS2.out]; exact hown3
                clear hown3 hgr3
                go_wp2
                go_roundw
                case rel => exact ⟨3 + 1, by omega, by go_num, HO3, HB3⟩
                case measure => simp [intOf]
              · have hqd : (n / 2) % 2 < 2 := Nat.mod_lt _ (by decide)
                have hqq : ((n : Int) / 2 ^ min (IntKind.u64.wrap 1).toNat 64).tmod 2 = ((n / 2 % 2 : Nat) : Int) := by
                  show ((n : Int) / 2).tmod 2 = _
                  rw [Int.tmod_eq_emod_of_nonneg (by omega)]; omega
                have HTS2 : Hid ((bitsOf 6 n).take (4 + 1) = ls ++ [n / 2 % 2]) := HTS.out
                have HQ : Hid ((n : Int) / 2 % 2 = ((n / 2 % 2 : Nat) : Int)) := by show _ = _; omega
                clear HTS
                generalize n / 2 % 2 = q at *
                go_wp2_with (first | (at_builtin; refine wpList_append_int rfl _ _ rfl w.heap.size _ (allBits 6 vs ++ ls) rfl (HO2.out.alloc _) ⟨wr.heap.size, 0, none⟩ 1 q rfl (by simp <;> first | exact HQ.out | simpa using HQ.out) (by have := HTL.out; omega) (by simp; omega) ?_) | fail)
                rintro v3 w3 hown3 hgr3
                have HB3 : Hid (Below w.heap.size w w3) := (HB2.out.alloc hs2 _).grown hgr3 (by simp; omega) HO2.out.ge
                have HO3 : Hid (OwnI w3 w.heap.size v3 (allBits 6 vs ++ (bitsOf 6 n).take (4 + 1))) := by rw [HTS2.out]; exact hown3
                clear hown3 hgr3
                go_wp2
                go_roundw
                case rel => exact ⟨4 + 1, by omega, by go_num, HO3, HB3⟩
                case measure => simp [intOf]
              · have hqd : (n / 1) % 2 < 2 := Nat.mod_lt _ (by decide)
                have hqq : ((n : Int) / 2 ^ min (IntKind.u64.wrap 0).toNat 64).tmod 2 = ((n / 1 % 2 : Nat) : Int) := by
                  show ((n : Int) / 1).tmod 2 = _
                  rw [Int.tmod_eq_emod_of_nonneg (by omega)]; omega
                have HTS2 : Hid ((bitsOf 6 n).take (5 + 1) = ls ++ [n / 1 % 2]) := HTS.out
                have HQ : Hid ((n : Int) / 1 % 2 = ((n / 1 % 2 : Nat) : Int)) := by show _ = _; omega
                clear HTS
                generalize n / 1 % 2 = q at *
                go_wp2_with (first | (at_builtin; refine wpList_append_int rfl _ _ rfl w.heap.size _ (allBits 6 vs ++ ls) rfl (HO2.out.alloc _) ⟨wr.heap.size, 0, none⟩ 1 q rfl (by simp <;> first | exact HQ.out | simpa using HQ.out) (by have := HTL.out; omega) (by simp; omega) ?_) | fail)
                rintro v3 w3 hown3 hgr3
                have HB3 : Hid (Below w.heap.size w w3) := (HB2.out.alloc hs2 _).grown hgr3 (by simp; omega) HO2.out.ge
                have HO3 : Hid (OwnI w3 w.heap.size v3 (allBits 6 vs ++ (bitsOf 6 n).take (5 + 1))) := by rw [HTS2.out]; exact hown3
                clear hown3 hgr3
                go_wp2
                go_roundw
                case rel => exact ⟨5 + 1, by omega, by go_num, HO3, HB3⟩
                case measure => simp [intOf]
            · obtain rfl : t = 6 := by omega
              rw [bits_take_all] at HO2
              go_wp2
              go_roundw
              case rel => exact ⟨k + 1, by omega, by go_num, HVN, HLN, by rw [HST.out, allBits_snoc]; exact HO2, HB2⟩
              case measure => simp [intOf]; omega
      · have HT : Hid ((sbytes s).take k = sbytes s) := by show _ = _; rw [List.take_of_length_le (by rw [HZ.out]; omega)]
        have HBN : Hid (badAt (sbytes s) = none) := badAt_none (fun j hj => HV.out j (by rw [HZ.out] at hj; omega))
        obtain rfl : k = s.size := by omega
        have hdk : decide ((s.size : Int) < (s.size : Int)) = false := decide_eq_false (by omega)
        by_cases h4 : s.size % 4 = 1
        · obtain rfl : F = ([], 3, s.size) := by
            have h4' : (sbytes s).length % 4 = 1 := by rw [HZ.out]; exact h4
            rw [← HFE.out]; unfold fb64; rw [if_neg HNB.out, HBN.out]; simp only; rw [if_pos h4', HZ.out]
          have h4i : ((s.size : Int) % 4 == 1) = true := by rw [beq_iff_eq]; omega
          go_wp2
          go_ret3
          exact ⟨none, 0, 0, rfl, rfl, Nat.le_refl _, own_nil _ _, HB.out⟩
        · have h4i : ((s.size : Int) % 4 == 1) = false := by rw [beq_eq_false_iff_ne]; omega
          have HFR := hide (fb64_ref HNB.out HBN.out (show ¬ (sbytes s).length % 4 = 1 by rw [HZ.out]; exact h4))
          rw [HFE.out, HZ.out] at HFR
          have HBB : Hid (∀ x ∈ allBits 6 (vals (sbytes s)), x < 2) := allBits_lt _ _
          have HBL : Hid ((allBits 6 (vals (sbytes s))).length ≤ 6 * s.size) := by
            rw [allBits_length]; exact Nat.mul_le_mul_left _ (by rw [← HZ.out]; exact List.length_filterMap_le _ _)
          have HBM : Hid (s.size = 0 → (allBits 6 (vals (sbytes s))).length = 0) := fun h => by have := HBL.out; omega
          rw [HT.out] at HO
          generalize allBits 6 (vals (sbytes s)) = bs at *
          obtain ⟨bo, bc, rfl, hcell⟩ := HO.out.read
          have HCE : Hid (0 < bs.length → ∃ g, bo = some ⟨g, 0, none⟩ ∧ ∀ i, i < bs.length → wr.cell? ⟨g, i, none⟩ = some (.int .i64 ((bs.getD i 0 : Nat) : Int))) := hcell
          clear hcell HO HV HLK HT HBN
          obtain ⟨nb, hnb⟩ : ∃ nb, nb = bs.length := ⟨_, rfl⟩
          have HNb : Hid (nb = bs.length) := hnb
          have hnl : nb ≤ 524288 := by have := HBL.out; omega
          have hn0 : s.size = 0 → nb = 0 := fun h => by have := HBM.out h; omega
          rw [← hnb] at HCE ⊢
          clear hnb HBL HBM
          obtain ⟨wz, hwz⟩ : ∃ x : World, x = wr := ⟨_, rfl⟩
          subst hwz
          go_wp2
          go_loopw [13, 14] (fun v i wq => ∃ j : Nat, 8 * j ≤ nb ∧ i = .int .i64 ((8 * j : Nat) : Int) ∧ Hid (Own wq wz.heap.size v ((octs bs).take j)) ∧ Hid (Below wz.heap.size wz wq)) (fun _ i _ => nb + 1 - (intOf i).toNat)
          case atStart => exact ⟨0, Nat.zero_le _, rfl, own_nil _ _, Below.refl _ _⟩
          case round =>
            obtain ⟨j, hj, rfl, HO2, HB2⟩ := hrel
            have hs2 := HB2.out.size
            obtain ⟨i0, hi0⟩ : ∃ i0, i0 = 8 * j := ⟨_, rfl⟩
            have HI0 : Hid (i0 = 8 * j) := hi0
            rw [← hi0] at hj ⊢
            clear hi0
            by_cases hlt8 : i0 + 8 ≤ nb
            · obtain ⟨g, rfl, hc⟩ := HCE.out (by omega)
              have HC : Hid (∀ i, i < nb → wr.cell? ⟨g, i, none⟩ = some (.int .i64 ((bs.getD i 0 : Nat) : Int))) := fun i hi => cell_kept (hc i hi) HB2.out
              have hde : decide ((i0 : Int) + 8 ≤ (nb : Int)) = true := decide_eq_true (by omega)
              clear hc
              go_wp2
              go_loopw [15, 16] (fun m c wq => ∃ t : Nat, t ≤ 8 ∧ c = .int .i64 (t : Int) ∧ m = .int .i64 ((eightN bs i0 t : Nat) : Int) ∧ wq = wr) (fun _ c _ => 8 - (intOf c).toNat)
              case atStart => exact ⟨0, Nat.zero_le _, rfl, rfl, rfl⟩
              case round =>
                obtain ⟨t, ht, rfl, rfl, rfl⟩ := hrel
                have hel := eightN_lt bs HBB.out i0 t ht
                by_cases ht8 : t < 8
                · have HES : Hid (eightN bs i0 (t + 1) = 2 * eightN bs i0 t + bs.getD (i0 + t) 0) := rfl
                  have hbl := getD_lt_of HBB.out (by decide) (i0 + t)
                  have c0 := HC.out (i0 + t) (by omega)
                  generalize eightN bs i0 t = en at *
                  generalize bs.getD (i0 + t) 0 = bt at *
                  go_wp2
                  go_roundw
                  case rel => exact ⟨t + 1, by omega, by go_num, by rw [HES.out]; go_num, by first | trivial | rfl⟩
                  case measure => simp [intOf]; omega
                · obtain rfl : t = 8 := by omega
                  have HOS : Hid ((octs bs).take (j + 1) = (octs bs).take j ++ [eightN bs i0 8]) := by show _ = _; rw [eightN_eight, HI0.out]; exact octs_take_succ bs j (by have := HI0.out; rw [← HNb.out]; omega)
                  have HOL : Hid (((octs bs).take j).length ≤ j) := List.length_take_le _ _
                  have hj2 : j ≤ nb := by have := HI0.out; omega
                  generalize eightN bs i0 8 = en at *
                  go_wp2_with (first | (at_builtin; refine wpList_append_bytes rfl _ _ rfl _ _ ((octs bs).take j) rfl (HO2.out.alloc _) (some ⟨wr.heap.size, 0, none⟩) 1 1 [en] rfl rfl (row_one _ _) (by have := HOL.out; simp; omega) (by simp; omega) ?_) | fail)
                  rintro v3 w3 hown3 hgr3
                  have HB3 : Hid (Below wz.heap.size wz w3) := (HB2.out.alloc hs2 _).grown hgr3 (by simp; omega) HO2.out.ge
                  have HO3 : Hid (Own w3 wz.heap.size v3 ((octs bs).take (j + 1))) := by rw [HOS.out]; exact hown3
                  clear hown3 hgr3
                  go_wp2
                  go_roundw
                  case rel => exact ⟨j + 1, by have := HI0.out; omega, by have := HI0.out; simp only [Value.int.injEq, true_and]; omega, HO3, HB3⟩
                  case measure => have := HI0.out; simp [intOf]; omega
            · have hde : decide ((i0 : Int) + 8 ≤ (nb : Int)) = false := decide_eq_false (by omega)
              obtain ⟨q, hq⟩ : ∃ q, q = nb / 8 := ⟨_, rfl⟩
              have HOQ : Hid ((octs bs).length = q) := by show _ = _; rw [hq, HNb.out]; simp [octs]
              have HTJ : Hid ((octs bs).take j = octs bs) := List.take_of_length_le (by rw [HOQ.out, hq]; have := HI0.out; omega)
              have HQ8 : Hid (q = nb / 8) := hq
              have hqn : 8 * q ≤ nb := by omega
              have hq0 : 0 < nb → ¬ s.size = 0 := fun h h0 => by have := hn0 h0; omega
              clear hq
              rw [HTJ.out] at HO2
              have HB4 : Hid (Below w.heap.size w wr) := HB.out.trans (HB2.out.mono hs)
              obtain ⟨po, pc, hpv, hpc, _⟩ := HO2.out.read
              rw [HOQ.out] at hpv hpc
              subst hpv
              have HCW : Hid (∀ i, i < nb → ∃ g, bo = some ⟨g, 0, none⟩ ∧ wr.cell? ⟨g, i, none⟩ = some (.int .i64 ((bs.getD i 0 : Nat) : Int))) := fun i hi => by
                obtain ⟨g, e, hc⟩ := HCE.out (by omega)
                exact ⟨g, e, cell_kept (hc i hi) HB2.out⟩
              clear HCE
              go_wp2
              go_loopw [17] (fun i wq => ∃ m : Nat, 8 * q ≤ m ∧ m ≤ nb ∧ i = .int .i64 (m : Int) ∧ Hid (∀ t, 8 * q ≤ t → t < m → bs.getD t 0 = 0) ∧ wq = wr) (fun i _ => nb + 1 - (intOf i).toNat)
              case atStart => exact ⟨8 * q, Nat.le_refl _, hqn, by go_num, fun t h1 h2 => by omega, rfl⟩
              case round =>
                obtain ⟨m, hm8, hmn, rfl, HM, rfl⟩ := hrel
                by_cases hml : m < nb
                · obtain ⟨g, rfl, c0⟩ := HCW.out m hml
                  by_cases hz : bs.getD m 0 = 0
                  · have HMN : Hid (∀ t, 8 * q ≤ t → t < m + 1 → bs.getD t 0 = 0) := fun t h1 h2 => by
                      by_cases htm : t < m
                      · exact HM.out t h1 htm
                      · rw [show t = m by omega]; exact hz
                    rw [hz] at c0
                    clear hz
                    go_wp2
                    go_roundw
                    case rel => exact ⟨m + 1, by omega, by omega, by go_num, HMN, by first | trivial | rfl⟩
                    case measure => simp [intOf]; omega
                  · have hnz : Hid (¬ restZero bs) := fun h => hz (h m (by rw [← HNb.out]; have := HQ8.out; omega) (by rw [← HNb.out]; exact hml))
                    obtain rfl : F = ([], 21, s.size - 1) := HFR.out.2 hnz.out
                    generalize bs.getD m 0 = bm at *
                    have hzi : ((bm : Int) != 0) = true := by rw [bne_iff_ne]; omega
                    have hzj : ((bm : Int) == 0) = false := by rw [beq_eq_false_iff_ne]; omega
                    have hs0 := hq0 (by omega)
                    go_wp2
                    go_ret3
                    exact ⟨none, 0, 0, by simp; omega, rfl, Nat.le_refl _, own_nil _ _, HB4.out⟩
                · have hz : Hid (restZero bs) := fun t h1 h2 => HM.out t (by rw [← HNb.out] at h1; have := HQ8.out; omega) (by rw [← HNb.out] at h2; omega)
                  obtain rfl : F = (octs bs, 0, 0) := HFR.out.1 hz.out
                  go_wp2
                  go_ret3
                  exact ⟨po, q, pc, rfl, HOQ.out.symm, hpc, HO2.out.lower hs, HB4.out⟩

set_option maxHeartbeats 4000000 in
set_option maxRecDepth 100000 in
theorem read16_any (s : ByteArray) (w : World) : Calls Tryd.prog 61 #[.string s, .bool true] w fun e w' => ∃ ro rn rc, e = .returned (.tuple #[.slice ro rn rc, .int .i64 (((fhex (sbytes s)).2.1 : Nat) : Int), .int .i64 (((fhex (sbytes s)).2.2 : Nat) : Int)]) ∧ Hid (rn = (fhex (sbytes s)).1.length ∧ rn ≤ rc ∧ Own w' w.heap.size (.slice ro rn rc) (fhex (sbytes s)).1 ∧ Below w.heap.size w w') := by
  have hz : (sbytes s).length = s.size := sbytes_length s
  by_cases hbig : 65536 < s.size
  · have e : fhex (sbytes s) = ([], 1, 0) := by unfold fhex; rw [if_pos (by omega)]
    rw [e]
    go_enter Tryd.func61, Tryd.ntmps61
    go_wp2
    go_ret3
    exact ⟨none, 0, 0, rfl, rfl, Nat.le_refl _, own_nil _ _, Below.refl _ _⟩
  · have HZ : Hid ((sbytes s).length = s.size) := hz
    have HNB : Hid (¬ 65536 < (sbytes s).length) := by show ¬ _; omega
    have HSB : Hid (∀ x ∈ sbytes s, x < 256) := sbytes_lt s
    clear hz
    generalize hFe : fhex (sbytes s) = F
    have HFE : Hid (fhex (sbytes s) = F) := hFe
    clear hFe
    have hdb : decide (65536 < (s.size : Int)) = false := decide_eq_false (by omega)
    go_enter Tryd.func61, Tryd.ntmps61
    go_wp2
    go_loopw [9, 10] (fun v i wr => ∃ k : Nat, k ≤ s.size ∧ i = .int .i64 (k : Int) ∧ Hid (∀ j, j < k → (val16 ((sbytes s).getD j 0)).isSome = true) ∧ Hid ((vals16 ((sbytes s).take k)).length ≤ k) ∧ Hid (OwnI wr w.heap.size v (allBits 4 (vals16 ((sbytes s).take k)))) ∧ Hid (Below w.heap.size w wr)) (fun _ i _ => s.size - (intOf i).toNat)
    case atStart => exact ⟨0, Nat.zero_le _, rfl, fun j hj => by omega, Nat.le_refl _, ownI_nil _ _, Below.refl _ _⟩
    case round =>
      obtain ⟨k, hk, rfl, HV, HLK, HO, HB⟩ := hrel
      have hs := HB.out.size
      by_cases hlt : k < s.size
      · have hix := str_index s k hlt
        have hck := lt_get HSB.out k
        have HTK : Hid ((sbytes s).take (k + 1) = (sbytes s).take k ++ [(sbytes s).getD k 0]) := take_getD (by rw [HZ.out]; exact hlt)
        have hdt : decide ((k : Int) < (s.size : Int)) = true := decide_eq_true (by omega)
        cases hv : val16 ((sbytes s).getD k 0) with
        | none =>
          have HF : Hid (fhex (sbytes s) = ([], 20, k)) := by show _ = _; unfold fhex; rw [if_neg HNB.out, badAt16_some (by rw [HZ.out]; exact hlt) HV.out hv]
          have HV2 : Hid (val16 ((sbytes s).getD k 0) = none) := hv
          obtain rfl : F = ([], 20, k) := HFE.out.symm.trans HF.out
          clear hv
          go_wp2_with fail
          refine (value_hex ((sbytes s).getD k 0) wr).mono ?_
          rintro e w' ⟨rfl, rfl⟩
          rw [HV2.out]
          simp only [valOr]
          go_wp2
          go_ret3
          exact ⟨none, 0, 0, rfl, rfl, Nat.le_refl _, own_nil _ _, HB.out⟩
        | some n =>
          have hn64 := val16_lt hv
          have HST : Hid (vals16 ((sbytes s).take (k + 1)) = vals16 ((sbytes s).take k) ++ [n]) := by show _ = _; rw [HTK.out, vals16_snoc hv]
          have HV2 : Hid (val16 ((sbytes s).getD k 0) = some n) := hv
          have HVN : Hid (∀ j, j < k + 1 → (val16 ((sbytes s).getD j 0)).isSome = true) := fun j hj => by
            by_cases hjk : j < k
            · exact HV.out j hjk
            · rw [show j = k by omega, HV2.out]; rfl
          have HLN : Hid ((vals16 ((sbytes s).take (k + 1))).length ≤ k + 1) := by have := HLK.out; show _ ≤ _; rw [HST.out, List.length_append]; simp; omega
          clear hv
          generalize hvs : vals16 ((sbytes s).take k) = vs at *
          clear hvs
          have HBL : Hid ((allBits 4 vs).length ≤ 4 * k) := by rw [allBits_length]; exact Nat.mul_le_mul_left _ HLK.out
          have hnn : decide ((n : Int) < 0) = false := decide_eq_false (by omega)
          go_wp2_with fail
          refine (value_hex ((sbytes s).getD k 0) wr).mono ?_
          rintro e w' ⟨rfl, rfl⟩
          rw [HV2.out]
          simp only [valOr]
          go_wp2
          go_loopw [9, 12] (fun v kk wq => ∃ t : Nat, t ≤ 4 ∧ kk = .int .i64 ((3 : Int) - (t : Int)) ∧ Hid (OwnI wq w.heap.size v (allBits 4 vs ++ (bitsOf 4 n).take t)) ∧ Hid (Below w.heap.size w wq)) (fun _ kk _ => (intOf kk + 1).toNat)
          case atStart => exact ⟨0, Nat.zero_le _, rfl, by rw [List.take_zero, List.append_nil]; exact HO, HB⟩
          case round =>
            obtain ⟨t, ht, rfl, HO2, HB2⟩ := hrel
            have hs2 := HB2.out.size
            by_cases htl : t < 4
            · have HTS : Hid ((bitsOf 4 n).take (t + 1) = (bitsOf 4 n).take t ++ [n / 2 ^ (4 - 1 - t) % 2]) := bits_take_succ 4 n t htl
              have HTL : Hid ((allBits 4 vs ++ (bitsOf 4 n).take t).length ≤ 4 * k + 4) := by have := HBL.out; show _ ≤ _; rw [List.length_append, List.length_take]; omega
              generalize hls : (bitsOf 4 n).take t = ls at *
              clear hls
              rcases (show t = 0 ∨ t = 1 ∨ t = 2 ∨ t = 3 by omega) with rfl | rfl | rfl | rfl
              · have hqd : (n / 8) % 2 < 2 := Nat.mod_lt _ (by decide)
                have hqq : ((n : Int) / 2 ^ min (IntKind.u64.wrap 3).toNat 64).tmod 2 = ((n / 8 % 2 : Nat) : Int) := by
                  show ((n : Int) / 8).tmod 2 = _
                  rw [Int.tmod_eq_emod_of_nonneg (by omega)]; omega
                have HTS2 : Hid ((bitsOf 4 n).take (0 + 1) = ls ++ [n / 8 % 2]) := HTS.out
                have HQ : Hid ((n : Int) / 8 % 2 = ((n / 8 % 2 : Nat) : Int)) := by show _ = _; omega
                clear HTS
                generalize n / 8 % 2 = q at *
                go_wp2_with (first | (at_builtin; refine wpList_append_int rfl _ _ rfl w.heap.size _ (allBits 4 vs ++ ls) rfl (HO2.out.alloc _) ⟨wr.heap.size, 0, none⟩ 1 q rfl (by simp <;> first | exact HQ.out | simpa using HQ.out) (by have := HTL.out; omega) (by simp; omega) ?_) | fail)
                rintro v3 w3 hown3 hgr3
                have HB3 : Hid (Below w.heap.size w w3) := (HB2.out.alloc hs2 _).grown hgr3 (by simp; omega) HO2.out.ge
                have HO3 : Hid (OwnI w3 w.heap.size v3 (allBits 4 vs ++ (bitsOf 4 n).take (0 + 1))) := by rw [HTS2.out]; exact hown3
                clear hown3 hgr3
                go_wp2
                go_roundw
                case rel => exact ⟨0 + 1, by omega, by go_num, HO3, HB3⟩
                case measure => simp [intOf]
              · have hqd : (n / 4) % 2 < 2 := Nat.mod_lt _ (by decide)
                have hqq : ((n : Int) / 2 ^ min (IntKind.u64.wrap 2).toNat 64).tmod 2 = ((n / 4 % 2 : Nat) : Int) := by
                  show ((n : Int) / 4).tmod 2 = _
                  rw [Int.tmod_eq_emod_of_nonneg (by omega)]; omega
                have HTS2 : Hid ((bitsOf 4 n).take (1 + 1) = ls ++ [n / 4 % 2]) := HTS.out
                have HQ : Hid ((n : Int) / 4 % 2 = ((n / 4 % 2 : Nat) : Int)) := by show _ = _; omega
                clear HTS
                generalize n / 4 % 2 = q at *
                go_wp2_with (first | (at_builtin; refine wpList_append_int rfl _ _ rfl w.heap.size _ (allBits 4 vs ++ ls) rfl (HO2.out.alloc _) ⟨wr.heap.size, 0, none⟩ 1 q rfl (by simp <;> first | exact HQ.out | simpa using HQ.out) (by have := HTL.out; omega) (by simp; omega) ?_) | fail)
                rintro v3 w3 hown3 hgr3
                have HB3 : Hid (Below w.heap.size w w3) := (HB2.out.alloc hs2 _).grown hgr3 (by simp; omega) HO2.out.ge
                have HO3 : Hid (OwnI w3 w.heap.size v3 (allBits 4 vs ++ (bitsOf 4 n).take (1 + 1))) := by rw [HTS2.out]; exact hown3
                clear hown3 hgr3
                go_wp2
                go_roundw
                case rel => exact ⟨1 + 1, by omega, by go_num, HO3, HB3⟩
                case measure => simp [intOf]
              · have hqd : (n / 2) % 2 < 2 := Nat.mod_lt _ (by decide)
                have hqq : ((n : Int) / 2 ^ min (IntKind.u64.wrap 1).toNat 64).tmod 2 = ((n / 2 % 2 : Nat) : Int) := by
                  show ((n : Int) / 2).tmod 2 = _
                  rw [Int.tmod_eq_emod_of_nonneg (by omega)]; omega
                have HTS2 : Hid ((bitsOf 4 n).take (2 + 1) = ls ++ [n / 2 % 2]) := HTS.out
                have HQ : Hid ((n : Int) / 2 % 2 = ((n / 2 % 2 : Nat) : Int)) := by show _ = _; omega
                clear HTS
                generalize n / 2 % 2 = q at *
                go_wp2_with (first | (at_builtin; refine wpList_append_int rfl _ _ rfl w.heap.size _ (allBits 4 vs ++ ls) rfl (HO2.out.alloc _) ⟨wr.heap.size, 0, none⟩ 1 q rfl (by simp <;> first | exact HQ.out | simpa using HQ.out) (by have := HTL.out; omega) (by simp; omega) ?_) | fail)
                rintro v3 w3 hown3 hgr3
                have HB3 : Hid (Below w.heap.size w w3) := (HB2.out.alloc hs2 _).grown hgr3 (by simp; omega) HO2.out.ge
                have HO3 : Hid (OwnI w3 w.heap.size v3 (allBits 4 vs ++ (bitsOf 4 n).take (2 + 1))) := by rw [HTS2.out]; exact hown3
                clear hown3 hgr3
                go_wp2
                go_roundw
                case rel => exact ⟨2 + 1, by omega, by go_num, HO3, HB3⟩
                case measure => simp [intOf]
              · have hqd : (n / 1) % 2 < 2 := Nat.mod_lt _ (by decide)
                have hqq : ((n : Int) / 2 ^ min (IntKind.u64.wrap 0).toNat 64).tmod 2 = ((n / 1 % 2 : Nat) : Int) := by
                  show ((n : Int) / 1).tmod 2 = _
                  rw [Int.tmod_eq_emod_of_nonneg (by omega)]; omega
                have HTS2 : Hid ((bitsOf 4 n).take (3 + 1) = ls ++ [n / 1 % 2]) := HTS.out
                have HQ : Hid ((n : Int) / 1 % 2 = ((n / 1 % 2 : Nat) : Int)) := by show _ = _; omega
                clear HTS
                generalize n / 1 % 2 = q at *
                go_wp2_with (first | (at_builtin; refine wpList_append_int rfl _ _ rfl w.heap.size _ (allBits 4 vs ++ ls) rfl (HO2.out.alloc _) ⟨wr.heap.size, 0, none⟩ 1 q rfl (by simp <;> first | exact HQ.out | simpa using HQ.out) (by have := HTL.out; omega) (by simp; omega) ?_) | fail)
                rintro v3 w3 hown3 hgr3
                have HB3 : Hid (Below w.heap.size w w3) := (HB2.out.alloc hs2 _).grown hgr3 (by simp; omega) HO2.out.ge
                have HO3 : Hid (OwnI w3 w.heap.size v3 (allBits 4 vs ++ (bitsOf 4 n).take (3 + 1))) := by rw [HTS2.out]; exact hown3
                clear hown3 hgr3
                go_wp2
                go_roundw
                case rel => exact ⟨3 + 1, by omega, by go_num, HO3, HB3⟩
                case measure => simp [intOf]
            · obtain rfl : t = 4 := by omega
              rw [bits_take_all] at HO2
              go_wp2
              go_roundw
              case rel => exact ⟨k + 1, by omega, by go_num, HVN, HLN, by rw [HST.out, allBits_snoc]; exact HO2, HB2⟩
              case measure => simp [intOf]; omega
      · have HT : Hid ((sbytes s).take k = sbytes s) := by show _ = _; rw [List.take_of_length_le (by rw [HZ.out]; omega)]
        have HBN : Hid (badAt16 (sbytes s) = none) := badAt16_none (fun j hj => HV.out j (by rw [HZ.out] at hj; omega))
        obtain rfl : k = s.size := by omega
        have hdk : decide ((s.size : Int) < (s.size : Int)) = false := decide_eq_false (by omega)
        by_cases h4 : s.size % 2 = 1
        · obtain rfl : F = ([], 3, s.size) := by
            have h4' : (sbytes s).length % 2 = 1 := by rw [HZ.out]; exact h4
            rw [← HFE.out]; unfold fhex; rw [if_neg HNB.out, HBN.out]; simp only; rw [if_pos h4', HZ.out]
          have h4i : ((s.size : Int) % 2 == 1) = true := by rw [beq_iff_eq]; omega
          go_wp2
          go_ret3
          exact ⟨none, 0, 0, rfl, rfl, Nat.le_refl _, own_nil _ _, HB.out⟩
        · have h4i : ((s.size : Int) % 2 == 1) = false := by rw [beq_eq_false_iff_ne]; omega
          have HFR := hide (fhex_ref HNB.out HBN.out (show ¬ (sbytes s).length % 2 = 1 by rw [HZ.out]; exact h4))
          rw [HFE.out, HZ.out] at HFR
          have HBB : Hid (∀ x ∈ allBits 4 (vals16 (sbytes s)), x < 2) := allBits_lt _ _
          have HBL : Hid ((allBits 4 (vals16 (sbytes s))).length ≤ 4 * s.size) := by
            rw [allBits_length]; exact Nat.mul_le_mul_left _ (by rw [← HZ.out]; exact List.length_filterMap_le _ _)
          have HBM : Hid (s.size = 0 → (allBits 4 (vals16 (sbytes s))).length = 0) := fun h => by have := HBL.out; omega
          rw [HT.out] at HO
          generalize allBits 4 (vals16 (sbytes s)) = bs at *
          obtain ⟨bo, bc, rfl, hcell⟩ := HO.out.read
          have HCE : Hid (0 < bs.length → ∃ g, bo = some ⟨g, 0, none⟩ ∧ ∀ i, i < bs.length → wr.cell? ⟨g, i, none⟩ = some (.int .i64 ((bs.getD i 0 : Nat) : Int))) := hcell
          clear hcell HO HV HLK HT HBN
          obtain ⟨nb, hnb⟩ : ∃ nb, nb = bs.length := ⟨_, rfl⟩
          have HNb : Hid (nb = bs.length) := hnb
          have hnl : nb ≤ 524288 := by have := HBL.out; omega
          have hn0 : s.size = 0 → nb = 0 := fun h => by have := HBM.out h; omega
          rw [← hnb] at HCE ⊢
          clear hnb HBL HBM
          obtain ⟨wz, hwz⟩ : ∃ x : World, x = wr := ⟨_, rfl⟩
          subst hwz
          go_wp2
          go_loopw [13, 14] (fun v i wq => ∃ j : Nat, 8 * j ≤ nb ∧ i = .int .i64 ((8 * j : Nat) : Int) ∧ Hid (Own wq wz.heap.size v ((octs bs).take j)) ∧ Hid (Below wz.heap.size wz wq)) (fun _ i _ => nb + 1 - (intOf i).toNat)
          case atStart => exact ⟨0, Nat.zero_le _, rfl, own_nil _ _, Below.refl _ _⟩
          case round =>
            obtain ⟨j, hj, rfl, HO2, HB2⟩ := hrel
            have hs2 := HB2.out.size
            obtain ⟨i0, hi0⟩ : ∃ i0, i0 = 8 * j := ⟨_, rfl⟩
            have HI0 : Hid (i0 = 8 * j) := hi0
            rw [← hi0] at hj ⊢
            clear hi0
            by_cases hlt8 : i0 + 8 ≤ nb
            · obtain ⟨g, rfl, hc⟩ := HCE.out (by omega)
              have HC : Hid (∀ i, i < nb → wr.cell? ⟨g, i, none⟩ = some (.int .i64 ((bs.getD i 0 : Nat) : Int))) := fun i hi => cell_kept (hc i hi) HB2.out
              have hde : decide ((i0 : Int) + 8 ≤ (nb : Int)) = true := decide_eq_true (by omega)
              clear hc
              go_wp2
              go_loopw [15, 16] (fun m c wq => ∃ t : Nat, t ≤ 8 ∧ c = .int .i64 (t : Int) ∧ m = .int .i64 ((eightN bs i0 t : Nat) : Int) ∧ wq = wr) (fun _ c _ => 8 - (intOf c).toNat)
              case atStart => exact ⟨0, Nat.zero_le _, rfl, rfl, rfl⟩
              case round =>
                obtain ⟨t, ht, rfl, rfl, rfl⟩ := hrel
                have hel := eightN_lt bs HBB.out i0 t ht
                by_cases ht8 : t < 8
                · have HES : Hid (eightN bs i0 (t + 1) = 2 * eightN bs i0 t + bs.getD (i0 + t) 0) := rfl
                  have hbl := getD_lt_of HBB.out (by decide) (i0 + t)
                  have c0 := HC.out (i0 + t) (by omega)
                  generalize eightN bs i0 t = en at *
                  generalize bs.getD (i0 + t) 0 = bt at *
                  go_wp2
                  go_roundw
                  case rel => exact ⟨t + 1, by omega, by go_num, by rw [HES.out]; go_num, by first | trivial | rfl⟩
                  case measure => simp [intOf]; omega
                · obtain rfl : t = 8 := by omega
                  have HOS : Hid ((octs bs).take (j + 1) = (octs bs).take j ++ [eightN bs i0 8]) := by show _ = _; rw [eightN_eight, HI0.out]; exact octs_take_succ bs j (by have := HI0.out; rw [← HNb.out]; omega)
                  have HOL : Hid (((octs bs).take j).length ≤ j) := List.length_take_le _ _
                  have hj2 : j ≤ nb := by have := HI0.out; omega
                  generalize eightN bs i0 8 = en at *
                  go_wp2_with (first | (at_builtin; refine wpList_append_bytes rfl _ _ rfl _ _ ((octs bs).take j) rfl (HO2.out.alloc _) (some ⟨wr.heap.size, 0, none⟩) 1 1 [en] rfl rfl (row_one _ _) (by have := HOL.out; simp; omega) (by simp; omega) ?_) | fail)
                  rintro v3 w3 hown3 hgr3
                  have HB3 : Hid (Below wz.heap.size wz w3) := (HB2.out.alloc hs2 _).grown hgr3 (by simp; omega) HO2.out.ge
                  have HO3 : Hid (Own w3 wz.heap.size v3 ((octs bs).take (j + 1))) := by rw [HOS.out]; exact hown3
                  clear hown3 hgr3
                  go_wp2
                  go_roundw
                  case rel => exact ⟨j + 1, by have := HI0.out; omega, by have := HI0.out; simp only [Value.int.injEq, true_and]; omega, HO3, HB3⟩
                  case measure => have := HI0.out; simp [intOf]; omega
            · have hde : decide ((i0 : Int) + 8 ≤ (nb : Int)) = false := decide_eq_false (by omega)
              obtain ⟨q, hq⟩ : ∃ q, q = nb / 8 := ⟨_, rfl⟩
              have HOQ : Hid ((octs bs).length = q) := by show _ = _; rw [hq, HNb.out]; simp [octs]
              have HTJ : Hid ((octs bs).take j = octs bs) := List.take_of_length_le (by rw [HOQ.out, hq]; have := HI0.out; omega)
              have HQ8 : Hid (q = nb / 8) := hq
              have hqn : 8 * q ≤ nb := by omega
              have hq0 : 0 < nb → ¬ s.size = 0 := fun h h0 => by have := hn0 h0; omega
              clear hq
              rw [HTJ.out] at HO2
              have HB4 : Hid (Below w.heap.size w wr) := HB.out.trans (HB2.out.mono hs)
              obtain ⟨po, pc, hpv, hpc, _⟩ := HO2.out.read
              rw [HOQ.out] at hpv hpc
              subst hpv
              have HCW : Hid (∀ i, i < nb → ∃ g, bo = some ⟨g, 0, none⟩ ∧ wr.cell? ⟨g, i, none⟩ = some (.int .i64 ((bs.getD i 0 : Nat) : Int))) := fun i hi => by
                obtain ⟨g, e, hc⟩ := HCE.out (by omega)
                exact ⟨g, e, cell_kept (hc i hi) HB2.out⟩
              clear HCE
              go_wp2
              go_loopw [17] (fun i wq => ∃ m : Nat, 8 * q ≤ m ∧ m ≤ nb ∧ i = .int .i64 (m : Int) ∧ Hid (∀ t, 8 * q ≤ t → t < m → bs.getD t 0 = 0) ∧ wq = wr) (fun i _ => nb + 1 - (intOf i).toNat)
              case atStart => exact ⟨8 * q, Nat.le_refl _, hqn, by go_num, fun t h1 h2 => by omega, rfl⟩
              case round =>
                obtain ⟨m, hm8, hmn, rfl, HM, rfl⟩ := hrel
                by_cases hml : m < nb
                · obtain ⟨g, rfl, c0⟩ := HCW.out m hml
                  by_cases hz : bs.getD m 0 = 0
                  · have HMN : Hid (∀ t, 8 * q ≤ t → t < m + 1 → bs.getD t 0 = 0) := fun t h1 h2 => by
                      by_cases htm : t < m
                      · exact HM.out t h1 htm
                      · rw [show t = m by omega]; exact hz
                    rw [hz] at c0
                    clear hz
                    go_wp2
                    go_roundw
                    case rel => exact ⟨m + 1, by omega, by omega, by go_num, HMN, by first | trivial | rfl⟩
                    case measure => simp [intOf]; omega
                  · have hnz : Hid (¬ restZero bs) := fun h => hz (h m (by rw [← HNb.out]; have := HQ8.out; omega) (by rw [← HNb.out]; exact hml))
                    obtain rfl : F = ([], 21, s.size - 1) := HFR.out.2 hnz.out
                    generalize bs.getD m 0 = bm at *
                    have hzi : ((bm : Int) != 0) = true := by rw [bne_iff_ne]; omega
                    have hzj : ((bm : Int) == 0) = false := by rw [beq_eq_false_iff_ne]; omega
                    have hs0 := hq0 (by omega)
                    go_wp2
                    go_ret3
                    exact ⟨none, 0, 0, by simp; omega, rfl, Nat.le_refl _, own_nil _ _, HB4.out⟩
                · have hz : Hid (restZero bs) := fun t h1 h2 => HM.out t (by rw [← HNb.out] at h1; have := HQ8.out; omega) (by rw [← HNb.out] at h2; omega)
                  obtain rfl : F = (octs bs, 0, 0) := HFR.out.1 hz.out
                  go_wp2
                  go_ret3
                  exact ⟨po, q, pc, rfl, HOQ.out.symm, hpc, HO2.out.lower hs, HB4.out⟩

set_option maxRecDepth 100000 in
theorem refFrom64_any (s : ByteArray) (w : World) : Calls Tryd.prog 33 #[.string s] w fun e w' => ∃ ro rn rc, e = .returned (.tuple #[.slice ro rn rc, .int .i64 (((fb64 (sbytes s)).2.1 : Nat) : Int), .int .i64 (((fb64 (sbytes s)).2.2 : Nat) : Int)]) ∧ Hid (rn = (fb64 (sbytes s)).1.length ∧ rn ≤ rc ∧ Own w' w.heap.size (.slice ro rn rc) (fb64 (sbytes s)).1 ∧ Below w.heap.size w w') := by
  go_enter Tryd.func33, Tryd.ntmps33
  go_wp2_with fail
  refine (read64_any s w).mono ?_
  rintro e w' ⟨ro, rn, rc, rfl, h⟩
  go_wp2
  go_ret3
  exact ⟨ro, rn, rc, rfl, h.out⟩

set_option maxRecDepth 100000 in
theorem refFrom16_any (s : ByteArray) (w : World) : Calls Tryd.prog 36 #[.string s] w fun e w' => ∃ ro rn rc, e = .returned (.tuple #[.slice ro rn rc, .int .i64 (((fhex (sbytes s)).2.1 : Nat) : Int), .int .i64 (((fhex (sbytes s)).2.2 : Nat) : Int)]) ∧ Hid (rn = (fhex (sbytes s)).1.length ∧ rn ≤ rc ∧ Own w' w.heap.size (.slice ro rn rc) (fhex (sbytes s)).1 ∧ Below w.heap.size w w') := by
  go_enter Tryd.func36, Tryd.ntmps36
  go_wp2_with fail
  refine (read16_any s w).mono ?_
  rintro e w' ⟨ro, rn, rc, rfl, h⟩
  go_wp2
  go_ret3
  exact ⟨ro, rn, rc, rfl, h.out⟩
end Go.Proofs.YtjdglpfjemoodaaDoor
