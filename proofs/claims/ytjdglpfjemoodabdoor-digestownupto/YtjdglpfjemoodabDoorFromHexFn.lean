/- The contracts of digest.value16 and digest.FromHex: for every byte, every text. -/
import Derived.Test.YtjdglpfjemoodabDoorB64Fn
import Derived.Test.YtjdglpfjemoodabDoorCodeMath
namespace Go.Proofs.YtjdglpfjemoodabDoor
open Go.RowKit

set_option maxHeartbeats 400000 in
set_option maxRecDepth 100000 in
theorem value16_any (c : Nat) (w : World) (hc : c < 256) : Calls Tryd.prog 32 #[.int .u8 (c : Int)] w fun e w' => e = .returned (.tuple #[.int .u8 (((val16 c).getD 0 : Nat) : Int), .bool (val16 c).isSome]) ∧ w' = w := by
  rcases (show (c ≤ 47) ∨ (48 ≤ c ∧ c ≤ 57) ∨ (58 ≤ c ∧ c ≤ 96) ∨ (97 ≤ c ∧ c ≤ 102) ∨ (103 ≤ c) by omega) with h | h | h | h | h
  · have e : val16 c = none := by unfold val16; rw [if_neg (by omega), if_neg (by omega)]
    rw [e]
    go_enter Tryd.func32, Tryd.ntmps32
    go_wp2
    go_ret2
    exact ⟨rfl, rfl⟩
  · have e : val16 c = some (c - 48) := by unfold val16; rw [if_pos (by omega)]
    have HE : Hid (((c - 48 : Nat) : Int) = (c : Int) - 48) := by show _ = _; omega
    rw [e]
    obtain ⟨a1, a2⟩ := h
    go_enter Tryd.func32, Tryd.ntmps32
    go_wp2
    go_ret2
    exact ⟨by simp [HE.out], rfl⟩
  · have e : val16 c = none := by unfold val16; rw [if_neg (by omega), if_neg (by omega)]
    rw [e]
    obtain ⟨a1, a2⟩ := h
    go_enter Tryd.func32, Tryd.ntmps32
    go_wp2
    go_ret2
    exact ⟨rfl, rfl⟩
  · have e : val16 c = some (c - 87) := by unfold val16; rw [if_neg (by omega), if_pos (by omega)]
    have HE : Hid (((c - 87 : Nat) : Int) = (c : Int) - 97 + 10) := by show _ = _; omega
    rw [e]
    obtain ⟨a1, a2⟩ := h
    go_enter Tryd.func32, Tryd.ntmps32
    go_wp2
    go_ret2
    exact ⟨by simp [HE.out], rfl⟩
  · have e : val16 c = none := by unfold val16; rw [if_neg (by omega), if_neg (by omega)]
    rw [e]
    go_enter Tryd.func32, Tryd.ntmps32
    go_wp2
    go_ret2
    exact ⟨rfl, rfl⟩

theorem badAt16_none {l : List Nat} (h : ∀ j, j < l.length → (val16 (l.getD j 0)).isSome = true) : badAt16 l = none := by
  unfold badAt16
  rw [List.findIdx?_eq_none_iff]
  intro x hx
  obtain ⟨i, hi, rfl⟩ := List.getElem_of_mem hx
  have := h i hi
  simp only [List.getD, List.getElem?_eq_getElem hi, Option.getD_some] at this
  cases e : val16 l[i] with
  | none => rw [e] at this; simp at this
  | some n => rfl
theorem badAt16_some {l : List Nat} {k : Nat} (hk : k < l.length) (h : ∀ j, j < k → (val16 (l.getD j 0)).isSome = true) (hb : val16 (l.getD k 0) = none) : badAt16 l = some k := by
  unfold badAt16
  rw [List.findIdx?_eq_some_iff_getElem]
  refine ⟨hk, ?_, fun j hj => ?_⟩
  · simp only [List.getD, List.getElem?_eq_getElem hk, Option.getD_some] at hb
    rw [hb]; rfl
  · have := h j hj
    simp only [List.getD, List.getElem?_eq_getElem (show j < l.length by omega), Option.getD_some] at this
    cases e : val16 l[j] with
    | none => rw [e] at this; simp at this
    | some n => simp
theorem vals16_snoc {l : List Nat} {c n : Nat} (h : val16 c = some n) : vals16 (l ++ [c]) = vals16 l ++ [n] := by
  unfold vals16
  rw [List.filterMap_append]
  simp [h]
theorem u8_nib (a n : Nat) (ha : a < 16) (hn : n < 16) : bits BinOp.or IntKind.u8 ((a : Int) * 16) (n : Int) = ((a * 16 + n : Nat) : Int) := by
  have h := u8_or_nat (a * 16) n (by omega) (by omega)
  rw [show ((a * 16 : Nat) : Int) = (a : Int) * 16 by omega] at h
  rw [h, Nat.mul_comm a 16, show 16 * a = 2 ^ 4 * a from rfl, ← Nat.two_pow_add_eq_or_of_lt (by omega) a]

theorem b64of_lt {l : List Nat} (h : ∀ x ∈ l, x < 256) : ∀ y ∈ b64of l, y < 256 := by
  intro y hy
  rw [b64of_g l h] at hy
  obtain ⟨n, hn, rfl⟩ := List.mem_map.1 hy
  exact lt64_lt n (g64_lt l h n hn)
theorem fb64_len (l : List Nat) : (fb64 l).1.length ≤ 65536 := by
  unfold fb64
  split
  · simp
  · split
    · simp
    · split
      · simp
      · split
        · simp
        · have := b64run_out_le l
          show (b64run l).out.length ≤ 65536
          omega
theorem vals16_len (l : List Nat) : (vals16 l).length ≤ l.length := List.length_filterMap_le _ _
theorem fhex_len (l : List Nat) : (fhex l).1.length ≤ 65536 := by
  unfold fhex
  split
  · simp
  · split
    · simp
    · split
      · simp
      · have := vals16_len l
        show (d16 (vals16 l)).length ≤ 65536
        rw [d16_length]
        omega

set_option maxHeartbeats 2000000 in
set_option maxRecDepth 100000 in
theorem fromHex_any (s : ByteArray) (w : World) : Calls Tryd.prog 16 #[.string s] w fun e w' => ∃ ro rn rc, e = .returned (.tuple #[.slice ro rn rc, .int .i64 (((fhex (sbytes s)).2.1 : Nat) : Int), .int .i64 (((fhex (sbytes s)).2.2 : Nat) : Int)]) ∧ Hid (rn = (fhex (sbytes s)).1.length ∧ rn ≤ rc ∧ Own w' w.heap.size (.slice ro rn rc) (fhex (sbytes s)).1 ∧ Below w.heap.size w w') := by
  have hz : (sbytes s).length = s.size := sbytes_length s
  by_cases hbig : 65536 < s.size
  · have e : fhex (sbytes s) = ([], 1, 0) := by unfold fhex; rw [if_pos (by omega)]
    rw [e]
    go_enter Tryd.func16, Tryd.ntmps16
    go_wp2
    go_ret3
    exact ⟨none, 0, 0, rfl, rfl, Nat.le_refl _, own_nil _ _, Below.refl _ _⟩
  · have HZ : Hid ((sbytes s).length = s.size) := hz
    have HNB : Hid (¬ 65536 < (sbytes s).length) := by show ¬ _; omega
    have HSB : Hid (∀ x ∈ sbytes s, x < 256) := sbytes_lt s
    clear hz
    generalize hFe : fhex (sbytes s) = F
    have HFE : Hid (fhex (sbytes s) = F) := hFe
    clear hFe
    go_enter Tryd.func16, Tryd.ntmps16
    go_wp2_with (first | (at_make; refine wpList_make_bytes rfl _ _ rfl .i64 .i64 _ _ 0 (s.size / 2) rfl rfl rfl (by omega) (by omega) (by omega) ?_) | fail)
    rintro w1 hb1 hbel1 hs1
    have HO1 : Hid (Own w1 w.heap.size (.slice (some ⟨w.heap.size, 0, none⟩) 0 (s.size / 2)) (d16 (vals16 ((sbytes s).take 0)))) := by
      have := Blk.own (xs := []) (ys := List.replicate (s.size / 2) 0) (n := 0) (c := s.size / 2) hb1 rfl (by simp) (Nat.le_refl _) (by unfold maxLen; omega)
      exact this
    have HB1 : Hid (Below w.heap.size w w1) := hbel1
    clear hb1 hbel1 hs1
    go_wp2
    go_loopw [5, 6, 19] (fun v h i wr => ∃ k : Nat, k ≤ s.size ∧ i = .int .i64 k ∧ h = .int .u8 (((vals16 ((sbytes s).take k)).getLastD 0 : Nat) : Int) ∧ Hid ((vals16 ((sbytes s).take k)).length = k) ∧ Hid (∀ j, j < k → (val16 ((sbytes s).getD j 0)).isSome = true) ∧ Hid (Own wr w.heap.size v (d16 (vals16 ((sbytes s).take k)))) ∧ Hid (Below w.heap.size w wr)) (fun _ _ i _ => s.size - (intOf i).toNat)
    case atStart => exact ⟨0, Nat.zero_le _, rfl, rfl, rfl, fun j hj => by omega, HO1, HB1⟩
    case round =>
      clear HO1 HB1
      obtain ⟨k, hk, rfl, rfl, HL, HV, HO, HB⟩ := hrel
      have HXL : Hid (∀ x ∈ vals16 ((sbytes s).take k), x < 16) := vals16_lt _
      by_cases hlt : k < s.size
      · have hix := str_index s k hlt
        have hck := lt_get HSB.out k
        have HTK : Hid ((sbytes s).take (k + 1) = (sbytes s).take k ++ [(sbytes s).getD k 0]) := take_getD (by rw [HZ.out]; exact hlt)
        cases hv : val16 ((sbytes s).getD k 0) with
        | none =>
          have HF : Hid (fhex (sbytes s) = ([], 20, k)) := by show _ = _; unfold fhex; rw [if_neg HNB.out, badAt16_some (by rw [HZ.out]; exact hlt) HV.out hv]
          have HV2 : Hid (val16 ((sbytes s).getD k 0) = none) := hv
          obtain rfl : F = ([], 20, k) := HFE.out.symm.trans HF.out
          clear hv
          go_wp2_with fail
          refine (value16_any _ wr hck).mono ?_
          rintro e w' ⟨rfl, rfl⟩
          rw [HV2.out]
          go_wp2
          go_ret3
          exact ⟨none, 0, 0, rfl, rfl, Nat.le_refl _, own_nil _ _, HB.out⟩
        | some n =>
          have hn16 := val16_lt hv
          have HST : Hid (vals16 ((sbytes s).take (k + 1)) = vals16 ((sbytes s).take k) ++ [n]) := by show _ = _; rw [HTK.out, vals16_snoc hv]
          have HV2 : Hid (val16 ((sbytes s).getD k 0) = some n) := hv
          have HVN : Hid (∀ j, j < k + 1 → (val16 ((sbytes s).getD j 0)).isSome = true) := fun j hj => by
            by_cases hjk : j < k
            · exact HV.out j hjk
            · rw [show j = k by omega, HV2.out]; rfl
          have HLN : Hid ((vals16 ((sbytes s).take (k + 1))).length = k + 1) := by show _ = _; rw [HST.out, List.length_append, HL.out]; rfl
          have hs := HB.out.size
          clear hv
          generalize vals16 ((sbytes s).take k) = vs at *
          go_wp2_with fail
          refine (value16_any _ wr hck).mono ?_
          rintro e w' ⟨rfl, rfl⟩
          rw [HV2.out]
          simp only [Option.getD_some, Option.isSome_some]
          by_cases h2 : k % 2 = 1
          · obtain ⟨us, a, rfl⟩ : ∃ us a, vs = us ++ [a] := ⟨vs.dropLast, vs.getLast (fun h => by have := HL.out; rw [h] at this; simp at this; omega), (List.dropLast_concat_getLast _).symm⟩
            have ha := HXL.out a (by simp)
            have HUE : Hid (us.length % 2 = 0) := by have := HL.out; simp at this; show _ = _; omega
            have HD : Hid (d16 (us ++ [a] ++ [n]) = d16 (us ++ [a]) ++ [a * 16 + n]) := by show _ = _; rw [d16_odd us a n HUE.out, d16_even us a HUE.out]
            have HDL : Hid ((d16 (us ++ [a])).length ≤ k) := by have := d16_length (us ++ [a]); rw [HL.out] at this; show _ ≤ _; omega
            rw [List.getLastD_concat]
            have hnib := u8_nib a n ha hn16
            have hb9 : a * 16 + n < 256 := by omega
            have h2i : ((k : Int) % 2 == 1) = true := by rw [beq_iff_eq]; omega
            generalize a * 16 + n = bb at *
            go_wp2_with (first | (at_builtin; refine wpList_append_bytes rfl _ _ rfl w.heap.size _ (d16 (us ++ [a])) rfl (HO.out.alloc _) (some ⟨w'.heap.size, 0, none⟩) 1 1 [bb] rfl rfl (row_one _ _) (by have := HDL.out; simp; omega) (by simp; omega) ?_) | fail)
            rintro v1 w2 hown1 hgr1
            have HB2 : Hid (Below w.heap.size w w2) := (HB.out.alloc hs _).grown hgr1 (by simp; omega) HO.out.ge
            have HO2 : Hid (Own w2 w.heap.size v1 (d16 (us ++ [a]) ++ [bb])) := hown1
            clear hown1 hgr1
            go_wp2
            go_roundw
            case rel => exact ⟨k + 1, by omega, by go_num, by rw [HST.out, List.getLastD_concat], HLN, HVN, by rw [HST.out, HD.out]; exact HO2, HB2⟩
            case measure => simp [intOf]; omega
          · have HD : Hid (d16 (vs ++ [n]) = d16 vs) := d16_even vs n (by rw [HL.out]; omega)
            have h2i : ((k : Int) % 2 == 1) = false := by rw [beq_eq_false_iff_ne]; omega
            go_wp2
            go_roundw
            case rel => exact ⟨k + 1, by omega, by go_num, by rw [HST.out, List.getLastD_concat], HLN, HVN, by rw [HST.out, HD.out]; exact HO, HB⟩
            case measure => simp [intOf]; omega
      · have HT : Hid ((sbytes s).take k = sbytes s) := by show _ = _; rw [List.take_of_length_le (by rw [HZ.out]; omega)]
        have HBN : Hid (badAt16 (sbytes s) = none) := badAt16_none (fun j hj => HV.out j (by rw [HZ.out] at hj; omega))
        have HF0 : Hid (fhex (sbytes s) = if (sbytes s).length % 2 = 1 then ([], 3, (sbytes s).length) else (d16 (vals16 (sbytes s)), 0, 0)) := by
          show _ = _
          unfold fhex
          rw [if_neg HNB.out, HBN.out]
        rw [HZ.out, HFE.out] at HF0
        rw [HT.out] at HO
        generalize d16 (vals16 (sbytes s)) = so at *
        by_cases h4 : s.size % 2 = 1
        · obtain rfl : F = ([], 3, s.size) := by have := HF0.out; rw [if_pos h4] at this; exact this
          have h4i : ((s.size : Int) % 2 == 1) = true := by rw [beq_iff_eq]; omega
          go_wp2
          go_ret3
          exact ⟨none, 0, 0, rfl, rfl, Nat.le_refl _, own_nil _ _, HB.out⟩
        · have h4i : ((s.size : Int) % 2 == 1) = false := by rw [beq_eq_false_iff_ne]; omega
          obtain ⟨so0, sp, rfl, hsp, _⟩ := HO.out.read
          obtain rfl : F = (so, 0, 0) := by have := HF0.out; rw [if_neg h4] at this; exact this
          go_wp2
          go_ret3
          exact ⟨so0, so.length, sp, rfl, rfl, hsp, HO.out, HB.out⟩
end Go.Proofs.YtjdglpfjemoodabDoor
