/- The contracts of digest.value64 and digest.FromBase64, over this layer's own texts. -/
import Derived.Test.YtghmabohodnbpaaGreatDoorXBase
import Derived.Test.YtghmabohodnbpaaGreatDoorB64Math
namespace Go.Proofs.YtghmabohodnbpaaGreatDoor
open Go.RowKit

theorem ofInt32 (a : Nat) : (BitVec.ofInt 32 (a : Int)).toNat = a % 4294967296 := by simp
theorem wa (a b : Nat) : bits BinOp.and IntKind.u32 (a : Int) (b : Int) = ((an32 a b : Nat) : Int) := by
  have h1 : bits BinOp.and IntKind.u32 (a : Int) (b : Int) = bits BinOp.and IntKind.u32 ((a % 4294967296 : Nat) : Int) ((b % 4294967296 : Nat) : Int) := by
    have e : ∀ c : Nat, BitVec.ofInt 32 (c : Int) = BitVec.ofInt 32 ((c % 4294967296 : Nat) : Int) := fun c => by apply BitVec.eq_of_toNat_eq; rw [ofInt32, ofInt32]; omega
    unfold bits
    simp only [IntKind.bits]
    rw [e a, e b]
  rw [h1, u32_and_nat _ _ (by omega) (by omega)]; rfl
theorem wo (a b : Nat) : bits BinOp.or IntKind.u32 (a : Int) (b : Int) = ((o32 a b : Nat) : Int) := by
  have h1 : bits BinOp.or IntKind.u32 (a : Int) (b : Int) = bits BinOp.or IntKind.u32 ((a % 4294967296 : Nat) : Int) ((b % 4294967296 : Nat) : Int) := by
    have e : ∀ c : Nat, BitVec.ofInt 32 (c : Int) = BitVec.ofInt 32 ((c % 4294967296 : Nat) : Int) := fun c => by apply BitVec.eq_of_toNat_eq; rw [ofInt32, ofInt32]; omega
    unfold bits
    simp only [IntKind.bits]
    rw [e a, e b]
  rw [h1, u32_or_nat _ _ (by omega) (by omega)]; rfl
set_option maxHeartbeats 400000 in
set_option maxRecDepth 100000 in
theorem value64_any (c : Nat) (w : World) (hc : c < 256) : Calls Tryz.prog 169 #[.int .u8 (c : Int)] w fun e w' => e = .returned (.tuple #[.int .u8 (((val64 c).getD 0 : Nat) : Int), .bool (val64 c).isSome]) ∧ w' = w := by
  rcases (show (c ≤ 44) ∨ (c = 45) ∨ (46 ≤ c ∧ c ≤ 47) ∨ (48 ≤ c ∧ c ≤ 57) ∨ (58 ≤ c ∧ c ≤ 64) ∨ (65 ≤ c ∧ c ≤ 90) ∨ (91 ≤ c ∧ c ≤ 94) ∨ (c = 95) ∨ (c = 96) ∨ (97 ≤ c ∧ c ≤ 122) ∨ (123 ≤ c) by omega) with h | h | h | h | h | h | h | h | h | h | h
  · have e : val64 c = none := by unfold val64; rw [if_neg (by omega), if_neg (by omega), if_neg (by omega), if_neg (by omega), if_neg (by omega)]
    rw [e]
    go_enter Tryz.func169, Tryz.ntmps169
    go_wp2
    go_ret2
    exact ⟨rfl, rfl⟩
  · subst h
    go_enter Tryz.func169, Tryz.ntmps169
    go_wp2
    go_ret2
    exact ⟨rfl, rfl⟩
  · have e : val64 c = none := by unfold val64; rw [if_neg (by omega), if_neg (by omega), if_neg (by omega), if_neg (by omega), if_neg (by omega)]
    rw [e]
    obtain ⟨a1, a2⟩ := h
    go_enter Tryz.func169, Tryz.ntmps169
    go_wp2
    go_ret2
    exact ⟨rfl, rfl⟩
  · have e : val64 c = some (c + 4) := by unfold val64; rw [if_neg (by omega), if_neg (by omega), if_pos (by omega)]
    rw [e]
    obtain ⟨a1, a2⟩ := h
    go_enter Tryz.func169, Tryz.ntmps169
    go_wp2
    go_ret2
    exact ⟨by simp; omega, rfl⟩
  · have e : val64 c = none := by unfold val64; rw [if_neg (by omega), if_neg (by omega), if_neg (by omega), if_neg (by omega), if_neg (by omega)]
    rw [e]
    obtain ⟨a1, a2⟩ := h
    go_enter Tryz.func169, Tryz.ntmps169
    go_wp2
    go_ret2
    exact ⟨rfl, rfl⟩
  · have e : val64 c = some (c - 65) := by unfold val64; rw [if_pos (by omega)]
    have HE : Hid (((c - 65 : Nat) : Int) = (c : Int) - 65) := by show _ = _; omega
    rw [e]
    obtain ⟨a1, a2⟩ := h
    go_enter Tryz.func169, Tryz.ntmps169
    go_wp2
    go_ret2
    exact ⟨by simp [HE.out], rfl⟩
  · have e : val64 c = none := by unfold val64; rw [if_neg (by omega), if_neg (by omega), if_neg (by omega), if_neg (by omega), if_neg (by omega)]
    rw [e]
    obtain ⟨a1, a2⟩ := h
    go_enter Tryz.func169, Tryz.ntmps169
    go_wp2
    go_ret2
    exact ⟨rfl, rfl⟩
  · subst h
    go_enter Tryz.func169, Tryz.ntmps169
    go_wp2
    go_ret2
    exact ⟨rfl, rfl⟩
  · subst h
    go_enter Tryz.func169, Tryz.ntmps169
    go_wp2
    go_ret2
    exact ⟨rfl, rfl⟩
  · have e : val64 c = some (c - 71) := by unfold val64; rw [if_neg (by omega), if_pos (by omega)]
    have HE : Hid (((c - 71 : Nat) : Int) = (c : Int) - 97 + 26) := by show _ = _; omega
    rw [e]
    obtain ⟨a1, a2⟩ := h
    go_enter Tryz.func169, Tryz.ntmps169
    go_wp2
    go_ret2
    exact ⟨by simp [HE.out], rfl⟩
  · have e : val64 c = none := by unfold val64; rw [if_neg (by omega), if_neg (by omega), if_neg (by omega), if_neg (by omega), if_neg (by omega)]
    rw [e]
    go_enter Tryz.func169, Tryz.ntmps169
    go_wp2
    go_ret2
    exact ⟨rfl, rfl⟩

theorem badAt_none {l : List Nat} (h : ∀ j, j < l.length → (val64 (l.getD j 0)).isSome = true) : badAt l = none := by
  unfold badAt
  rw [List.findIdx?_eq_none_iff]
  intro x hx
  obtain ⟨i, hi, rfl⟩ := List.getElem_of_mem hx
  have := h i hi
  simp only [List.getD, List.getElem?_eq_getElem hi, Option.getD_some] at this
  cases e : val64 l[i] with
  | none => rw [e] at this; simp at this
  | some n => rfl
theorem badAt_some {l : List Nat} {k : Nat} (hk : k < l.length) (h : ∀ j, j < k → (val64 (l.getD j 0)).isSome = true) (hb : val64 (l.getD k 0) = none) : badAt l = some k := by
  unfold badAt
  rw [List.findIdx?_eq_some_iff_getElem]
  refine ⟨hk, ?_, fun j hj => ?_⟩
  · simp only [List.getD, List.getElem?_eq_getElem hk, Option.getD_some] at hb
    rw [hb]; rfl
  · have := h j hj
    simp only [List.getD, List.getElem?_eq_getElem (show j < l.length by omega), Option.getD_some] at this
    cases e : val64 l[j] with
    | none => rw [e] at this; simp at this
    | some n => simp

set_option maxHeartbeats 2000000 in
set_option maxRecDepth 100000 in
theorem fromBase64_any (s : ByteArray) (w : World) : Calls Tryz.prog 150 #[.string s] w fun e w' => ∃ ro rn rc, e = .returned (.tuple #[.slice ro rn rc, .int .i64 (((fb64 (sbytes s)).2.1 : Nat) : Int), .int .i64 (((fb64 (sbytes s)).2.2 : Nat) : Int)]) ∧ Hid (rn = (fb64 (sbytes s)).1.length ∧ rn ≤ rc ∧ Own w' w.heap.size (.slice ro rn rc) (fb64 (sbytes s)).1 ∧ Below w.heap.size w w') := by
  have hz : (sbytes s).length = s.size := sbytes_length s
  by_cases hbig : 65536 < s.size
  · have e : fb64 (sbytes s) = ([], 1, 0) := by unfold fb64; rw [if_pos (by omega)]
    rw [e]
    go_enter Tryz.func150, Tryz.ntmps150
    go_wp2
    go_ret3
    exact ⟨none, 0, 0, rfl, rfl, Nat.le_refl _, own_nil _ _, Below.refl _ _⟩
  · have HZ : Hid ((sbytes s).length = s.size) := hz
    have HNB : Hid (¬ 65536 < (sbytes s).length) := by show ¬ _; omega
    have HSB : Hid (∀ x ∈ sbytes s, x < 256) := sbytes_lt s
    clear hz
    generalize hFe : fb64 (sbytes s) = F
    have HFE : Hid (fb64 (sbytes s) = F) := hFe
    clear hFe
    go_enter Tryz.func150, Tryz.ntmps150
    go_wp2_with (first | (at_make; refine wpList_make_bytes rfl _ _ rfl .i64 .i64 _ _ 0 (6 * s.size / 8) rfl rfl rfl (by omega) (by omega) (by omega) ?_) | fail)
    rintro w1 hb1 hbel1 hs1
    have HO1 : Hid (Own w1 w.heap.size (.slice (some ⟨w.heap.size, 0, none⟩) 0 (6 * s.size / 8)) (b64run ((sbytes s).take 0)).out) := by
      have := Blk.own (xs := []) (ys := List.replicate (6 * s.size / 8) 0) (n := 0) (c := 6 * s.size / 8) hb1 rfl (by simp) (Nat.le_refl _) (by unfold maxLen; omega)
      exact this
    have HB1 : Hid (Below w.heap.size w w1) := hbel1
    clear hb1 hbel1 hs1
    go_wp2
    go_loopw [5, 6, 7, 21] (fun v b c i wr => ∃ k : Nat, k ≤ s.size ∧ i = .int .i64 k ∧ b = .int .u32 (((b64run ((sbytes s).take k)).bits : Nat) : Int) ∧ c = .int .u64 (((b64run ((sbytes s).take k)).count : Nat) : Int) ∧ Hid (∀ j, j < k → (val64 ((sbytes s).getD j 0)).isSome = true) ∧ Hid (Own wr w.heap.size v (b64run ((sbytes s).take k)).out) ∧ Hid (Below w.heap.size w wr)) (fun _ _ _ i _ => s.size - (intOf i).toNat)
    case atStart => exact ⟨0, Nat.zero_le _, rfl, rfl, rfl, fun j hj => by omega, HO1, HB1⟩
    case round =>
      clear HO1 HB1
      obtain ⟨k, hk, rfl, rfl, rfl, HV, HO, HB⟩ := hrel
      have hcn := b64run_count ((sbytes s).take k)
      have hbt := b64run_bits ((sbytes s).take k)
      by_cases hlt : k < s.size
      · have hix := str_index s k hlt
        have hck := lt_get HSB.out k
        have HTK : Hid ((sbytes s).take (k + 1) = (sbytes s).take k ++ [(sbytes s).getD k 0]) := take_getD (by rw [HZ.out]; exact hlt)
        cases hv : val64 ((sbytes s).getD k 0) with
        | none =>
          have HF : Hid (fb64 (sbytes s) = ([], 20, k)) := by show _ = _; unfold fb64; rw [if_neg HNB.out, badAt_some (by rw [HZ.out]; exact hlt) HV.out hv]
          have HV2 : Hid (val64 ((sbytes s).getD k 0) = none) := hv
          obtain rfl : F = ([], 20, k) := HFE.out.symm.trans HF.out
          clear hv
          go_wp2_with fail
          refine (value64_any _ wr hck).mono ?_
          rintro e w' ⟨rfl, rfl⟩
          rw [HV2.out]
          go_wp2
          go_ret3
          exact ⟨none, 0, 0, rfl, rfl, Nat.le_refl _, own_nil _ _, HB.out⟩
        | some n =>
          have hn64 := val64_lt hv
          have HST : Hid (b64run ((sbytes s).take (k + 1)) = b64step (b64run ((sbytes s).take k)) n) := by show _ = _; rw [HTK.out, b64run_snoc hv]
          have HV2 : Hid (val64 ((sbytes s).getD k 0) = some n) := hv
          have HVN : Hid (∀ j, j < k + 1 → (val64 ((sbytes s).getD j 0)).isSome = true) := fun j hj => by
            by_cases hjk : j < k
            · exact HV.out j hjk
            · rw [show j = k by omega, HV2.out]; rfl
          have HOL : Hid ((b64run ((sbytes s).take k)).out.length ≤ k) := by have := b64run_out_le ((sbytes s).take k); rw [List.length_take] at this; show _ ≤ _; omega
          have hs := HB.out.size
          clear hv
          generalize b64run ((sbytes s).take k) = st at *
          obtain ⟨sb, sc, so⟩ := st
          dsimp only at hcn hbt HOL HO ⊢
          go_wp2_with fail
          refine (value64_any _ wr hck).mono ?_
          rintro e w' ⟨rfl, rfl⟩
          rw [HV2.out]
          simp only [Option.getD_some, Option.isSome_some]
          have hm : ((sb : Int) * 64) % 4294967296 = ((sb * 64 % 4294967296 : Nat) : Int) := by omega
          have fo := wo
          have HS2 : Hid (2 ≤ sc → b64step ⟨sb, sc, so⟩ n = ⟨o32 (sb * 64 % 4294967296) n, sc - 2, so ++ [o32 (sb * 64 % 4294967296) n / 2 ^ (sc - 2) % 256]⟩) := fun h2 => by unfold b64step; rw [if_pos h2]
          have HS3 : Hid (¬ 2 ≤ sc → b64step ⟨sb, sc, so⟩ n = ⟨o32 (sb * 64 % 4294967296) n, sc + 6, so⟩) := fun h2 => by unfold b64step; rw [if_neg h2]
          generalize sb * 64 % 4294967296 = sm at *
          generalize hO : o32 sm n = ob at *
          by_cases h2 : 2 ≤ sc
          · obtain ⟨c2, rfl⟩ : ∃ c2, sc = c2 + 2 := ⟨sc - 2, by omega⟩
            have HS4 := hide (HS2.out h2)
            rw [Nat.add_sub_cancel] at HS4
            have hb8 : (ob : Int) / 2 ^ c2 % 256 = ((ob / 2 ^ c2 % 256 : Nat) : Int) := by simp
            have hb9 : ob / 2 ^ c2 % 256 < 256 := Nat.mod_lt _ (by decide)
            generalize ob / 2 ^ c2 % 256 = bb at *
            go_wp2_with (first | (at_builtin; refine wpList_append_bytes rfl _ _ rfl w.heap.size _ so rfl (HO.out.alloc _) (some ⟨w'.heap.size, 0, none⟩) 1 1 [bb] rfl rfl (row_one _ _) (by have := HOL.out; simp; omega) (by simp; omega) ?_) | fail)
            rintro v1 w2 hown1 hgr1
            have HB2 : Hid (Below w.heap.size w w2) := (HB.out.alloc hs _).grown hgr1 (by simp; omega) HO.out.ge
            have HO2 : Hid (Own w2 w.heap.size v1 (so ++ [bb])) := hown1
            clear hown1 hgr1
            go_wp2
            go_roundw
            case rel => exact ⟨k + 1, by omega, by go_num, by rw [HST.out, HS4.out], by rw [HST.out, HS4.out]; simp only [Value.int.injEq, true_and]; omega, HVN, by rw [HST.out, HS4.out]; exact HO2, HB2⟩
            case measure => simp [intOf]; omega
          · have HS4 := hide (HS3.out h2)
            go_wp2
            go_roundw
            case rel => exact ⟨k + 1, by omega, by go_num, by rw [HST.out, HS4.out], by rw [HST.out, HS4.out]; go_num, HVN, by rw [HST.out, HS4.out]; exact HO, HB⟩
            case measure => simp [intOf]; omega
      · have HT : Hid ((sbytes s).take k = sbytes s) := by show _ = _; rw [List.take_of_length_le (by rw [HZ.out]; omega)]
        have HBN : Hid (badAt (sbytes s) = none) := badAt_none (fun j hj => HV.out j (by rw [HZ.out] at hj; omega))
        have HF0 : Hid (fb64 (sbytes s) = if (sbytes s).length % 4 = 1 then ([], 3, (sbytes s).length) else if an32 (b64run (sbytes s)).bits (2 ^ (b64run (sbytes s)).count - 1) ≠ 0 then ([], 21, (sbytes s).length - 1) else ((b64run (sbytes s)).out, 0, 0)) := by
          show _ = _
          unfold fb64
          rw [if_neg HNB.out, HBN.out]
        rw [HZ.out, HFE.out] at HF0
        have hs1 : Hid (s.size = 0 → an32 (b64run (sbytes s)).bits (2 ^ (b64run (sbytes s)).count - 1) = 0) := fun h0 => by
          rw [List.eq_nil_of_length_eq_zero (show (sbytes s).length = 0 by rw [HZ.out]; exact h0)]
          decide
        rw [HT.out] at HO hcn hbt ⊢
        generalize b64run (sbytes s) = st at *
        obtain ⟨sb, sc, so⟩ := st
        dsimp only at hcn hbt HO HF0 hs1 ⊢
        by_cases h4 : s.size % 4 = 1
        · obtain rfl : F = ([], 3, s.size) := by have := HF0.out; rw [if_pos h4] at this; exact this
          have h4i : ((s.size : Int) % 4 == 1) = true := by rw [beq_iff_eq]; omega
          go_wp2
          go_ret3
          exact ⟨none, 0, 0, rfl, rfl, Nat.le_refl _, own_nil _ _, HB.out⟩
        · have h4i : ((s.size : Int) % 4 == 1) = false := by rw [beq_eq_false_iff_ne]; omega
          obtain ⟨so0, sp, rfl, hsp, _⟩ := HO.out.read
          have HF1 : Hid (F = if an32 sb (2 ^ sc - 1) ≠ 0 then ([], 21, s.size - 1) else (so, 0, 0)) := by have := HF0.out; rw [if_neg h4] at this; exact this
          clear HF0
          rcases (show sc = 0 ∨ sc = 1 ∨ sc = 2 ∨ sc = 3 ∨ sc = 4 ∨ sc = 5 ∨ sc = 6 ∨ sc = 7 by omega) with rfl | rfl | rfl | rfl | rfl | rfl | rfl | rfl
          all_goals
            simp only [Nat.reducePow, Nat.reduceSub] at HF1 hs1
            have f0 : ∀ a : Nat, bits BinOp.and IntKind.u32 (a : Int) 0 = ((an32 a 0 : Nat) : Int) := fun a => wa a 0
            have f1 : ∀ a : Nat, bits BinOp.and IntKind.u32 (a : Int) 1 = ((an32 a 1 : Nat) : Int) := fun a => wa a 1
            have f3 : ∀ a : Nat, bits BinOp.and IntKind.u32 (a : Int) 3 = ((an32 a 3 : Nat) : Int) := fun a => wa a 3
            have f7 : ∀ a : Nat, bits BinOp.and IntKind.u32 (a : Int) 7 = ((an32 a 7 : Nat) : Int) := fun a => wa a 7
            have f15 : ∀ a : Nat, bits BinOp.and IntKind.u32 (a : Int) 15 = ((an32 a 15 : Nat) : Int) := fun a => wa a 15
            have f31 : ∀ a : Nat, bits BinOp.and IntKind.u32 (a : Int) 31 = ((an32 a 31 : Nat) : Int) := fun a => wa a 31
            have f63 : ∀ a : Nat, bits BinOp.and IntKind.u32 (a : Int) 63 = ((an32 a 63 : Nat) : Int) := fun a => wa a 63
            have f127 : ∀ a : Nat, bits BinOp.and IntKind.u32 (a : Int) 127 = ((an32 a 127 : Nat) : Int) := fun a => wa a 127
            generalize hz : an32 sb _ = z at HF1 hs1
            by_cases hz0 : z = 0
            · subst hz0
              obtain rfl : F = (so, 0, 0) := by have := HF1.out; simpa using this
              go_wp2
              go_ret3
              exact ⟨so0, so.length, sp, rfl, rfl, hsp, HO.out, HB.out⟩
            · obtain rfl : F = ([], 21, s.size - 1) := by have := HF1.out; simpa [hz0] using this
              have hsp0 : 0 < s.size := by
                rcases Nat.eq_zero_or_pos s.size with h | h
                · exact absurd (hs1.out h) hz0
                · exact h
              go_wp2
              go_ret3
              exact ⟨none, 0, 0, by simp; omega, rfl, Nat.le_refl _, own_nil _ _, HB.out⟩
end Go.Proofs.YtghmabohodnbpaaGreatDoor
