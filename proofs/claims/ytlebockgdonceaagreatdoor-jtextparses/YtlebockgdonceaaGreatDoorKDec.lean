/- Characters: as the library decodes them, and as the document says. A character's number and its bytes: there and back. -/
import Derived.Test.YtlebockgdonceaaGreatDoorKMath
import Derived.Test.YtlebockgdonceaaGreatDoorKBase
import Derived.Lib.DecodeNEq
import Derived.Shelf.Unicode.DecodeSlow
import Derived.Lib.RuneBytes
namespace Go.Proofs.YtlebockgdonceaaGreatDoor
open Go.RowKit

def chrN (n b0 b1 b2 b3 : Nat) : Ch :=
  if (lead b0).1 = 0 then .error false else if (lead b0).1 = 1 then .ok 1
  else if n < 2 then .error true
  else if (lead b0).2.1 ≤ b1 ∧ b1 ≤ (lead b0).2.2 then
    if (lead b0).1 = 2 then .ok 2
    else if n < 3 then .error true
    else if 128 ≤ b2 ∧ b2 ≤ 191 then
      if (lead b0).1 = 3 then .ok 3
      else if n < 4 then .error true
      else if 128 ≤ b3 ∧ b3 ≤ 191 then .ok 4 else .error false
    else .error false
  else .error false
def codeN (k b0 b1 b2 b3 : Nat) : Nat :=
  if k = 1 then b0 else if k = 2 then 64 * (b0 % 32) + b1 % 64 else if k = 3 then 64 * (64 * (b0 % 16) + b1 % 64) + b2 % 64 else 64 * (64 * (64 * (b0 % 8) + b1 % 64) + b2 % 64) + b3 % 64
theorem lead_cases (b : Nat) : (lead b).1 = 0 ∨ (lead b).1 = 1 ∨ (lead b).1 = 2 ∨ (lead b).1 = 3 ∨ (lead b).1 = 4 := by
  unfold lead; (repeat' split) <;> decide
theorem chr_chrN (l : By) (h : l ≠ []) : chr l = chrN l.length (bt l 0) (bt l 1) (bt l 2) (bt l 3) := by
  obtain ⟨a, l, rfl⟩ : ∃ a r, l = a :: r := by cases l with | nil => exact absurd rfl h | cons a r => exact ⟨a, r, rfl⟩
  rw [show bt (a :: l) 0 = a from rfl]
  unfold chrN
  simp only [chr]
  rcases lead_cases a with e | e | e | e | e
  · rw [e]; rfl
  · rw [e]; simp [conts]
  · rw [e]
    cases l with
    | nil => simp [conts]
    | cons b l => have h2 : ¬ (l.length + 1 + 1 < 2) := by omega
                  simp [conts, bt, h2]
  · rw [e]
    cases l with
    | nil => simp [conts]
    | cons b l => cases l with
      | nil => simp [conts, bt]
      | cons c l => have h2 : ¬ (l.length + 1 + 1 + 1 < 2) := by omega
                    have h3 : ¬ (l.length + 1 + 1 + 1 < 3) := by omega
                    simp [conts, bt, h2, h3]
  · rw [e]
    cases l with
    | nil => simp [conts]
    | cons b l => cases l with
      | nil => simp [conts, bt]
      | cons c l => cases l with
        | nil => simp [conts, bt]
        | cons d l => have h2 : ¬ (l.length + 1 + 1 + 1 + 1 < 2) := by omega
                      have h3 : ¬ (l.length + 1 + 1 + 1 + 1 < 3) := by omega
                      have h4 : ¬ (l.length + 1 + 1 + 1 + 1 < 4) := by omega
                      simp [conts, bt, h2, h3, h4]
/-- What a decoder answers, by the character. -/
def decOf : Ch → By → Nat × Nat
  | .ok k, l => (codeOf k l, k)
  | _, _ => (65533, 1)
def decN : Ch → Nat → Nat → Nat → Nat → Nat × Nat
  | .ok k, b0, b1, b2, b3 => (codeN k b0 b1 b2 b3, k)
  | _, _, _, _, _ => (65533, 1)
set_option maxHeartbeats 2000000 in
theorem slow_chr {n b0 b1 b2 b3 sz lo hi : Nat} (hs : sz = 2 ∨ sz = 3 ∨ sz = 4) (hl : lead b0 = (sz, lo, hi)) : Lib.slowN n b0 b1 b2 b3 sz lo hi = decN (chrN n b0 b1 b2 b3) b0 b1 b2 b3 := by
  unfold chrN Lib.slowN
  rw [hl]
  simp only
  rcases hs with rfl | rfl | rfl
  all_goals
    repeat' split
    all_goals first | (exfalso; omega) | rfl | (simp only [decN, codeN]; apply Prod.ext <;> simp <;> omega)
theorem lead_lo {b : Nat} (h : 128 ≤ b ∧ b < 194) : lead b = (0, 128, 191) := by unfold lead; rw [if_neg (by omega), if_pos (by omega)]
theorem lead_hi {b : Nat} (h : 244 < b) : lead b = (0, 128, 191) := by unfold lead; rw [if_neg (by omega), if_neg (by omega), if_neg (by omega), if_neg (by omega), if_neg (by omega), if_neg (by omega), if_neg (by omega), if_neg (by omega), if_neg (by omega)]
theorem lead_C2 {b : Nat} (h : 194 ≤ b ∧ b < 224) : lead b = (2, 128, 191) := by unfold lead; rw [if_neg (by omega), if_neg (by omega), if_pos (by omega)]
theorem lead_E0 {b : Nat} (h : b = 224) : lead b = (3, 160, 191) := by unfold lead; rw [if_neg (by omega), if_neg (by omega), if_neg (by omega), if_pos (by omega)]
theorem lead_E1 {b : Nat} (h : (225 ≤ b ∧ b < 237) ∨ (238 ≤ b ∧ b < 240)) : lead b = (3, 128, 191) := by unfold lead; rw [if_neg (by omega), if_neg (by omega), if_neg (by omega), if_neg (by omega), if_neg (by omega), if_pos (by omega)]
theorem lead_ED {b : Nat} (h : b = 237) : lead b = (3, 128, 159) := by unfold lead; rw [if_neg (by omega), if_neg (by omega), if_neg (by omega), if_neg (by omega), if_pos (by omega)]
theorem lead_F0 {b : Nat} (h : b = 240) : lead b = (4, 144, 191) := by unfold lead; rw [if_neg (by omega), if_neg (by omega), if_neg (by omega), if_neg (by omega), if_neg (by omega), if_neg (by omega), if_pos (by omega)]
theorem lead_F1 {b : Nat} (h : 241 ≤ b ∧ b < 244) : lead b = (4, 128, 191) := by unfold lead; rw [if_neg (by omega), if_neg (by omega), if_neg (by omega), if_neg (by omega), if_neg (by omega), if_neg (by omega), if_neg (by omega), if_pos (by omega)]
theorem lead_F4 {b : Nat} (h : b = 244) : lead b = (4, 128, 143) := by unfold lead; rw [if_neg (by omega), if_neg (by omega), if_neg (by omega), if_neg (by omega), if_neg (by omega), if_neg (by omega), if_neg (by omega), if_neg (by omega), if_pos (by omega)]
theorem dec_chrN (n b0 b1 b2 b3 : Nat) (hn : 1 ≤ n) (h0 : b0 < 256) (h1 : b1 < 256) (h2 : b2 < 256) (h3 : b3 < 256) : Lib.decodeN n b0 b1 b2 b3 = decN (chrN n b0 b1 b2 b3) b0 b1 b2 b3 := by
  by_cases a : b0 < 128
  · rw [Lib.ascii_eq n b0 b1 b2 b3 (by unfold Lib.firstT; rw [if_pos a])]
    have : lead b0 = (1, 128, 191) := by unfold lead; rw [if_pos a]
    unfold chrN
    rw [this]
    simp [decN, codeN]
  · by_cases b : b0 < 194 ∨ 244 < b0
    · have hf : Lib.firstT b0 = 241 := by
        unfold Lib.firstT
        rcases b with b | b
        · rw [if_neg a, if_pos b]
        · rw [if_neg a, if_neg (by omega), if_neg (by omega), if_neg (by omega), if_neg (by omega), if_neg (by omega), if_neg (by omega), if_neg (by omega), if_neg (by omega), if_neg (by omega)]
      rw [Lib.bad_eq n b0 b1 b2 b3 h0 hf]
      have : lead b0 = (0, 128, 191) := by
        rcases b with b | b
        · exact lead_lo ⟨by omega, b⟩
        · exact lead_hi b
      unfold chrN
      rw [this]
      rfl
    · rcases (show (194 ≤ b0 ∧ b0 < 224) ∨ b0 = 224 ∨ ((225 ≤ b0 ∧ b0 < 237) ∨ (238 ≤ b0 ∧ b0 < 240)) ∨ b0 = 237 ∨ b0 = 240 ∨ (241 ≤ b0 ∧ b0 < 244) ∨ b0 = 244 by omega) with h | h | h | h | h | h | h
      · rw [← Lib.slow_C2 n b0 b1 b2 b3 hn h1 h2 h3 h]; exact slow_chr (by omega) (lead_C2 h)
      · rw [← Lib.slow_E0 n b0 b1 b2 b3 hn h1 h2 h3 h]; exact slow_chr (by omega) (lead_E0 h)
      · rw [← Lib.slow_E1 n b0 b1 b2 b3 hn h1 h2 h3 h]; exact slow_chr (by omega) (lead_E1 h)
      · rw [← Lib.slow_ED n b0 b1 b2 b3 hn h1 h2 h3 h]; exact slow_chr (by omega) (lead_ED h)
      · rw [← Lib.slow_F0 n b0 b1 b2 b3 hn h1 h2 h3 h]; exact slow_chr (by omega) (lead_F0 h)
      · rw [← Lib.slow_F1 n b0 b1 b2 b3 hn h1 h2 h3 h]; exact slow_chr (by omega) (lead_F1 h)
      · rw [← Lib.slow_F4 n b0 b1 b2 b3 hn h1 h2 h3 h]; exact slow_chr (by omega) (lead_F4 h)
theorem get_bt (s : ByteArray) (i : Nat) : (s.get! i).toNat = bt (sbytes s) i := by
  unfold bt sbytes
  by_cases h : i < s.size
  · rw [Go.Proofs.Utf8W.get!_of_lt s i h]
    have h2 : s.data.toList[i]? = some s[i] := by rw [List.getElem?_eq_getElem (by simpa using h)]; rfl
    simp [List.getD, h2]
  · have h2 : s.data.toList.length ≤ i := by simpa using h
    have h3 : (s.data.toList.map UInt8.toNat)[i]? = none := List.getElem?_eq_none (by simpa using h2)
    rw [List.getD, h3]
    cases s with
    | mk d =>
      show (d[i]!).toNat = 0
      rw [getElem!_neg d i (by exact h)]
      rfl
theorem codeOf_N (l : By) (k : Nat) (hk : 1 ≤ k) (hk4 : k ≤ 4) (hl : k ≤ l.length) : codeOf k l = codeN k (bt l 0) (bt l 1) (bt l 2) (bt l 3) := by
  rcases (show k = 1 ∨ k = 2 ∨ k = 3 ∨ k = 4 by omega) with rfl | rfl | rfl | rfl
  · match l, hl with
    | a :: l, _ => rfl
  · match l, hl with
    | a :: b :: l, _ => rfl
  · match l, hl with
    | a :: b :: c :: l, _ => rfl
  · match l, hl with
    | a :: b :: c :: d :: l, _ => rfl
/-- The model's own decoding. -/
theorem decode_chr (s : ByteArray) (p : Nat) (hp : p < s.size) : Utf8.decode s p = decOf (chr ((sbytes s).drop p)) ((sbytes s).drop p) := by
  have hlen : ((sbytes s).drop p).length = s.size - p := by rw [List.length_drop, sbytes_length]
  have hne : (sbytes s).drop p ≠ [] := fun h => by rw [h] at hlen; simp at hlen; omega
  have hd : ∀ k, bt ((sbytes s).drop p) k = bt (sbytes s) (p + k) := fun k => by unfold bt; simp [List.getD, List.getElem?_drop]
  have hlt : ∀ k, bt (sbytes s) k < 256 := fun k => lt_get (sbytes_lt s) k
  have hc := chr_chrN _ hne
  rw [hlen, hd, hd, hd, hd] at hc
  rw [Lib.decode_at, get_bt, get_bt, get_bt, get_bt, dec_chrN _ _ _ _ _ (by omega) (hlt _) (hlt _) (hlt _) (hlt _)]
  rw [Nat.add_zero] at hc
  rw [← hc]
  cases e : chr ((sbytes s).drop p) with
  | error bb => cases bb with
    | false => rfl
    | true => rfl
  | ok k =>
    have hk := chr_ok e
    simp only [decN, decOf]
    rw [codeOf_N _ k hk.1 hk.2.1 hk.2.2.1, hd, hd, hd, hd]
    rfl
end Go.Proofs.YtlebockgdonceaaGreatDoor
namespace Go.Proofs.YtlebockgdonceaaGreatDoor

theorem four_parts {l : By} {k : Nat} (h : chr l = .ok k) : ∃ b0 b1 b2 b3, chrN l.length b0 b1 b2 b3 = .ok k ∧ b0 = bt l 0 ∧ b1 = bt l 1 ∧ b2 = bt l 2 ∧ b3 = bt l 3 := by
  have hne : l ≠ [] := fun e => by rw [e] at h; cases h
  exact ⟨_, _, _, _, by rw [← chr_chrN l hne]; exact h, rfl, rfl, rfl, rfl⟩
theorem take_bt1 {l : By} (h : 1 ≤ l.length) : l.take 1 = [bt l 0] := by
  match l, h with
  | a :: l, _ => rfl
theorem take_bt2 {l : By} (h : 2 ≤ l.length) : l.take 2 = [bt l 0, bt l 1] := by
  match l, h with
  | a :: b :: l, _ => rfl
theorem take_bt3 {l : By} (h : 3 ≤ l.length) : l.take 3 = [bt l 0, bt l 1, bt l 2] := by
  match l, h with
  | a :: b :: c :: l, _ => rfl
theorem take_bt4 {l : By} (h : 4 ≤ l.length) : l.take 4 = [bt l 0, bt l 1, bt l 2, bt l 3] := by
  match l, h with
  | a :: b :: c :: d :: l, _ => rfl
/-- What a lead byte says of its bytes. -/
theorem lead_ok {n b0 b1 b2 b3 k : Nat} (h : chrN n b0 b1 b2 b3 = .ok k) :
    (k = 1 ∧ b0 < 128) ∨
    (k = 2 ∧ 194 ≤ b0 ∧ b0 < 224 ∧ 128 ≤ b1 ∧ b1 ≤ 191) ∨
    (k = 3 ∧ 224 ≤ b0 ∧ b0 < 240 ∧ 128 ≤ b1 ∧ b1 ≤ 191 ∧ (b0 = 224 → 160 ≤ b1) ∧ (b0 = 237 → b1 ≤ 159) ∧ 128 ≤ b2 ∧ b2 ≤ 191) ∨
    (k = 4 ∧ 240 ≤ b0 ∧ b0 ≤ 244 ∧ 128 ≤ b1 ∧ b1 ≤ 191 ∧ (b0 = 240 → 144 ≤ b1) ∧ (b0 = 244 → b1 ≤ 143) ∧ 128 ≤ b2 ∧ b2 ≤ 191 ∧ 128 ≤ b3 ∧ b3 ≤ 191) := by
  by_cases g1 : b0 < 128
  · have : lead b0 = (1, 128, 191) := by unfold lead; rw [if_pos g1]
    unfold chrN at h
    rw [this] at h
    injection h with h
    omega
  · by_cases g2 : b0 < 194
    · unfold chrN at h
      rw [lead_lo ⟨by omega, g2⟩] at h
      cases h
    · by_cases g3 : 244 < b0
      · unfold chrN at h
        rw [lead_hi g3] at h
        cases h
      · rcases (show (194 ≤ b0 ∧ b0 < 224) ∨ b0 = 224 ∨ ((225 ≤ b0 ∧ b0 < 237) ∨ (238 ≤ b0 ∧ b0 < 240)) ∨ b0 = 237 ∨ b0 = 240 ∨ (241 ≤ b0 ∧ b0 < 244) ∨ b0 = 244 by omega) with g | g | g | g | g | g | g
        all_goals
          unfold chrN at h
          first
            | rw [lead_C2 g] at h
            | rw [lead_E0 g] at h
            | rw [lead_E1 g] at h
            | rw [lead_ED g] at h
            | rw [lead_F0 g] at h
            | rw [lead_F1 g] at h
            | rw [lead_F4 g] at h
          simp only at h
          rw [if_neg (by omega), if_neg (by omega)] at h
          split at h
          · cases h
          · split at h
            · rename_i hb1
              split at h
              · injection h with h; omega
              · split at h
                · cases h
                · split at h
                  · rename_i hb2
                    split at h
                    · injection h with h; omega
                    · split at h
                      · cases h
                      · split at h
                        · injection h with h; first | omega | (exfalso; simp_all)
                        · cases h
                  · cases h
            · cases h
theorem utf_code {l : By} {k : Nat} (h : chr l = .ok k) : utf (codeOf k l) = l.take k ∧ codeOf k l < 1114112 ∧ (codeOf k l < 55296 ∨ 57344 ≤ codeOf k l) ∧ (k = 1 → codeOf k l < 128) ∧ (1 < k → 128 ≤ codeOf k l) := by
  obtain ⟨h1, h4, hlen, _⟩ := chr_ok h
  obtain ⟨b0, b1, b2, b3, hN, e0, e1, e2, e3⟩ := four_parts h
  rw [codeOf_N l k h1 h4 hlen, ← e0, ← e1, ← e2, ← e3]
  rcases lead_ok hN with ⟨rfl, hb⟩ | ⟨rfl, hb⟩ | ⟨rfl, hb⟩ | ⟨rfl, hb⟩
  · rw [take_bt1 hlen, ← e0]
    have hc : codeN 1 b0 b1 b2 b3 = b0 := by simp [codeN]
    rw [hc]
    unfold utf
    rw [if_pos hb]
    exact ⟨rfl, by omega, by omega, by omega, by omega⟩
  · rw [take_bt2 hlen, ← e0, ← e1]
    have hc : codeN 2 b0 b1 b2 b3 = 64 * (b0 % 32) + b1 % 64 := by simp [codeN]
    rw [hc]
    unfold utf
    rw [if_neg (by omega), if_pos (by omega)]
    refine ⟨?_, by omega, by omega, by omega, by omega⟩
    rw [show 192 + (64 * (b0 % 32) + b1 % 64) / 64 = b0 by omega, show 128 + (64 * (b0 % 32) + b1 % 64) % 64 = b1 by omega]
  · rw [take_bt3 hlen, ← e0, ← e1, ← e2]
    have hc : codeN 3 b0 b1 b2 b3 = 64 * (64 * (b0 % 16) + b1 % 64) + b2 % 64 := by simp [codeN]
    rw [hc]
    obtain ⟨q1, q2, q3, q4, q5, q6, q7, q8⟩ := hb
    have r0 : b0 % 16 = b0 - 224 := by omega
    have r1 : b1 % 64 = b1 - 128 := by omega
    have r2 : b2 % 64 = b2 - 128 := by omega
    rw [r0, r1, r2]
    unfold utf
    rw [if_neg (by omega), if_neg (by omega), if_pos (by omega)]
    refine ⟨?_, by omega, by omega, by omega, by omega⟩
    rw [show 224 + (64 * (64 * (b0 - 224) + (b1 - 128)) + (b2 - 128)) / 4096 = b0 by omega, show 128 + (64 * (64 * (b0 - 224) + (b1 - 128)) + (b2 - 128)) / 64 % 64 = b1 by omega, show 128 + (64 * (64 * (b0 - 224) + (b1 - 128)) + (b2 - 128)) % 64 = b2 by omega]
  · rw [take_bt4 hlen, ← e0, ← e1, ← e2, ← e3]
    have hc : codeN 4 b0 b1 b2 b3 = 64 * (64 * (64 * (b0 % 8) + b1 % 64) + b2 % 64) + b3 % 64 := by simp [codeN]
    rw [hc]
    obtain ⟨q1, q2, q3, q4, q5, q6, q7, q8, q9, q10⟩ := hb
    have r0 : b0 % 8 = b0 - 240 := by omega
    have r1 : b1 % 64 = b1 - 128 := by omega
    have r2 : b2 % 64 = b2 - 128 := by omega
    have r3 : b3 % 64 = b3 - 128 := by omega
    rw [r0, r1, r2, r3]
    unfold utf
    rw [if_neg (by omega), if_neg (by omega), if_neg (by omega)]
    refine ⟨?_, by omega, by omega, by omega, by omega⟩
    rw [show 240 + (64 * (64 * (64 * (b0 - 240) + (b1 - 128)) + (b2 - 128)) + (b3 - 128)) / 262144 = b0 by omega, show 128 + (64 * (64 * (64 * (b0 - 240) + (b1 - 128)) + (b2 - 128)) + (b3 - 128)) / 4096 % 64 = b1 by omega, show 128 + (64 * (64 * (64 * (b0 - 240) + (b1 - 128)) + (b2 - 128)) + (b3 - 128)) / 64 % 64 = b2 by omega, show 128 + (64 * (64 * (64 * (b0 - 240) + (b1 - 128)) + (b2 - 128)) + (b3 - 128)) % 64 = b3 by omega]
theorem rune_utf {c : Nat} (h : c < 1114112) (hs : c < 55296 ∨ 57344 ≤ c) : Lib.runeCells (c : Int) = (utf c).map bv := by
  unfold Lib.runeCells utf
  by_cases h1 : c < 128
  · rw [if_pos h1, Lib.encodeRuneZ_one (by omega) (by omega)]
    rfl
  · by_cases h2 : c < 2048
    · rw [if_neg h1, if_pos h2, Lib.encodeRuneZ_two (by omega) (by omega)]
      simp [bv]
    · by_cases h3 : c < 65536
      · rw [if_neg h1, if_neg h2, if_pos h3, Lib.encodeRuneZ_three (by omega)]
        simp [bv]
      · rw [if_neg h1, if_neg h2, if_neg h3, Lib.encodeRuneZ_four (by omega) (by omega)]
        simp [bv]
theorem utf_len (c : Nat) : 1 ≤ (utf c).length ∧ (utf c).length ≤ 4 := by unfold utf; (repeat' split) <;> simp
theorem utf_lt {c : Nat} (h : c < 1114112) : ∀ x ∈ utf c, x < 256 := by
  intro x hx
  unfold utf at hx
  repeat' split at hx
  all_goals simp at hx; omega
end Go.Proofs.YtlebockgdonceaaGreatDoor
