/- The contract of the document's char. -/
import Derived.Test.YtlebockgdonceaaGreatDoorRLit2
import Derived.Test.YtlebockgdonceaaGreatDoorJSound
namespace Go.Proofs.YtlebockgdonceaaGreatDoor
open Go.RowKit

theorem str_index_at (s : ByteArray) (k : Nat) (i : Int) (hi : i = (k : Int)) (hk : k < s.size) (w : World) : (Instr.index 9 (.string s) (.int .i64 i)).run Tryz.prog w = .ok (.int .u8 (((sbytes s).getD k 0 : Nat) : Int)) w := by
  subst hi; exact str_index s k hk w
def chZ (c : Ch) : Int := match c with
  | .ok m => (m : Int)
  | .error false => 0
  | .error true => -1
theorem chZ_zero {c : Nat} {l : By} {lo hi : Nat} (h : lead c = (0, lo, hi)) : chZ (chr (c :: l)) = 0 := by rw [chr_cons, h]; rfl
theorem chZ_one {c : Nat} {l : By} {lo hi : Nat} (h : lead c = (1, lo, hi)) : chZ (chr (c :: l)) = 1 := by rw [chr_cons, h]; rfl
theorem chZ_more {c : Nat} {l : By} {m lo hi : Nat} (h : lead c = (m + 1, lo, hi)) : chZ (chr (c :: l)) = chZ (conts (m + 1) m lo hi l) := by rw [chr_cons, h]
theorem conts_end {m lo hi : Nat} {l : By} : chZ (conts m 0 lo hi l) = (m : Int) := by unfold conts; rfl
theorem conts_short {m n lo hi k : Nat} {l : By} (h : l.length ≤ k) : chZ (conts m (n + 1) lo hi (l.drop k)) = -1 := by rw [List.drop_eq_nil_of_le h]; rfl
theorem conts_in {m n lo hi k : Nat} {l : By} (h : k < l.length) (h1 : lo ≤ l.getD k 0) (h2 : l.getD k 0 ≤ hi) : conts m (n + 1) lo hi (l.drop k) = conts m n 128 191 (l.drop (k + 1)) := by
  have e : l.getD k 0 = l[k] := by simp [List.getD, h]
  rw [e] at h1 h2
  rw [List.drop_eq_getElem_cons h]
  show (if _ then _ else _) = _
  rw [if_pos ⟨h1, h2⟩]
theorem conts_out {m n lo hi k : Nat} {l : By} (h : k < l.length) (h1 : ¬ (lo ≤ l.getD k 0 ∧ l.getD k 0 ≤ hi)) : chZ (conts m (n + 1) lo hi (l.drop k)) = 0 := by
  have e : l.getD k 0 = l[k] := by simp [List.getD, h]
  rw [e] at h1
  rw [List.drop_eq_getElem_cons h]
  show chZ (if _ then _ else _) = _
  rw [if_neg h1]; rfl
theorem cons_at {l : By} {k : Nat} (h : k < l.length) : l.drop k = l.getD k 0 :: l.drop (k + 1) := by
  have e : l.getD k 0 = l[k] := by simp [List.getD, h]
  rw [e, List.drop_eq_getElem_cons h]
/-- What char answers at a place of a text. -/
def ChAt (s : ByteArray) (p : Nat) (w : World) : Prop := Calls Tryz.prog 34 #[.string s, .int .i64 (p : Int)] w fun e w' => e = .returned (.int .i64 (chZ (chr ((sbytes s).drop p)))) ∧ Below w.heap.size w w'
set_option maxHeartbeats 4000000 in
set_option maxRecDepth 100000 in
theorem rchar_a (s : ByteArray) (p : Nat) (w : World) (_ : s.size ≤ 4611686018427387904) (hp : p < s.size) (hc : (sbytes s).getD p 0 < 128) : ChAt s p w := by
  unfold ChAt
  obtain ⟨n, hn⟩ : ∃ n, n = s.size := ⟨_, rfl⟩
  obtain ⟨xs, HX⟩ : ∃ xs, Hid (xs = sbytes s) := ⟨_, rfl⟩
  have HN : Hid (n = xs.length) := by show _ = _; rw [hn, HX.out, sbytes_length]
  have hix := str_index s p hp
  rw [← HX.out] at hix hc ⊢
  have hxk : xs.getD p 0 < 256 := by rw [HX.out]; exact lt_get (sbytes_lt s) p
  obtain ⟨C, HC⟩ : ∃ C, Hid (C = chZ (chr (xs.drop p))) := ⟨_, rfl⟩
  rw [← HC.out]
  rw [← hn] at hp
  have HD : Hid (xs.drop p = xs.getD p 0 :: xs.drop (p + 1)) := cons_at (by rw [← HN.out]; exact hp)
  have HS : Hid (n = s.size) := hn
  have hlen : (s.size : Int) = (n : Int) := by rw [hn]
  clear hn
  generalize xs.getD p 0 = c at *
  have HV : Hid (C = 1) := by show _ = _; rw [HC.out, HD.out]; exact chZ_one (lo := 128) (hi := 191) (by unfold lead; rw [if_pos hc])
  clear HC HD
  have f0 : (c : Int) < 128 := by first | omega | (rw [beq_eq_false_iff_ne]; omega)
  go_enter Tryz.func34, Tryz.ntmps34
  go_wp2_with fail
  go_ret
  exact ⟨by rw [HV.out]; rfl, Below.refl _ _⟩
set_option maxHeartbeats 4000000 in
set_option maxRecDepth 100000 in
theorem rchar_b (s : ByteArray) (p : Nat) (w : World) (_ : s.size ≤ 4611686018427387904) (hp : p < s.size) (hc : 128 ≤ (sbytes s).getD p 0 ∧ (sbytes s).getD p 0 < 194) : ChAt s p w := by
  unfold ChAt
  obtain ⟨n, hn⟩ : ∃ n, n = s.size := ⟨_, rfl⟩
  obtain ⟨xs, HX⟩ : ∃ xs, Hid (xs = sbytes s) := ⟨_, rfl⟩
  have HN : Hid (n = xs.length) := by show _ = _; rw [hn, HX.out, sbytes_length]
  have hix := str_index s p hp
  rw [← HX.out] at hix hc ⊢
  have hxk : xs.getD p 0 < 256 := by rw [HX.out]; exact lt_get (sbytes_lt s) p
  obtain ⟨C, HC⟩ : ∃ C, Hid (C = chZ (chr (xs.drop p))) := ⟨_, rfl⟩
  rw [← HC.out]
  rw [← hn] at hp
  have HD : Hid (xs.drop p = xs.getD p 0 :: xs.drop (p + 1)) := cons_at (by rw [← HN.out]; exact hp)
  have HS : Hid (n = s.size) := hn
  have hlen : (s.size : Int) = (n : Int) := by rw [hn]
  clear hn
  generalize xs.getD p 0 = c at *
  have HV : Hid (C = 0) := by show _ = _; rw [HC.out, HD.out]; exact chZ_zero (lead_lo hc)
  clear HC HD
  have f0 : ¬ ((c : Int) < 128) := by first | omega | (rw [beq_eq_false_iff_ne]; omega)
  have f1 : ¬ ((194 : Int) ≤ (c : Int)) := by first | omega | (rw [beq_eq_false_iff_ne]; omega)
  have f2 : ¬ ((224 : Int) ≤ (c : Int)) := by first | omega | (rw [beq_eq_false_iff_ne]; omega)
  have f3 : ¬ ((240 : Int) ≤ (c : Int)) := by first | omega | (rw [beq_eq_false_iff_ne]; omega)
  go_enter Tryz.func34, Tryz.ntmps34
  go_wp2_with fail
  go_ret
  exact ⟨by rw [HV.out]; rfl, Below.refl _ _⟩
set_option maxHeartbeats 4000000 in
set_option maxRecDepth 100000 in
theorem rchar_z (s : ByteArray) (p : Nat) (w : World) (_ : s.size ≤ 4611686018427387904) (hp : p < s.size) (hc : 244 < (sbytes s).getD p 0) : ChAt s p w := by
  unfold ChAt
  obtain ⟨n, hn⟩ : ∃ n, n = s.size := ⟨_, rfl⟩
  obtain ⟨xs, HX⟩ : ∃ xs, Hid (xs = sbytes s) := ⟨_, rfl⟩
  have HN : Hid (n = xs.length) := by show _ = _; rw [hn, HX.out, sbytes_length]
  have hix := str_index s p hp
  rw [← HX.out] at hix hc ⊢
  have hxk : xs.getD p 0 < 256 := by rw [HX.out]; exact lt_get (sbytes_lt s) p
  obtain ⟨C, HC⟩ : ∃ C, Hid (C = chZ (chr (xs.drop p))) := ⟨_, rfl⟩
  rw [← HC.out]
  rw [← hn] at hp
  have HD : Hid (xs.drop p = xs.getD p 0 :: xs.drop (p + 1)) := cons_at (by rw [← HN.out]; exact hp)
  have HS : Hid (n = s.size) := hn
  have hlen : (s.size : Int) = (n : Int) := by rw [hn]
  clear hn
  generalize xs.getD p 0 = c at *
  have HV : Hid (C = 0) := by show _ = _; rw [HC.out, HD.out]; exact chZ_zero (lead_hi hc)
  clear HC HD
  have f0 : ¬ ((c : Int) < 128) := by first | omega | (rw [beq_eq_false_iff_ne]; omega)
  have f1 : (194 : Int) ≤ (c : Int) := by first | omega | (rw [beq_eq_false_iff_ne]; omega)
  have f2 : ¬ ((c : Int) ≤ 223) := by first | omega | (rw [beq_eq_false_iff_ne]; omega)
  have f3 : (224 : Int) ≤ (c : Int) := by first | omega | (rw [beq_eq_false_iff_ne]; omega)
  have f4 : ¬ ((c : Int) ≤ 239) := by first | omega | (rw [beq_eq_false_iff_ne]; omega)
  have f5 : (240 : Int) ≤ (c : Int) := by first | omega | (rw [beq_eq_false_iff_ne]; omega)
  have f6 : ¬ ((c : Int) ≤ 244) := by first | omega | (rw [beq_eq_false_iff_ne]; omega)
  go_enter Tryz.func34, Tryz.ntmps34
  go_wp2_with fail
  go_ret
  exact ⟨by rw [HV.out]; rfl, Below.refl _ _⟩
set_option maxHeartbeats 4000000 in
set_option maxRecDepth 100000 in
theorem rchar_C2 (s : ByteArray) (p : Nat) (w : World) (hl : s.size ≤ 4611686018427387904) (hp : p < s.size) (hc : 194 ≤ (sbytes s).getD p 0 ∧ (sbytes s).getD p 0 < 224) : ChAt s p w := by
  unfold ChAt
  obtain ⟨n, hn⟩ : ∃ n, n = s.size := ⟨_, rfl⟩
  obtain ⟨xs, HX⟩ : ∃ xs, Hid (xs = sbytes s) := ⟨_, rfl⟩
  have HN : Hid (n = xs.length) := by show _ = _; rw [hn, HX.out, sbytes_length]
  have hix := str_index s p hp
  rw [← HX.out] at hix hc ⊢
  have hxk : xs.getD p 0 < 256 := by rw [HX.out]; exact lt_get (sbytes_lt s) p
  obtain ⟨C, HC⟩ : ∃ C, Hid (C = chZ (chr (xs.drop p))) := ⟨_, rfl⟩
  rw [← HC.out]
  rw [← hn] at hl hp
  have HD : Hid (xs.drop p = xs.getD p 0 :: xs.drop (p + 1)) := cons_at (by rw [← HN.out]; exact hp)
  have HS : Hid (n = s.size) := hn
  have hlen : (s.size : Int) = (n : Int) := by rw [hn]
  clear hn
  generalize xs.getD p 0 = c at *
  have HV : Hid (C = chZ (conts 2 (2 - 1) 128 191 (xs.drop (p + 1)))) := by show _ = _; rw [HC.out, HD.out]; exact chZ_more (m := 1) (lead_C2 hc)
  clear HC HD
  have f0 : ¬ ((c : Int) < 128) := by first | omega | (rw [beq_eq_false_iff_ne]; omega)
  have f1 : (194 : Int) ≤ (c : Int) := by first | omega | (rw [beq_eq_false_iff_ne]; omega)
  have f2 : (c : Int) ≤ 223 := by first | omega | (rw [beq_eq_false_iff_ne]; omega)
  have f3 : ((c : Int) == 224) = false := by first | omega | (rw [beq_eq_false_iff_ne]; omega)
  have f4 : ((c : Int) == 237) = false := by first | omega | (rw [beq_eq_false_iff_ne]; omega)
  have f5 : ((c : Int) == 240) = false := by first | omega | (rw [beq_eq_false_iff_ne]; omega)
  have f6 : ((c : Int) == 244) = false := by first | omega | (rw [beq_eq_false_iff_ne]; omega)
  go_enter Tryz.func34, Tryz.ntmps34
  go_wp2_with fail
  go_loopw [7, 8, 9] (fun a b i wr => ∃ lo hi k : Nat, (1 ≤ k ∧ k ≤ 2 ∧ lo < 256 ∧ hi < 256) ∧ a = .int .i64 (lo : Int) ∧ b = .int .i64 (hi : Int) ∧ i = .int .i64 (k : Int) ∧ Hid (C = chZ (conts 2 (2 - k) lo hi (xs.drop (p + k)))) ∧ Hid (Below w.heap.size w wr)) (fun _ _ i _ => 2 - (intOf i).toNat)
  case atStart => exact ⟨128, 191, 1, ⟨by decide, by decide, by decide, by decide⟩, rfl, rfl, rfl, HV, Below.refl _ _⟩
  case round =>
    clear HV
    obtain ⟨lo, hi, k, ⟨h1, hk, hlo, hhi⟩, rfl, rfl, rfl, HV, HB⟩ := hrel
    by_cases hkm : k < 2
    · have d1 : (k : Int) < 2 := by omega
      have HM : Hid (2 - k = (2 - (k + 1)) + 1) := by show _ = _; omega
      by_cases hin : p + k < n
      · have d2 : ¬ ((n : Int) ≤ (p : Int) + (k : Int)) := by omega
        have hi2 := str_index_at s (p + k) ((p : Int) + (k : Int)) (by omega) (by rw [← HS.out]; omega)
        rw [← HX.out] at hi2
        have hyk : xs.getD (p + k) 0 < 256 := by rw [HX.out]; exact lt_get (sbytes_lt s) (p + k)
        have HIN : Hid (lo ≤ xs.getD (p + k) 0 → xs.getD (p + k) 0 ≤ hi → C = chZ (conts 2 (2 - (k + 1)) 128 191 (xs.drop (p + (k + 1))))) := fun a b => by
          rw [HV.out, HM.out, conts_in (by rw [← HN.out]; exact hin) a b]; rfl
        have HOUT : Hid (¬ (lo ≤ xs.getD (p + k) 0 ∧ xs.getD (p + k) 0 ≤ hi) → C = 0) := fun a => by
          rw [HV.out, HM.out, conts_out (by rw [← HN.out]; exact hin) a]
        generalize xs.getD (p + k) 0 = y at *
        by_cases hy1 : y < lo
        · have g1 : (y : Int) < (lo : Int) := by omega
          have HZ := hide (HOUT.out (by omega))
          clear HOUT HIN
          go_wp2_with fail
          go_ret
          exact ⟨by rw [HZ.out]; rfl, HB.out⟩
        · have g1 : ¬ ((y : Int) < (lo : Int)) := by omega
          by_cases hy2 : hi < y
          · have g2 : (hi : Int) < (y : Int) := by omega
            have HZ := hide (HOUT.out (by omega))
            clear HOUT HIN
            go_wp2_with fail
            go_ret
            exact ⟨by rw [HZ.out]; rfl, HB.out⟩
          · have g2 : ¬ ((hi : Int) < (y : Int)) := by omega
            have HZ := hide (HIN.out (by omega) (by omega))
            clear HOUT HIN
            go_wp2_with fail
            go_roundw
            case rel => exact ⟨128, 191, k + 1, ⟨by omega, by omega, by decide, by decide⟩, rfl, rfl, by go_num, HZ, HB⟩
            case measure => simp [intOf]; omega
      · have d2 : (n : Int) ≤ (p : Int) + (k : Int) := by omega
        have HZ : Hid (C = -1) := by show _ = _; rw [HV.out, HM.out, conts_short (by rw [← HN.out]; omega)]
        go_wp2_with fail
        go_ret
        exact ⟨by rw [HZ.out]; rfl, HB.out⟩
    · have d1 : ¬ ((k : Int) < 2) := by omega
      have HZ : Hid (C = 2) := by show _ = _; rw [HV.out, show 2 - k = 0 by omega, conts_end]; rfl
      go_wp2_with fail
      go_ret
      exact ⟨by rw [HZ.out]; rfl, HB.out⟩
set_option maxHeartbeats 4000000 in
set_option maxRecDepth 100000 in
theorem rchar_E0 (s : ByteArray) (p : Nat) (w : World) (hl : s.size ≤ 4611686018427387904) (hp : p < s.size) (hc : (sbytes s).getD p 0 = 224) : ChAt s p w := by
  unfold ChAt
  obtain ⟨n, hn⟩ : ∃ n, n = s.size := ⟨_, rfl⟩
  obtain ⟨xs, HX⟩ : ∃ xs, Hid (xs = sbytes s) := ⟨_, rfl⟩
  have HN : Hid (n = xs.length) := by show _ = _; rw [hn, HX.out, sbytes_length]
  have hix := str_index s p hp
  rw [← HX.out] at hix hc ⊢
  have hxk : xs.getD p 0 < 256 := by rw [HX.out]; exact lt_get (sbytes_lt s) p
  obtain ⟨C, HC⟩ : ∃ C, Hid (C = chZ (chr (xs.drop p))) := ⟨_, rfl⟩
  rw [← HC.out]
  rw [← hn] at hl hp
  have HD : Hid (xs.drop p = xs.getD p 0 :: xs.drop (p + 1)) := cons_at (by rw [← HN.out]; exact hp)
  have HS : Hid (n = s.size) := hn
  have hlen : (s.size : Int) = (n : Int) := by rw [hn]
  clear hn
  generalize xs.getD p 0 = c at *
  have HV : Hid (C = chZ (conts 3 (3 - 1) 160 191 (xs.drop (p + 1)))) := by show _ = _; rw [HC.out, HD.out]; exact chZ_more (m := 2) (lead_E0 hc)
  clear HC HD
  subst hc
  go_enter Tryz.func34, Tryz.ntmps34
  go_wp2_with fail
  go_loopw [7, 8, 9] (fun a b i wr => ∃ lo hi k : Nat, (1 ≤ k ∧ k ≤ 3 ∧ lo < 256 ∧ hi < 256) ∧ a = .int .i64 (lo : Int) ∧ b = .int .i64 (hi : Int) ∧ i = .int .i64 (k : Int) ∧ Hid (C = chZ (conts 3 (3 - k) lo hi (xs.drop (p + k)))) ∧ Hid (Below w.heap.size w wr)) (fun _ _ i _ => 3 - (intOf i).toNat)
  case atStart => exact ⟨160, 191, 1, ⟨by decide, by decide, by decide, by decide⟩, rfl, rfl, rfl, HV, Below.refl _ _⟩
  case round =>
    clear HV
    obtain ⟨lo, hi, k, ⟨h1, hk, hlo, hhi⟩, rfl, rfl, rfl, HV, HB⟩ := hrel
    by_cases hkm : k < 3
    · have d1 : (k : Int) < 3 := by omega
      have HM : Hid (3 - k = (3 - (k + 1)) + 1) := by show _ = _; omega
      by_cases hin : p + k < n
      · have d2 : ¬ ((n : Int) ≤ (p : Int) + (k : Int)) := by omega
        have hi2 := str_index_at s (p + k) ((p : Int) + (k : Int)) (by omega) (by rw [← HS.out]; omega)
        rw [← HX.out] at hi2
        have hyk : xs.getD (p + k) 0 < 256 := by rw [HX.out]; exact lt_get (sbytes_lt s) (p + k)
        have HIN : Hid (lo ≤ xs.getD (p + k) 0 → xs.getD (p + k) 0 ≤ hi → C = chZ (conts 3 (3 - (k + 1)) 128 191 (xs.drop (p + (k + 1))))) := fun a b => by
          rw [HV.out, HM.out, conts_in (by rw [← HN.out]; exact hin) a b]; rfl
        have HOUT : Hid (¬ (lo ≤ xs.getD (p + k) 0 ∧ xs.getD (p + k) 0 ≤ hi) → C = 0) := fun a => by
          rw [HV.out, HM.out, conts_out (by rw [← HN.out]; exact hin) a]
        generalize xs.getD (p + k) 0 = y at *
        by_cases hy1 : y < lo
        · have g1 : (y : Int) < (lo : Int) := by omega
          have HZ := hide (HOUT.out (by omega))
          clear HOUT HIN
          go_wp2_with fail
          go_ret
          exact ⟨by rw [HZ.out]; rfl, HB.out⟩
        · have g1 : ¬ ((y : Int) < (lo : Int)) := by omega
          by_cases hy2 : hi < y
          · have g2 : (hi : Int) < (y : Int) := by omega
            have HZ := hide (HOUT.out (by omega))
            clear HOUT HIN
            go_wp2_with fail
            go_ret
            exact ⟨by rw [HZ.out]; rfl, HB.out⟩
          · have g2 : ¬ ((hi : Int) < (y : Int)) := by omega
            have HZ := hide (HIN.out (by omega) (by omega))
            clear HOUT HIN
            go_wp2_with fail
            go_roundw
            case rel => exact ⟨128, 191, k + 1, ⟨by omega, by omega, by decide, by decide⟩, rfl, rfl, by go_num, HZ, HB⟩
            case measure => simp [intOf]; omega
      · have d2 : (n : Int) ≤ (p : Int) + (k : Int) := by omega
        have HZ : Hid (C = -1) := by show _ = _; rw [HV.out, HM.out, conts_short (by rw [← HN.out]; omega)]
        go_wp2_with fail
        go_ret
        exact ⟨by rw [HZ.out]; rfl, HB.out⟩
    · have d1 : ¬ ((k : Int) < 3) := by omega
      have HZ : Hid (C = 3) := by show _ = _; rw [HV.out, show 3 - k = 0 by omega, conts_end]; rfl
      go_wp2_with fail
      go_ret
      exact ⟨by rw [HZ.out]; rfl, HB.out⟩
set_option maxHeartbeats 4000000 in
set_option maxRecDepth 100000 in
theorem rchar_E1 (s : ByteArray) (p : Nat) (w : World) (hl : s.size ≤ 4611686018427387904) (hp : p < s.size) (hc : (225 ≤ (sbytes s).getD p 0 ∧ (sbytes s).getD p 0 < 237) ∨ (238 ≤ (sbytes s).getD p 0 ∧ (sbytes s).getD p 0 < 240)) : ChAt s p w := by
  unfold ChAt
  obtain ⟨n, hn⟩ : ∃ n, n = s.size := ⟨_, rfl⟩
  obtain ⟨xs, HX⟩ : ∃ xs, Hid (xs = sbytes s) := ⟨_, rfl⟩
  have HN : Hid (n = xs.length) := by show _ = _; rw [hn, HX.out, sbytes_length]
  have hix := str_index s p hp
  rw [← HX.out] at hix hc ⊢
  have hxk : xs.getD p 0 < 256 := by rw [HX.out]; exact lt_get (sbytes_lt s) p
  obtain ⟨C, HC⟩ : ∃ C, Hid (C = chZ (chr (xs.drop p))) := ⟨_, rfl⟩
  rw [← HC.out]
  rw [← hn] at hl hp
  have HD : Hid (xs.drop p = xs.getD p 0 :: xs.drop (p + 1)) := cons_at (by rw [← HN.out]; exact hp)
  have HS : Hid (n = s.size) := hn
  have hlen : (s.size : Int) = (n : Int) := by rw [hn]
  clear hn
  generalize xs.getD p 0 = c at *
  have HV : Hid (C = chZ (conts 3 (3 - 1) 128 191 (xs.drop (p + 1)))) := by show _ = _; rw [HC.out, HD.out]; exact chZ_more (m := 2) (lead_E1 hc)
  clear HC HD
  have f0 : ¬ ((c : Int) < 128) := by first | omega | (rw [beq_eq_false_iff_ne]; omega)
  have f1 : (194 : Int) ≤ (c : Int) := by first | omega | (rw [beq_eq_false_iff_ne]; omega)
  have f2 : ¬ ((c : Int) ≤ 223) := by first | omega | (rw [beq_eq_false_iff_ne]; omega)
  have f3 : (224 : Int) ≤ (c : Int) := by first | omega | (rw [beq_eq_false_iff_ne]; omega)
  have f4 : (c : Int) ≤ 239 := by first | omega | (rw [beq_eq_false_iff_ne]; omega)
  have f5 : ((c : Int) == 224) = false := by first | omega | (rw [beq_eq_false_iff_ne]; omega)
  have f6 : ((c : Int) == 237) = false := by first | omega | (rw [beq_eq_false_iff_ne]; omega)
  have f7 : ((c : Int) == 240) = false := by first | omega | (rw [beq_eq_false_iff_ne]; omega)
  have f8 : ((c : Int) == 244) = false := by first | omega | (rw [beq_eq_false_iff_ne]; omega)
  go_enter Tryz.func34, Tryz.ntmps34
  go_wp2_with fail
  go_loopw [7, 8, 9] (fun a b i wr => ∃ lo hi k : Nat, (1 ≤ k ∧ k ≤ 3 ∧ lo < 256 ∧ hi < 256) ∧ a = .int .i64 (lo : Int) ∧ b = .int .i64 (hi : Int) ∧ i = .int .i64 (k : Int) ∧ Hid (C = chZ (conts 3 (3 - k) lo hi (xs.drop (p + k)))) ∧ Hid (Below w.heap.size w wr)) (fun _ _ i _ => 3 - (intOf i).toNat)
  case atStart => exact ⟨128, 191, 1, ⟨by decide, by decide, by decide, by decide⟩, rfl, rfl, rfl, HV, Below.refl _ _⟩
  case round =>
    clear HV
    obtain ⟨lo, hi, k, ⟨h1, hk, hlo, hhi⟩, rfl, rfl, rfl, HV, HB⟩ := hrel
    by_cases hkm : k < 3
    · have d1 : (k : Int) < 3 := by omega
      have HM : Hid (3 - k = (3 - (k + 1)) + 1) := by show _ = _; omega
      by_cases hin : p + k < n
      · have d2 : ¬ ((n : Int) ≤ (p : Int) + (k : Int)) := by omega
        have hi2 := str_index_at s (p + k) ((p : Int) + (k : Int)) (by omega) (by rw [← HS.out]; omega)
        rw [← HX.out] at hi2
        have hyk : xs.getD (p + k) 0 < 256 := by rw [HX.out]; exact lt_get (sbytes_lt s) (p + k)
        have HIN : Hid (lo ≤ xs.getD (p + k) 0 → xs.getD (p + k) 0 ≤ hi → C = chZ (conts 3 (3 - (k + 1)) 128 191 (xs.drop (p + (k + 1))))) := fun a b => by
          rw [HV.out, HM.out, conts_in (by rw [← HN.out]; exact hin) a b]; rfl
        have HOUT : Hid (¬ (lo ≤ xs.getD (p + k) 0 ∧ xs.getD (p + k) 0 ≤ hi) → C = 0) := fun a => by
          rw [HV.out, HM.out, conts_out (by rw [← HN.out]; exact hin) a]
        generalize xs.getD (p + k) 0 = y at *
        by_cases hy1 : y < lo
        · have g1 : (y : Int) < (lo : Int) := by omega
          have HZ := hide (HOUT.out (by omega))
          clear HOUT HIN
          go_wp2_with fail
          go_ret
          exact ⟨by rw [HZ.out]; rfl, HB.out⟩
        · have g1 : ¬ ((y : Int) < (lo : Int)) := by omega
          by_cases hy2 : hi < y
          · have g2 : (hi : Int) < (y : Int) := by omega
            have HZ := hide (HOUT.out (by omega))
            clear HOUT HIN
            go_wp2_with fail
            go_ret
            exact ⟨by rw [HZ.out]; rfl, HB.out⟩
          · have g2 : ¬ ((hi : Int) < (y : Int)) := by omega
            have HZ := hide (HIN.out (by omega) (by omega))
            clear HOUT HIN
            go_wp2_with fail
            go_roundw
            case rel => exact ⟨128, 191, k + 1, ⟨by omega, by omega, by decide, by decide⟩, rfl, rfl, by go_num, HZ, HB⟩
            case measure => simp [intOf]; omega
      · have d2 : (n : Int) ≤ (p : Int) + (k : Int) := by omega
        have HZ : Hid (C = -1) := by show _ = _; rw [HV.out, HM.out, conts_short (by rw [← HN.out]; omega)]
        go_wp2_with fail
        go_ret
        exact ⟨by rw [HZ.out]; rfl, HB.out⟩
    · have d1 : ¬ ((k : Int) < 3) := by omega
      have HZ : Hid (C = 3) := by show _ = _; rw [HV.out, show 3 - k = 0 by omega, conts_end]; rfl
      go_wp2_with fail
      go_ret
      exact ⟨by rw [HZ.out]; rfl, HB.out⟩
set_option maxHeartbeats 4000000 in
set_option maxRecDepth 100000 in
theorem rchar_ED (s : ByteArray) (p : Nat) (w : World) (hl : s.size ≤ 4611686018427387904) (hp : p < s.size) (hc : (sbytes s).getD p 0 = 237) : ChAt s p w := by
  unfold ChAt
  obtain ⟨n, hn⟩ : ∃ n, n = s.size := ⟨_, rfl⟩
  obtain ⟨xs, HX⟩ : ∃ xs, Hid (xs = sbytes s) := ⟨_, rfl⟩
  have HN : Hid (n = xs.length) := by show _ = _; rw [hn, HX.out, sbytes_length]
  have hix := str_index s p hp
  rw [← HX.out] at hix hc ⊢
  have hxk : xs.getD p 0 < 256 := by rw [HX.out]; exact lt_get (sbytes_lt s) p
  obtain ⟨C, HC⟩ : ∃ C, Hid (C = chZ (chr (xs.drop p))) := ⟨_, rfl⟩
  rw [← HC.out]
  rw [← hn] at hl hp
  have HD : Hid (xs.drop p = xs.getD p 0 :: xs.drop (p + 1)) := cons_at (by rw [← HN.out]; exact hp)
  have HS : Hid (n = s.size) := hn
  have hlen : (s.size : Int) = (n : Int) := by rw [hn]
  clear hn
  generalize xs.getD p 0 = c at *
  have HV : Hid (C = chZ (conts 3 (3 - 1) 128 159 (xs.drop (p + 1)))) := by show _ = _; rw [HC.out, HD.out]; exact chZ_more (m := 2) (lead_ED hc)
  clear HC HD
  subst hc
  go_enter Tryz.func34, Tryz.ntmps34
  go_wp2_with fail
  go_loopw [7, 8, 9] (fun a b i wr => ∃ lo hi k : Nat, (1 ≤ k ∧ k ≤ 3 ∧ lo < 256 ∧ hi < 256) ∧ a = .int .i64 (lo : Int) ∧ b = .int .i64 (hi : Int) ∧ i = .int .i64 (k : Int) ∧ Hid (C = chZ (conts 3 (3 - k) lo hi (xs.drop (p + k)))) ∧ Hid (Below w.heap.size w wr)) (fun _ _ i _ => 3 - (intOf i).toNat)
  case atStart => exact ⟨128, 159, 1, ⟨by decide, by decide, by decide, by decide⟩, rfl, rfl, rfl, HV, Below.refl _ _⟩
  case round =>
    clear HV
    obtain ⟨lo, hi, k, ⟨h1, hk, hlo, hhi⟩, rfl, rfl, rfl, HV, HB⟩ := hrel
    by_cases hkm : k < 3
    · have d1 : (k : Int) < 3 := by omega
      have HM : Hid (3 - k = (3 - (k + 1)) + 1) := by show _ = _; omega
      by_cases hin : p + k < n
      · have d2 : ¬ ((n : Int) ≤ (p : Int) + (k : Int)) := by omega
        have hi2 := str_index_at s (p + k) ((p : Int) + (k : Int)) (by omega) (by rw [← HS.out]; omega)
        rw [← HX.out] at hi2
        have hyk : xs.getD (p + k) 0 < 256 := by rw [HX.out]; exact lt_get (sbytes_lt s) (p + k)
        have HIN : Hid (lo ≤ xs.getD (p + k) 0 → xs.getD (p + k) 0 ≤ hi → C = chZ (conts 3 (3 - (k + 1)) 128 191 (xs.drop (p + (k + 1))))) := fun a b => by
          rw [HV.out, HM.out, conts_in (by rw [← HN.out]; exact hin) a b]; rfl
        have HOUT : Hid (¬ (lo ≤ xs.getD (p + k) 0 ∧ xs.getD (p + k) 0 ≤ hi) → C = 0) := fun a => by
          rw [HV.out, HM.out, conts_out (by rw [← HN.out]; exact hin) a]
        generalize xs.getD (p + k) 0 = y at *
        by_cases hy1 : y < lo
        · have g1 : (y : Int) < (lo : Int) := by omega
          have HZ := hide (HOUT.out (by omega))
          clear HOUT HIN
          go_wp2_with fail
          go_ret
          exact ⟨by rw [HZ.out]; rfl, HB.out⟩
        · have g1 : ¬ ((y : Int) < (lo : Int)) := by omega
          by_cases hy2 : hi < y
          · have g2 : (hi : Int) < (y : Int) := by omega
            have HZ := hide (HOUT.out (by omega))
            clear HOUT HIN
            go_wp2_with fail
            go_ret
            exact ⟨by rw [HZ.out]; rfl, HB.out⟩
          · have g2 : ¬ ((hi : Int) < (y : Int)) := by omega
            have HZ := hide (HIN.out (by omega) (by omega))
            clear HOUT HIN
            go_wp2_with fail
            go_roundw
            case rel => exact ⟨128, 191, k + 1, ⟨by omega, by omega, by decide, by decide⟩, rfl, rfl, by go_num, HZ, HB⟩
            case measure => simp [intOf]; omega
      · have d2 : (n : Int) ≤ (p : Int) + (k : Int) := by omega
        have HZ : Hid (C = -1) := by show _ = _; rw [HV.out, HM.out, conts_short (by rw [← HN.out]; omega)]
        go_wp2_with fail
        go_ret
        exact ⟨by rw [HZ.out]; rfl, HB.out⟩
    · have d1 : ¬ ((k : Int) < 3) := by omega
      have HZ : Hid (C = 3) := by show _ = _; rw [HV.out, show 3 - k = 0 by omega, conts_end]; rfl
      go_wp2_with fail
      go_ret
      exact ⟨by rw [HZ.out]; rfl, HB.out⟩
set_option maxHeartbeats 4000000 in
set_option maxRecDepth 100000 in
theorem rchar_F0 (s : ByteArray) (p : Nat) (w : World) (hl : s.size ≤ 4611686018427387904) (hp : p < s.size) (hc : (sbytes s).getD p 0 = 240) : ChAt s p w := by
  unfold ChAt
  obtain ⟨n, hn⟩ : ∃ n, n = s.size := ⟨_, rfl⟩
  obtain ⟨xs, HX⟩ : ∃ xs, Hid (xs = sbytes s) := ⟨_, rfl⟩
  have HN : Hid (n = xs.length) := by show _ = _; rw [hn, HX.out, sbytes_length]
  have hix := str_index s p hp
  rw [← HX.out] at hix hc ⊢
  have hxk : xs.getD p 0 < 256 := by rw [HX.out]; exact lt_get (sbytes_lt s) p
  obtain ⟨C, HC⟩ : ∃ C, Hid (C = chZ (chr (xs.drop p))) := ⟨_, rfl⟩
  rw [← HC.out]
  rw [← hn] at hl hp
  have HD : Hid (xs.drop p = xs.getD p 0 :: xs.drop (p + 1)) := cons_at (by rw [← HN.out]; exact hp)
  have HS : Hid (n = s.size) := hn
  have hlen : (s.size : Int) = (n : Int) := by rw [hn]
  clear hn
  generalize xs.getD p 0 = c at *
  have HV : Hid (C = chZ (conts 4 (4 - 1) 144 191 (xs.drop (p + 1)))) := by show _ = _; rw [HC.out, HD.out]; exact chZ_more (m := 3) (lead_F0 hc)
  clear HC HD
  subst hc
  go_enter Tryz.func34, Tryz.ntmps34
  go_wp2_with fail
  go_loopw [7, 8, 9] (fun a b i wr => ∃ lo hi k : Nat, (1 ≤ k ∧ k ≤ 4 ∧ lo < 256 ∧ hi < 256) ∧ a = .int .i64 (lo : Int) ∧ b = .int .i64 (hi : Int) ∧ i = .int .i64 (k : Int) ∧ Hid (C = chZ (conts 4 (4 - k) lo hi (xs.drop (p + k)))) ∧ Hid (Below w.heap.size w wr)) (fun _ _ i _ => 4 - (intOf i).toNat)
  case atStart => exact ⟨144, 191, 1, ⟨by decide, by decide, by decide, by decide⟩, rfl, rfl, rfl, HV, Below.refl _ _⟩
  case round =>
    clear HV
    obtain ⟨lo, hi, k, ⟨h1, hk, hlo, hhi⟩, rfl, rfl, rfl, HV, HB⟩ := hrel
    by_cases hkm : k < 4
    · have d1 : (k : Int) < 4 := by omega
      have HM : Hid (4 - k = (4 - (k + 1)) + 1) := by show _ = _; omega
      by_cases hin : p + k < n
      · have d2 : ¬ ((n : Int) ≤ (p : Int) + (k : Int)) := by omega
        have hi2 := str_index_at s (p + k) ((p : Int) + (k : Int)) (by omega) (by rw [← HS.out]; omega)
        rw [← HX.out] at hi2
        have hyk : xs.getD (p + k) 0 < 256 := by rw [HX.out]; exact lt_get (sbytes_lt s) (p + k)
        have HIN : Hid (lo ≤ xs.getD (p + k) 0 → xs.getD (p + k) 0 ≤ hi → C = chZ (conts 4 (4 - (k + 1)) 128 191 (xs.drop (p + (k + 1))))) := fun a b => by
          rw [HV.out, HM.out, conts_in (by rw [← HN.out]; exact hin) a b]; rfl
        have HOUT : Hid (¬ (lo ≤ xs.getD (p + k) 0 ∧ xs.getD (p + k) 0 ≤ hi) → C = 0) := fun a => by
          rw [HV.out, HM.out, conts_out (by rw [← HN.out]; exact hin) a]
        generalize xs.getD (p + k) 0 = y at *
        by_cases hy1 : y < lo
        · have g1 : (y : Int) < (lo : Int) := by omega
          have HZ := hide (HOUT.out (by omega))
          clear HOUT HIN
          go_wp2_with fail
          go_ret
          exact ⟨by rw [HZ.out]; rfl, HB.out⟩
        · have g1 : ¬ ((y : Int) < (lo : Int)) := by omega
          by_cases hy2 : hi < y
          · have g2 : (hi : Int) < (y : Int) := by omega
            have HZ := hide (HOUT.out (by omega))
            clear HOUT HIN
            go_wp2_with fail
            go_ret
            exact ⟨by rw [HZ.out]; rfl, HB.out⟩
          · have g2 : ¬ ((hi : Int) < (y : Int)) := by omega
            have HZ := hide (HIN.out (by omega) (by omega))
            clear HOUT HIN
            go_wp2_with fail
            go_roundw
            case rel => exact ⟨128, 191, k + 1, ⟨by omega, by omega, by decide, by decide⟩, rfl, rfl, by go_num, HZ, HB⟩
            case measure => simp [intOf]; omega
      · have d2 : (n : Int) ≤ (p : Int) + (k : Int) := by omega
        have HZ : Hid (C = -1) := by show _ = _; rw [HV.out, HM.out, conts_short (by rw [← HN.out]; omega)]
        go_wp2_with fail
        go_ret
        exact ⟨by rw [HZ.out]; rfl, HB.out⟩
    · have d1 : ¬ ((k : Int) < 4) := by omega
      have HZ : Hid (C = 4) := by show _ = _; rw [HV.out, show 4 - k = 0 by omega, conts_end]; rfl
      go_wp2_with fail
      go_ret
      exact ⟨by rw [HZ.out]; rfl, HB.out⟩
set_option maxHeartbeats 4000000 in
set_option maxRecDepth 100000 in
theorem rchar_F1 (s : ByteArray) (p : Nat) (w : World) (hl : s.size ≤ 4611686018427387904) (hp : p < s.size) (hc : 241 ≤ (sbytes s).getD p 0 ∧ (sbytes s).getD p 0 < 244) : ChAt s p w := by
  unfold ChAt
  obtain ⟨n, hn⟩ : ∃ n, n = s.size := ⟨_, rfl⟩
  obtain ⟨xs, HX⟩ : ∃ xs, Hid (xs = sbytes s) := ⟨_, rfl⟩
  have HN : Hid (n = xs.length) := by show _ = _; rw [hn, HX.out, sbytes_length]
  have hix := str_index s p hp
  rw [← HX.out] at hix hc ⊢
  have hxk : xs.getD p 0 < 256 := by rw [HX.out]; exact lt_get (sbytes_lt s) p
  obtain ⟨C, HC⟩ : ∃ C, Hid (C = chZ (chr (xs.drop p))) := ⟨_, rfl⟩
  rw [← HC.out]
  rw [← hn] at hl hp
  have HD : Hid (xs.drop p = xs.getD p 0 :: xs.drop (p + 1)) := cons_at (by rw [← HN.out]; exact hp)
  have HS : Hid (n = s.size) := hn
  have hlen : (s.size : Int) = (n : Int) := by rw [hn]
  clear hn
  generalize xs.getD p 0 = c at *
  have HV : Hid (C = chZ (conts 4 (4 - 1) 128 191 (xs.drop (p + 1)))) := by show _ = _; rw [HC.out, HD.out]; exact chZ_more (m := 3) (lead_F1 hc)
  clear HC HD
  have f0 : ¬ ((c : Int) < 128) := by first | omega | (rw [beq_eq_false_iff_ne]; omega)
  have f1 : (194 : Int) ≤ (c : Int) := by first | omega | (rw [beq_eq_false_iff_ne]; omega)
  have f2 : ¬ ((c : Int) ≤ 223) := by first | omega | (rw [beq_eq_false_iff_ne]; omega)
  have f3 : (224 : Int) ≤ (c : Int) := by first | omega | (rw [beq_eq_false_iff_ne]; omega)
  have f4 : ¬ ((c : Int) ≤ 239) := by first | omega | (rw [beq_eq_false_iff_ne]; omega)
  have f5 : (240 : Int) ≤ (c : Int) := by first | omega | (rw [beq_eq_false_iff_ne]; omega)
  have f6 : (c : Int) ≤ 244 := by first | omega | (rw [beq_eq_false_iff_ne]; omega)
  have f7 : ((c : Int) == 224) = false := by first | omega | (rw [beq_eq_false_iff_ne]; omega)
  have f8 : ((c : Int) == 237) = false := by first | omega | (rw [beq_eq_false_iff_ne]; omega)
  have f9 : ((c : Int) == 240) = false := by first | omega | (rw [beq_eq_false_iff_ne]; omega)
  have f10 : ((c : Int) == 244) = false := by first | omega | (rw [beq_eq_false_iff_ne]; omega)
  go_enter Tryz.func34, Tryz.ntmps34
  go_wp2_with fail
  go_loopw [7, 8, 9] (fun a b i wr => ∃ lo hi k : Nat, (1 ≤ k ∧ k ≤ 4 ∧ lo < 256 ∧ hi < 256) ∧ a = .int .i64 (lo : Int) ∧ b = .int .i64 (hi : Int) ∧ i = .int .i64 (k : Int) ∧ Hid (C = chZ (conts 4 (4 - k) lo hi (xs.drop (p + k)))) ∧ Hid (Below w.heap.size w wr)) (fun _ _ i _ => 4 - (intOf i).toNat)
  case atStart => exact ⟨128, 191, 1, ⟨by decide, by decide, by decide, by decide⟩, rfl, rfl, rfl, HV, Below.refl _ _⟩
  case round =>
    clear HV
    obtain ⟨lo, hi, k, ⟨h1, hk, hlo, hhi⟩, rfl, rfl, rfl, HV, HB⟩ := hrel
    by_cases hkm : k < 4
    · have d1 : (k : Int) < 4 := by omega
      have HM : Hid (4 - k = (4 - (k + 1)) + 1) := by show _ = _; omega
      by_cases hin : p + k < n
      · have d2 : ¬ ((n : Int) ≤ (p : Int) + (k : Int)) := by omega
        have hi2 := str_index_at s (p + k) ((p : Int) + (k : Int)) (by omega) (by rw [← HS.out]; omega)
        rw [← HX.out] at hi2
        have hyk : xs.getD (p + k) 0 < 256 := by rw [HX.out]; exact lt_get (sbytes_lt s) (p + k)
        have HIN : Hid (lo ≤ xs.getD (p + k) 0 → xs.getD (p + k) 0 ≤ hi → C = chZ (conts 4 (4 - (k + 1)) 128 191 (xs.drop (p + (k + 1))))) := fun a b => by
          rw [HV.out, HM.out, conts_in (by rw [← HN.out]; exact hin) a b]; rfl
        have HOUT : Hid (¬ (lo ≤ xs.getD (p + k) 0 ∧ xs.getD (p + k) 0 ≤ hi) → C = 0) := fun a => by
          rw [HV.out, HM.out, conts_out (by rw [← HN.out]; exact hin) a]
        generalize xs.getD (p + k) 0 = y at *
        by_cases hy1 : y < lo
        · have g1 : (y : Int) < (lo : Int) := by omega
          have HZ := hide (HOUT.out (by omega))
          clear HOUT HIN
          go_wp2_with fail
          go_ret
          exact ⟨by rw [HZ.out]; rfl, HB.out⟩
        · have g1 : ¬ ((y : Int) < (lo : Int)) := by omega
          by_cases hy2 : hi < y
          · have g2 : (hi : Int) < (y : Int) := by omega
            have HZ := hide (HOUT.out (by omega))
            clear HOUT HIN
            go_wp2_with fail
            go_ret
            exact ⟨by rw [HZ.out]; rfl, HB.out⟩
          · have g2 : ¬ ((hi : Int) < (y : Int)) := by omega
            have HZ := hide (HIN.out (by omega) (by omega))
            clear HOUT HIN
            go_wp2_with fail
            go_roundw
            case rel => exact ⟨128, 191, k + 1, ⟨by omega, by omega, by decide, by decide⟩, rfl, rfl, by go_num, HZ, HB⟩
            case measure => simp [intOf]; omega
      · have d2 : (n : Int) ≤ (p : Int) + (k : Int) := by omega
        have HZ : Hid (C = -1) := by show _ = _; rw [HV.out, HM.out, conts_short (by rw [← HN.out]; omega)]
        go_wp2_with fail
        go_ret
        exact ⟨by rw [HZ.out]; rfl, HB.out⟩
    · have d1 : ¬ ((k : Int) < 4) := by omega
      have HZ : Hid (C = 4) := by show _ = _; rw [HV.out, show 4 - k = 0 by omega, conts_end]; rfl
      go_wp2_with fail
      go_ret
      exact ⟨by rw [HZ.out]; rfl, HB.out⟩
set_option maxHeartbeats 4000000 in
set_option maxRecDepth 100000 in
theorem rchar_F4 (s : ByteArray) (p : Nat) (w : World) (hl : s.size ≤ 4611686018427387904) (hp : p < s.size) (hc : (sbytes s).getD p 0 = 244) : ChAt s p w := by
  unfold ChAt
  obtain ⟨n, hn⟩ : ∃ n, n = s.size := ⟨_, rfl⟩
  obtain ⟨xs, HX⟩ : ∃ xs, Hid (xs = sbytes s) := ⟨_, rfl⟩
  have HN : Hid (n = xs.length) := by show _ = _; rw [hn, HX.out, sbytes_length]
  have hix := str_index s p hp
  rw [← HX.out] at hix hc ⊢
  have hxk : xs.getD p 0 < 256 := by rw [HX.out]; exact lt_get (sbytes_lt s) p
  obtain ⟨C, HC⟩ : ∃ C, Hid (C = chZ (chr (xs.drop p))) := ⟨_, rfl⟩
  rw [← HC.out]
  rw [← hn] at hl hp
  have HD : Hid (xs.drop p = xs.getD p 0 :: xs.drop (p + 1)) := cons_at (by rw [← HN.out]; exact hp)
  have HS : Hid (n = s.size) := hn
  have hlen : (s.size : Int) = (n : Int) := by rw [hn]
  clear hn
  generalize xs.getD p 0 = c at *
  have HV : Hid (C = chZ (conts 4 (4 - 1) 128 143 (xs.drop (p + 1)))) := by show _ = _; rw [HC.out, HD.out]; exact chZ_more (m := 3) (lead_F4 hc)
  clear HC HD
  subst hc
  go_enter Tryz.func34, Tryz.ntmps34
  go_wp2_with fail
  go_loopw [7, 8, 9] (fun a b i wr => ∃ lo hi k : Nat, (1 ≤ k ∧ k ≤ 4 ∧ lo < 256 ∧ hi < 256) ∧ a = .int .i64 (lo : Int) ∧ b = .int .i64 (hi : Int) ∧ i = .int .i64 (k : Int) ∧ Hid (C = chZ (conts 4 (4 - k) lo hi (xs.drop (p + k)))) ∧ Hid (Below w.heap.size w wr)) (fun _ _ i _ => 4 - (intOf i).toNat)
  case atStart => exact ⟨128, 143, 1, ⟨by decide, by decide, by decide, by decide⟩, rfl, rfl, rfl, HV, Below.refl _ _⟩
  case round =>
    clear HV
    obtain ⟨lo, hi, k, ⟨h1, hk, hlo, hhi⟩, rfl, rfl, rfl, HV, HB⟩ := hrel
    by_cases hkm : k < 4
    · have d1 : (k : Int) < 4 := by omega
      have HM : Hid (4 - k = (4 - (k + 1)) + 1) := by show _ = _; omega
      by_cases hin : p + k < n
      · have d2 : ¬ ((n : Int) ≤ (p : Int) + (k : Int)) := by omega
        have hi2 := str_index_at s (p + k) ((p : Int) + (k : Int)) (by omega) (by rw [← HS.out]; omega)
        rw [← HX.out] at hi2
        have hyk : xs.getD (p + k) 0 < 256 := by rw [HX.out]; exact lt_get (sbytes_lt s) (p + k)
        have HIN : Hid (lo ≤ xs.getD (p + k) 0 → xs.getD (p + k) 0 ≤ hi → C = chZ (conts 4 (4 - (k + 1)) 128 191 (xs.drop (p + (k + 1))))) := fun a b => by
          rw [HV.out, HM.out, conts_in (by rw [← HN.out]; exact hin) a b]; rfl
        have HOUT : Hid (¬ (lo ≤ xs.getD (p + k) 0 ∧ xs.getD (p + k) 0 ≤ hi) → C = 0) := fun a => by
          rw [HV.out, HM.out, conts_out (by rw [← HN.out]; exact hin) a]
        generalize xs.getD (p + k) 0 = y at *
        by_cases hy1 : y < lo
        · have g1 : (y : Int) < (lo : Int) := by omega
          have HZ := hide (HOUT.out (by omega))
          clear HOUT HIN
          go_wp2_with fail
          go_ret
          exact ⟨by rw [HZ.out]; rfl, HB.out⟩
        · have g1 : ¬ ((y : Int) < (lo : Int)) := by omega
          by_cases hy2 : hi < y
          · have g2 : (hi : Int) < (y : Int) := by omega
            have HZ := hide (HOUT.out (by omega))
            clear HOUT HIN
            go_wp2_with fail
            go_ret
            exact ⟨by rw [HZ.out]; rfl, HB.out⟩
          · have g2 : ¬ ((hi : Int) < (y : Int)) := by omega
            have HZ := hide (HIN.out (by omega) (by omega))
            clear HOUT HIN
            go_wp2_with fail
            go_roundw
            case rel => exact ⟨128, 191, k + 1, ⟨by omega, by omega, by decide, by decide⟩, rfl, rfl, by go_num, HZ, HB⟩
            case measure => simp [intOf]; omega
      · have d2 : (n : Int) ≤ (p : Int) + (k : Int) := by omega
        have HZ : Hid (C = -1) := by show _ = _; rw [HV.out, HM.out, conts_short (by rw [← HN.out]; omega)]
        go_wp2_with fail
        go_ret
        exact ⟨by rw [HZ.out]; rfl, HB.out⟩
    · have d1 : ¬ ((k : Int) < 4) := by omega
      have HZ : Hid (C = 4) := by show _ = _; rw [HV.out, show 4 - k = 0 by omega, conts_end]; rfl
      go_wp2_with fail
      go_ret
      exact ⟨by rw [HZ.out]; rfl, HB.out⟩
theorem rchar_any (s : ByteArray) (p : Nat) (w : World) (hl : s.size ≤ 4611686018427387904) (hp : p < s.size) : ChAt s p w := by
  by_cases h1 : (sbytes s).getD p 0 < 128
  · exact rchar_a s p w hl hp h1
  by_cases h2 : (sbytes s).getD p 0 < 194
  · exact rchar_b s p w hl hp ⟨by omega, h2⟩
  by_cases h3 : (sbytes s).getD p 0 < 224
  · exact rchar_C2 s p w hl hp ⟨by omega, h3⟩
  by_cases h4 : (sbytes s).getD p 0 = 224
  · exact rchar_E0 s p w hl hp h4
  by_cases h5 : (sbytes s).getD p 0 = 237
  · exact rchar_ED s p w hl hp h5
  by_cases h6 : (sbytes s).getD p 0 < 240
  · exact rchar_E1 s p w hl hp (by omega)
  by_cases h7 : (sbytes s).getD p 0 = 240
  · exact rchar_F0 s p w hl hp h7
  by_cases h8 : (sbytes s).getD p 0 < 244
  · exact rchar_F1 s p w hl hp (by omega)
  by_cases h9 : (sbytes s).getD p 0 = 244
  · exact rchar_F4 s p w hl hp h9
  · exact rchar_z s p w hl hp (by omega)
end Go.Proofs.YtlebockgdonceaaGreatDoor
