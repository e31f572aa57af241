/- A number's literal: as the program reads it, and as the states say. As the program reads a literal, so do the states. -/
import Derived.Test.YtlebockgdonceaaGreatDoorJBase
import Derived.Test.YtlebockgdonceaaGreatDoorKMath
namespace Go.Proofs.YtlebockgdonceaaGreatDoor
open Go.RowKit

/-- The place behind the digits that stand from a place on. -/
def dig (s : By) (p : Nat) : Nat := p + ((s.drop p).takeWhile isDigit).length
theorem dig_step {s : By} {p : Nat} (h : p < s.length) (hb : isDigit (bt s p) = true) : dig s p = dig s (p + 1) := by
  unfold dig; rw [drop_bt h, List.takeWhile_cons, if_pos hb, List.length_cons]; omega
theorem dig_stop {s : By} {p : Nat} (hb : isDigit (bt s p) = false) : dig s p = p := by
  unfold dig
  by_cases h : p < s.length
  · rw [drop_bt h, List.takeWhile_cons, hb]; simp
  · rw [List.drop_eq_nil_of_le (by omega)]; simp
theorem dig_end {s : By} {p : Nat} (h : s.length ≤ p) : dig s p = p := by
  unfold dig; rw [List.drop_eq_nil_of_le h]; simp
theorem dig_ge (s : By) (p : Nat) : p ≤ dig s p := by unfold dig; omega
theorem dig_le {s : By} {p : Nat} (h : p ≤ s.length) : dig s p ≤ s.length := by
  have := takeWhile_le isDigit (s.drop p)
  rw [List.length_drop] at this
  unfold dig; omega
theorem digit_set (c : Nat) : hasB (sbytes ⟨#[48, 49, 50, 51, 52, 53, 54, 55, 56, 57]⟩) c = isDigit c := by
  rw [Bool.eq_iff_iff]
  simp [hasB, sbytes, isDigit]
  omega
set_option maxHeartbeats 1000000 in
set_option maxRecDepth 100000 in
theorem digits_any (s : ByteArray) (p : Nat) (w : World) (hp : p ≤ s.size) (hs : s.size ≤ 9223372036854775806) :
    Calls Tryz.prog 58 #[.string s, .int .i64 (p : Int)] w fun e w' => e = .returned (.int .i64 ((dig (sbytes s) p : Nat) : Int)) ∧ w' = w := by
  have hl := sbytes_length s
  have HL := hide hl
  clear hl
  go_enter Tryz.func58, Tryz.ntmps58
  go_wp2_with fail
  go_loop [1] (fun i => ∃ k : Nat, k ≤ s.size ∧ i = .int .i64 k ∧ Hid (dig (sbytes s) k = dig (sbytes s) p)) (fun i => s.size - (intOf i).toNat)
  case atStart => exact ⟨p, hp, rfl, rfl⟩
  case round =>
    obtain ⟨k, hk, rfl, HK⟩ := hrel
    cases hst : standsB (sbytes s) k (sbytes ⟨#[48, 49, 50, 51, 52, 53, 54, 55, 56, 57]⟩) with
    | true =>
      have HS : Hid (k < s.size ∧ dig (sbytes s) k = dig (sbytes s) (k + 1)) := by
        have h2 := hst
        unfold standsB at h2
        rw [digit_set, HL.out] at h2
        simp only [Bool.and_eq_true, decide_eq_true_eq] at h2
        exact ⟨h2.1, dig_step (by rw [HL.out]; exact h2.1) h2.2⟩
      have hk2 := HS.out.1
      go_wp2_with fail
      refine (stands_any s k _ _).mono ?_
      rintro e w' ⟨rfl, rfl⟩
      rw [hst]
      go_wp2_with fail
      go_round
      case rel => exact ⟨k + 1, by omega, by go_num, by show _ = _; rw [← HS.out.2]; exact HK.out⟩
      case measure => simp [intOf]; omega
    | false =>
      have HS : Hid (dig (sbytes s) k = k) := by
        have h2 := hst
        unfold standsB at h2
        rw [digit_set, HL.out] at h2
        by_cases h3 : k < s.size
        · rw [decide_eq_true h3] at h2
          exact dig_stop h2
        · exact dig_end (by rw [HL.out]; omega)
      go_wp2_with fail
      refine (stands_any s k _ _).mono ?_
      rintro e w' ⟨rfl, rfl⟩
      rw [hst]
      go_wp2_with fail
      go_ret
      refine ⟨?_, rfl⟩
      rw [← HK.out, HS.out]
      rfl

theorem stands_i (s : ByteArray) (i : Int) (set : ByteArray) (w : World) (hi : 0 ≤ i) :
    Calls Tryz.prog 22 #[.string s, .int .i64 i, .string set] w fun e w' => e = .returned (.bool (standsB (sbytes s) i.toNat (sbytes set))) ∧ w' = w := by
  have h := stands_any s i.toNat set w
  rw [Int.toNat_of_nonneg hi] at h
  exact h
/-- From the place at which an exponent may stand on. -/
def litTail (s : By) (p : Nat) : Nat × Bool :=
  if standsB s p (sbytes ⟨#[101, 69]⟩) = true then
    if standsB s (p + 1) (sbytes ⟨#[43, 45]⟩) = true then (dig s (p + 2), decide (p + 2 < dig s (p + 2))) else (dig s (p + 1), decide (p + 1 < dig s (p + 1)))
  else (p, true)
/-- From the place at which a point may stand on. -/
def litFrac (s : By) (p : Nat) : Nat × Bool :=
  if standsB s p (sbytes ⟨#[46]⟩) = true then
    if dig s (p + 1) = p + 1 then (p + 1, false) else litTail s (dig s (p + 1))
  else litTail s p
def litInt (s : By) (p : Nat) : Nat × Bool :=
  if standsB s p (sbytes ⟨#[48]⟩) = true then litFrac s (p + 1)
  else if dig s p = p then (p, false) else litFrac s (dig s p)
def litC (s : By) : Nat × Bool := if standsB s 0 (sbytes ⟨#[45]⟩) = true then litInt s 1 else litInt s 0
theorem stands_lt {s : By} {p : Nat} {set : By} (h : standsB s p set = true) : p < s.length := by
  unfold standsB at h
  simp only [Bool.and_eq_true, decide_eq_true_eq] at h
  exact h.1
theorem digits_i (s : ByteArray) (i : Int) (w : World) (hi : 0 ≤ i) (hp : i ≤ s.size) (hs : s.size ≤ 9223372036854775806) :
    Calls Tryz.prog 58 #[.string s, .int .i64 i] w fun e w' => e = .returned (.int .i64 ((dig (sbytes s) i.toNat : Nat) : Int)) ∧ w' = w := by
  have h := digits_any s i.toNat w (by omega) hs
  rw [Int.toNat_of_nonneg hi] at h
  exact h
set_option maxHeartbeats 4000000 in
set_option maxRecDepth 100000 in
theorem literal_any (s : ByteArray) (w : World) (hs : s.size ≤ 9223372036854775806) :
    Calls Tryz.prog 40 #[.string s] w fun e w' => e = .returned (.tuple #[.int .i64 (((litC (sbytes s)).1 : Nat) : Int), .bool (litC (sbytes s)).2]) ∧ w' = w := by
  have HL := hide (sbytes_length s)
  have HG := hide (dig_ge (sbytes s))
  have HLE : Hid (∀ p, p ≤ s.size → dig (sbytes s) p ≤ s.size) := fun p hp => by
    have h1 := sbytes_length s
    have := dig_le (s := sbytes s) (p := p) (by omega)
    omega
  have HST : Hid (∀ p set, standsB (sbytes s) p set = true → p < s.size) := fun p set h => by
    have h1 := sbytes_length s
    have := stands_lt h
    omega
  go_enter Tryz.func40, Tryz.ntmps40
  go_upto_if 8 with (go_at_call 22; refine (stands_any s 0 _ _).mono ?_; rintro e w' ⟨rfl, rfl⟩)
  go_cut [4] (fun a wx => ∃ k : Nat, a = .int .i64 (k : Int) ∧ k ≤ s.size ∧ wx = w' ∧ Hid (litC (sbytes s) = litInt (sbytes s) k))
  case first =>
    cases h1 : standsB (sbytes s) 0 (sbytes ⟨#[45]⟩) with
    | true =>
      have hz := HST.out _ _ h1
      go_wp2_with fail
      go_meet
      case rel => exact ⟨1, rfl, by omega, rfl, by show _ = _; unfold litC; rw [if_pos h1]⟩
    | false =>
      go_wp2_with fail
      go_meet
      case rel => exact ⟨0, rfl, by omega, rfl, by show _ = _; unfold litC; rw [if_neg (by rw [h1]; decide)]⟩
  case rest =>
    obtain ⟨k, rfl, hk, rfl, HC⟩ := hcut
    go_upto_if 16 with (first | (go_at_call 58; refine (digits_any s k _ hk hs).mono ?_; rintro e w' ⟨rfl, rfl⟩) | (go_at_call 22; refine (stands_any s k _ _).mono ?_; rintro e w' ⟨rfl, rfl⟩))
    go_cut [5] (fun a wx => ∃ m : Nat, a = .int .i64 (m : Int) ∧ m ≤ s.size ∧ k ≤ m ∧ wx = w' ∧ Hid (litInt (sbytes s) k = if m = k then (k, false) else litFrac (sbytes s) m))
    case first =>
      cases h1 : standsB (sbytes s) k (sbytes ⟨#[48]⟩) with
      | true =>
        have hz := HST.out _ _ h1
        go_wp2_with fail
        go_meet
        case rel => exact ⟨k + 1, by go_num, by omega, by omega, rfl, by show _ = _; unfold litInt; rw [if_pos h1, if_neg (by omega)]⟩
      | false =>
        go_wp2_with fail
        go_meet
        case rel => exact ⟨dig (sbytes s) k, rfl, HLE.out _ hk, HG.out _, rfl, by show _ = _; unfold litInt; rw [if_neg (by rw [h1]; decide)]⟩
    case rest =>
      obtain ⟨m, rfl, hm, hkm, rfl, HI⟩ := hcut
      by_cases hmk : m = k
      · have HF : Hid (litC (sbytes s) = (k, false)) := by show _ = _; rw [HC.out, HI.out, if_pos hmk]
        have hq : ((m : Int) == (k : Int)) = true := by simp; omega
        clear hmk
        go_wp2_with fail
        go_ret2
        rw [HF.out]
        exact ⟨rfl, rfl⟩
      · have HF : Hid (litC (sbytes s) = litFrac (sbytes s) m) := by show _ = _; rw [HC.out, HI.out, if_neg hmk]
        have hq : ((m : Int) == (k : Int)) = false := by simp; omega
        clear hmk
        go_upto_if 26 with (go_at_call 22; refine (stands_any s m _ _).mono ?_; rintro e w' ⟨rfl, rfl⟩)
        go_cut [4] (fun a wx => ∃ n : Nat, a = .int .i64 (n : Int) ∧ n ≤ s.size ∧ wx = w' ∧ Hid (litC (sbytes s) = litTail (sbytes s) n))
        case first =>
          cases h1 : standsB (sbytes s) m (sbytes ⟨#[46]⟩) with
          | true =>
            have hz := HST.out _ _ h1
            by_cases hd : dig (sbytes s) (m + 1) = m + 1
            · have HE : Hid (litC (sbytes s) = (m + 1, false)) := by show _ = _; rw [HF.out]; unfold litFrac; rw [if_pos h1, if_pos hd]
              go_wp2_with fail
              refine (digits_i s ((m : Int) + 1) _ (by omega) (by omega) hs).mono ?_
              rintro e w' ⟨rfl, rfl⟩
              rw [show ((m : Int) + 1).toNat = m + 1 by omega, hd]
              have hq2 : (((m + 1 : Nat) : Int) == (m : Int) + 1) = true := by simp
              go_wp2_with fail
              go_ret2
              rw [HE.out]
              exact ⟨rfl, rfl⟩
            · have HE : Hid (litC (sbytes s) = litTail (sbytes s) (dig (sbytes s) (m + 1))) := by show _ = _; rw [HF.out]; unfold litFrac; rw [if_pos h1, if_neg hd]
              have hdle := HLE.out (m + 1) (by omega)
              go_wp2_with fail
              refine (digits_i s ((m : Int) + 1) _ (by omega) (by omega) hs).mono ?_
              rintro e w' ⟨rfl, rfl⟩
              rw [show ((m : Int) + 1).toNat = m + 1 by omega]
              generalize dig (sbytes s) (m + 1) = d at *
              have hq2 : (((d : Nat) : Int) == (m : Int) + 1) = false := by simp; omega
              go_wp2_with fail
              go_meet
              case rel => exact ⟨d, rfl, hdle, rfl, HE⟩
          | false =>
            go_wp2_with fail
            go_meet
            case rel => exact ⟨m, rfl, hm, rfl, by show _ = _; rw [HF.out]; unfold litFrac; rw [if_neg (by rw [h1]; decide)]⟩
        case rest =>
          obtain ⟨n, rfl, hn, rfl, HT⟩ := hcut
          clear hq
          cases h1 : standsB (sbytes s) n (sbytes ⟨#[101, 69]⟩) with
          | false =>
            have HE : Hid (litC (sbytes s) = (n, true)) := by show _ = _; rw [HT.out]; unfold litTail; rw [if_neg (by rw [h1]; decide)]
            go_wp2_with fail
            refine (stands_any s n _ _).mono ?_
            rintro e w' ⟨rfl, rfl⟩
            rw [h1]
            go_wp2_with fail
            go_ret2
            rw [HE.out]
            exact ⟨rfl, rfl⟩
          | true =>
            have hz := HST.out _ _ h1
            go_wp2_with fail
            refine (stands_any s n _ _).mono ?_
            rintro e w' ⟨rfl, rfl⟩
            rw [h1]
            go_upto_if 46 with (go_at_call 22; refine (stands_i s ((n : Int) + 1) _ _ (by omega)).mono ?_; rintro e w' ⟨rfl, rfl⟩; rw [show ((n : Int) + 1).toNat = n + 1 by omega])
            go_cut [4] (fun a wx => ∃ t : Nat, a = .int .i64 (t : Int) ∧ t ≤ s.size ∧ wx = w' ∧ Hid (litC (sbytes s) = (dig (sbytes s) t, decide (t < dig (sbytes s) t))))
            case first =>
              cases h2 : standsB (sbytes s) (n + 1) (sbytes ⟨#[43, 45]⟩) with
              | true =>
                have hz2 := HST.out _ _ h2
                go_wp2_with fail
                go_meet
                case rel => exact ⟨n + 2, by go_num, by omega, rfl, by show _ = _; rw [HT.out]; unfold litTail; rw [if_pos h1, if_pos h2]⟩
              | false =>
                go_wp2_with fail
                go_meet
                case rel => exact ⟨n + 1, by go_num, by omega, rfl, by show _ = _; rw [HT.out]; unfold litTail; rw [if_pos h1, if_neg (by rw [h2]; decide)]⟩
            case rest =>
              obtain ⟨t, rfl, ht, rfl, HD⟩ := hcut
              go_wp2_with fail
              refine (digits_any s t _ ht hs).mono ?_
              rintro e w' ⟨rfl, rfl⟩
              generalize dig (sbytes s) t = d at *
              go_wp2_with fail
              go_ret2
              refine ⟨?_, rfl⟩
              rw [HD.out]
              simp
end Go.Proofs.YtlebockgdonceaaGreatDoor
namespace Go.Proofs.YtlebockgdonceaaGreatDoor

theorem lrun_none {s : By} {st p : Nat} (h : litStep st (bt s p) = none) : litRun st (s.drop p) = (0, st) := by
  by_cases hp : p < s.length
  · rw [drop_bt hp, litRun_none h]
  · rw [List.drop_eq_nil_of_le (by omega)]; rfl
theorem lrun_some {s : By} {st st' p : Nat} (h : litStep st (bt s p) = some st') : litRun st (s.drop p) = ((litRun st' (s.drop (p + 1))).1 + 1, (litRun st' (s.drop (p + 1))).2) := by
  by_cases hp : p < s.length
  · rw [drop_bt hp, litRun_some h]
  · rw [bt_end (by omega), litStep_zero] at h; cases h
theorem stands_of {s : By} {p : Nat} {set : By} (h0 : hasB set 0 = false) : standsB s p set = hasB set (bt s p) := by
  unfold standsB
  by_cases hp : p < s.length
  · rw [decide_eq_true hp]; rfl
  · rw [decide_eq_false hp, bt_end (by omega), h0]; rfl
theorem has_sign (c : Nat) : hasB (sbytes ⟨#[43, 45]⟩) c = decide (c = 43 ∨ c = 45) := by rw [Bool.eq_iff_iff]; simp [hasB, sbytes]
theorem has_e (c : Nat) : hasB (sbytes ⟨#[101, 69]⟩) c = decide (c = 101 ∨ c = 69) := by rw [Bool.eq_iff_iff]; simp [hasB, sbytes]
theorem has_dot (c : Nat) : hasB (sbytes ⟨#[46]⟩) c = decide (c = 46) := by rw [Bool.eq_iff_iff]; simp [hasB, sbytes]
theorem has_nil (c : Nat) : hasB (sbytes ⟨#[48]⟩) c = decide (c = 48) := by rw [Bool.eq_iff_iff]; simp [hasB, sbytes]
theorem has_minus (c : Nat) : hasB (sbytes ⟨#[45]⟩) c = decide (c = 45) := by rw [Bool.eq_iff_iff]; simp [hasB, sbytes]
theorem dig_at (s : By) (p : Nat) : isDigit (bt s (dig s p)) = false := by
  suffices H : ∀ n p, s.length ≤ p + n → isDigit (bt s (dig s p)) = false from H s.length p (by omega)
  intro n
  induction n with
  | zero => intro p h; rw [dig_end (by omega), bt_end (by omega)]; rfl
  | succ n ih =>
    intro p h
    by_cases hp : p < s.length
    · cases hb : isDigit (bt s p) with
      | true => rw [dig_step hp hb]; exact ih (p + 1) (by omega)
      | false => rw [dig_stop hb]; exact hb
    · rw [dig_end (by omega), bt_end (by omega)]; rfl
theorem not_digit {c : Nat} (h : isDigit c = false) : ¬ (48 ≤ c ∧ c ≤ 57) := by simpa [isDigit] using h
theorem yes_digit {c : Nat} (h : isDigit c = true) : 48 ≤ c ∧ c ≤ 57 := by simpa [isDigit] using h
theorem lt_of_digit {s : By} {p : Nat} (h : isDigit (bt s p) = true) : p < s.length := by
  rcases Nat.lt_or_ge p s.length with h1 | h1
  · exact h1
  · rw [bt_end h1] at h; cases h
/-- Digits in a state that they do not leave. -/
theorem lrun_digits {s : By} {st : Nat} (h : ∀ c, isDigit c = true → litStep st c = some st) (p : Nat) :
    litRun st (s.drop p) = (dig s p - p + (litRun st (s.drop (dig s p))).1, (litRun st (s.drop (dig s p))).2) := by
  suffices H : ∀ n p, s.length ≤ p + n → litRun st (s.drop p) = (dig s p - p + (litRun st (s.drop (dig s p))).1, (litRun st (s.drop (dig s p))).2) from H s.length p (by omega)
  intro n
  induction n with
  | zero => intro p h; rw [dig_end (by omega)]; simp
  | succ n ih =>
    intro p hn
    cases hb : isDigit (bt s p) with
    | true =>
      have hp := lt_of_digit hb
      have hg := dig_ge s (p + 1)
      rw [dig_step hp hb, lrun_some (h _ hb), ih (p + 1) (by omega)]
      apply Prod.ext
      · simp only; omega
      · rfl
    | false => rw [dig_stop hb]; simp
theorem step3 (c : Nat) (h : isDigit c = true) : litStep 3 c = some 3 := by
  have := yes_digit h
  unfold litStep
  rw [if_neg (by omega), if_neg (by omega), if_pos (.inr ⟨rfl, h⟩)]
theorem step5 (c : Nat) (h : isDigit c = true) : litStep 5 c = some 5 := by
  have := yes_digit h
  unfold litStep
  rw [if_neg (by omega), if_neg (by omega), if_neg (by omega), if_neg (by omega), if_pos ⟨.inr rfl, h⟩]
theorem step8 (st c : Nat) (hs : 6 ≤ st) (h : isDigit c = true) : litStep st c = some 8 := by
  have := yes_digit h
  unfold litStep
  rw [if_neg (by omega), if_neg (by omega), if_neg (by omega), if_neg (by omega), if_neg (by omega), if_neg (by omega), if_neg (by omega), if_pos ⟨hs, h⟩]
theorem step_none {st c : Nat} (h1 : ¬ (st = 0 ∧ c = 45)) (h2 : ¬ (st ≤ 1 ∧ c = 48)) (hd : isDigit c = true → st = 2) (h4 : ¬ ((st = 2 ∨ st = 3) ∧ c = 46)) (h6 : ¬ ((st = 2 ∨ st = 3 ∨ st = 5) ∧ (c = 101 ∨ c = 69))) (h7 : ¬ (st = 6 ∧ (c = 43 ∨ c = 45))) : litStep st c = none := by
  unfold litStep
  cases e : isDigit c with
  | true =>
    have := hd e
    subst this
    rw [if_neg h1, if_neg h2, if_neg (by simp), if_neg h4, if_neg (by simp), if_neg h6, if_neg h7, if_neg (by simp)]
  | false => rw [if_neg h1, if_neg h2, if_neg (by simp), if_neg h4, if_neg (by simp), if_neg h6, if_neg h7, if_neg (by simp)]
theorem step_e {st c : Nat} (hs : st = 2 ∨ st = 3 ∨ st = 5) (h : c = 101 ∨ c = 69) : litStep st c = some 6 := by
  have hd : isDigit c = false := by rcases h with rfl | rfl <;> rfl
  unfold litStep
  rw [hd, if_neg (by omega), if_neg (by omega), if_neg (by simp), if_neg (by omega), if_neg (by simp), if_pos ⟨hs, h⟩]
theorem step_sign {c : Nat} (h : c = 43 ∨ c = 45) : litStep 6 c = some 7 := by
  have hd : isDigit c = false := by rcases h with rfl | rfl <;> rfl
  unfold litStep
  rw [hd, if_neg (by omega), if_neg (by omega), if_neg (by simp), if_neg (by omega), if_neg (by simp), if_neg (by omega), if_pos ⟨rfl, h⟩]
theorem step_dot {st : Nat} (hs : st = 2 ∨ st = 3) : litStep st 46 = some 4 := by rcases hs with rfl | rfl <;> rfl
theorem step4 {c : Nat} (h : isDigit c = true) : litStep 4 c = some 5 := by
  have := yes_digit h
  unfold litStep
  rw [if_neg (by omega), if_neg (by omega), if_neg (by omega), if_neg (by omega), if_pos ⟨.inl rfl, h⟩]
theorem expo_run {s : By} {st p : Nat} (hs : st = 6 ∨ st = 7) (hn : st = 6 → ¬ (bt s p = 43 ∨ bt s p = 45)) : litRun st (s.drop p) = (dig s p - p, if p < dig s p then 8 else st) := by
  cases hb : isDigit (bt s p) with
  | true =>
    have hp := lt_of_digit hb
    have hg := dig_ge s (p + 1)
    rw [lrun_some (step8 st _ (by omega) hb), lrun_digits (step8 8 · (by omega)), dig_step hp hb]
    have hd := dig_at s (p + 1)
    rw [lrun_none (p := dig s (p + 1)) (st := 8) (step_none (by omega) (by omega) (fun h => by rw [hd] at h; cases h) (by omega) (by omega) (by omega)), if_pos (by omega)]
    apply Prod.ext
    · simp only; omega
    · rfl
  | false =>
    rw [dig_stop hb, if_neg (by omega), lrun_none (step_none (by omega) (by omega) (fun h => by rw [hb] at h; cases h) (by omega) (by omega) (fun h => hn h.1 h.2))]
    simp
theorem tail_run {s : By} {st p : Nat} (hs : st = 2 ∨ st = 3 ∨ st = 5) (hd : st ≠ 2 → isDigit (bt s p) = false) (hdot : st ≠ 5 → bt s p ≠ 46) : litTail s p = (p + (litRun st (s.drop p)).1, litDone (litRun st (s.drop p)).2) := by
  unfold litTail
  rw [stands_of (by rfl), has_e, stands_of (by rfl), has_sign]
  simp only [decide_eq_true_eq]
  by_cases he : bt s p = 101 ∨ bt s p = 69
  · rw [if_pos he, lrun_some (step_e hs he)]
    by_cases h2 : bt s (p + 1) = 43 ∨ bt s (p + 1) = 45
    · rw [if_pos h2, lrun_some (step_sign h2), expo_run (.inr rfl) (by omega), show p + 1 + 1 = p + 2 from rfl]
      have hg := dig_ge s (p + 2)
      by_cases hl : p + 2 < dig s (p + 2)
      · rw [if_pos hl, decide_eq_true hl]
        apply Prod.ext
        · simp only; omega
        · rfl
      · rw [if_neg hl, decide_eq_false hl]
        apply Prod.ext
        · simp only; omega
        · rfl
    · rw [if_neg h2, expo_run (.inl rfl) (fun _ => h2)]
      have hg := dig_ge s (p + 1)
      by_cases hl : p + 1 < dig s (p + 1)
      · rw [if_pos hl, decide_eq_true hl]
        apply Prod.ext
        · simp only; omega
        · rfl
      · rw [if_neg hl, decide_eq_false hl]
        apply Prod.ext
        · simp only; omega
        · rfl
  · rw [if_neg he, lrun_none (step_none (by omega) (by omega) (fun h => by
      rcases hs with rfl | rfl | rfl
      · rfl
      · rw [hd (by omega)] at h; cases h
      · rw [hd (by omega)] at h; cases h) (fun h => by
      rcases hs with rfl | rfl | rfl
      · exact hdot (by omega) h.2
      · exact hdot (by omega) h.2
      · omega) (fun h => he h.2) (by omega))]
    rcases hs with rfl | rfl | rfl <;> rfl
theorem frac_run {s : By} {st p : Nat} (hs : st = 2 ∨ st = 3) (hd : st ≠ 2 → isDigit (bt s p) = false) : litFrac s p = (p + (litRun st (s.drop p)).1, litDone (litRun st (s.drop p)).2) := by
  unfold litFrac
  rw [stands_of (by rfl), has_dot]
  simp only [decide_eq_true_eq]
  by_cases h : bt s p = 46
  · rw [if_pos h, lrun_some (by rw [h]; exact step_dot hs)]
    cases hb : isDigit (bt s (p + 1)) with
    | true =>
      have hp := lt_of_digit hb
      have hg := dig_ge s (p + 2)
      have hds := dig_step hp hb
      rw [lrun_some (step4 hb), lrun_digits step5, hds, show p + 1 + 1 = p + 2 from rfl, if_neg (by omega)]
      rw [tail_run (st := 5) (by omega) (fun _ => dig_at s _) (by omega)]
      apply Prod.ext
      · simp only; omega
      · rfl
    | false =>
      rw [dig_stop hb, if_pos rfl, lrun_none (step_none (by omega) (by omega) (fun h => by rw [hb] at h; cases h) (by omega) (by omega) (by omega))]
      rfl
  · rw [if_neg h, tail_run (st := st) (by omega) hd (fun _ => h)]
theorem int_run {s : By} {st p : Nat} (hs : st = 0 ∨ st = 1) (hm : st = 0 → bt s p ≠ 45) : litInt s p = (p + (litRun st (s.drop p)).1, litDone (litRun st (s.drop p)).2) := by
  unfold litInt
  rw [stands_of (by rfl), has_nil]
  simp only [decide_eq_true_eq]
  by_cases h : bt s p = 48
  · rw [if_pos h, lrun_some (st' := 2) (by rw [h]; rcases hs with rfl | rfl <;> rfl), frac_run (st := 2) (.inl rfl) (fun h => absurd rfl h)]
    apply Prod.ext
    · simp only; omega
    · rfl
  · rw [if_neg h]
    cases hb : isDigit (bt s p) with
    | true =>
      have hp := lt_of_digit hb
      have hg := dig_ge s (p + 1)
      have hds := dig_step hp hb
      have h3 : litStep st (bt s p) = some 3 := by
        have := yes_digit hb
        unfold litStep
        rw [if_neg (by omega), if_neg (by omega), if_pos (.inl ⟨by omega, hb⟩)]
      rw [if_neg (by omega), lrun_some h3, lrun_digits step3, hds, frac_run (st := 3) (.inr rfl) (fun _ => dig_at s _)]
      apply Prod.ext
      · simp only; omega
      · rfl
    | false =>
      rw [dig_stop hb, if_pos rfl, lrun_none (step_none (fun h => hm h.1 h.2) (fun h' => h h'.2) (fun h => by rw [hb] at h; cases h) (by omega) (by omega) (by omega))]
      rcases hs with rfl | rfl <;> rfl
theorem litC_run (s : By) : litC s = ((litRun 0 s).1, litDone (litRun 0 s).2) := by
  unfold litC
  rw [stands_of (by rfl), has_minus]
  simp only [decide_eq_true_eq]
  by_cases h : bt s 0 = 45
  · have := lrun_some (s := s) (st := 0) (st' := 1) (p := 0) (by rw [h]; rfl)
    rw [List.drop_zero, Nat.zero_add] at this
    rw [if_pos h, this, int_run (st := 1) (.inr rfl) (by omega)]
    apply Prod.ext
    · simp only; omega
    · rfl
  · rw [if_neg h, int_run (st := 0) (.inl rfl) (fun _ => h), List.drop_zero, Nat.zero_add]
end Go.Proofs.YtlebockgdonceaaGreatDoor
