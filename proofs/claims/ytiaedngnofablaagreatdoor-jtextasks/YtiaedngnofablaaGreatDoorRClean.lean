/- The contract of the document's Clean. -/
import Derived.Test.YtiaedngnofablaaGreatDoorRChar
import Derived.Test.YtiaedngnofablaaGreatDoorREqual
namespace Go.Proofs.YtiaedngnofablaaGreatDoor
open Go.RowKit

/-- Are the bytes from place p on characters? -/
def cleanF (l : By) (p : Nat) : Bool := clean (l.drop p)
theorem clean_nil : clean [] = true := rfl
theorem cleanN_down : ∀ (n : Nat) (l : By), cleanN n l = true → cleanN l.length l = true
  | n, [], _ => rfl
  | 0, _ :: _, h => by cases h
  | n + 1, c :: l, h => by
    obtain ⟨m, j, hm, hc, hn⟩ := clean_step h (by simp)
    obtain rfl : m = n := by omega
    obtain ⟨h1, _, hj, _⟩ := chr_ok hc
    have := cleanN_down m _ hn
    show cleanN (l.length + 1) (c :: l) = true
    unfold cleanN
    rw [hc]
    refine cleanN_mono _ _ _ ?_ this
    rw [List.length_drop, List.length_cons]; omega
theorem cleanN_any : ∀ (n m : Nat) (l : By), l.length ≤ n → l.length ≤ m → cleanN n l = cleanN m l := by
  intro n m l h1 h2
  rw [Bool.eq_iff_iff]
  constructor
  · intro h
    have hn : cleanN l.length l = true := by
      exact cleanN_down n l h
    exact cleanN_mono _ _ _ h2 hn
  · intro h
    have hn : cleanN l.length l = true := by
      exact cleanN_down m l h
    exact cleanN_mono _ _ _ h1 hn
theorem cleanF_end {l : By} {p : Nat} (h : l.length ≤ p) : cleanF l p = true := by unfold cleanF; rw [List.drop_eq_nil_of_le h]; rfl
theorem clean_cons (c : Nat) (l : By) : clean (c :: l) = (match chr (c :: l) with | .ok k => cleanN l.length ((c :: l).drop k) | _ => false) := rfl
theorem cleanF_some {l : By} {p k : Nat} (hp : p < l.length) (h : chr (l.drop p) = .ok k) : cleanF l p = cleanF l (p + k) := by
  have hk := chr_ok h
  unfold cleanF
  rw [cons_at hp] at h ⊢
  rw [clean_cons, h]
  show cleanN _ _ = _
  rw [← cons_at hp, List.drop_drop]
  unfold clean
  refine cleanN_any _ _ _ ?_ (Nat.le_refl _)
  rw [List.length_drop, List.length_drop]; omega
theorem cleanF_bad {l : By} {p : Nat} {b : Bool} (hp : p < l.length) (h : chr (l.drop p) = .error b) : cleanF l p = false := by
  unfold cleanF
  rw [cons_at hp] at h ⊢
  rw [clean_cons, h]
set_option maxHeartbeats 4000000 in
set_option maxRecDepth 100000 in
theorem rclean_any (s : ByteArray) (w : World) (hl : s.size ≤ 4611686018427387904) :
    Calls Tryz.prog 48 #[.string s] w fun e w' => e = .returned (.bool (clean (sbytes s))) ∧ Below w.heap.size w w' := by
  obtain ⟨n, hn⟩ : ∃ n, n = s.size := ⟨_, rfl⟩
  obtain ⟨xs, HX⟩ : ∃ xs, Hid (xs = sbytes s) := ⟨_, rfl⟩
  have HN : Hid (n = xs.length) := by show _ = _; rw [hn, HX.out, sbytes_length]
  rw [← HX.out]
  have HL : Hid (s.size ≤ 4611686018427387904) := hl
  rw [← hn] at hl
  have HS : Hid (n = s.size) := hn
  have hlen : (s.size : Int) = (n : Int) := by rw [hn]
  clear hn
  obtain ⟨C, HC⟩ : ∃ C, Hid (C = clean xs) := ⟨_, rfl⟩
  rw [← HC.out]
  have HC0 : Hid (C = cleanF xs 0) := by show _ = _; unfold cleanF; rw [List.drop_zero]; exact HC.out
  clear HC
  go_enter Tryz.func48, Tryz.ntmps48
  go_wp2
  go_loopw [3] (fun i wr => ∃ p : Nat, p ≤ n ∧ i = .int .i64 (p : Int) ∧ Hid (C = cleanF xs p) ∧ Hid (Below w.heap.size w wr)) (fun i _ => n - (intOf i).toNat)
  case atStart => exact ⟨0, Nat.zero_le _, rfl, HC0, Below.refl _ _⟩
  case round =>
    clear HC0
    obtain ⟨p, hp, rfl, HC, HB⟩ := hrel
    by_cases hlt : p < n
    · have hki : (p : Int) < (n : Int) := by omega
      go_wp2_with fail
      refine (rchar_any s p _ HL.out (by rw [← HS.out]; exact hlt)).mono ?_
      rintro e w2 ⟨rfl, hB2⟩
      have HB2 : Hid (Below w.heap.size w w2) := below_up HB.out hB2
      clear hB2 HB
      rw [← HX.out]
      cases hq : chr (xs.drop p) with
      | error b =>
        have HF : Hid (C = false) := by show _ = _; rw [HC.out, cleanF_bad (by rw [← HN.out]; exact hlt) hq]
        have e1 : chZ (Except.error b : Ch) < 1 := by cases b <;> decide
        clear hq HC
        generalize chZ (Except.error b : Ch) = z at *
        go_wp2
        go_ret
        exact ⟨by rw [HF.out]; rfl, HB2.out⟩
      | ok k =>
        have hk := chr_ok hq
        have HF : Hid (C = cleanF xs (p + k)) := by show _ = _; rw [HC.out, cleanF_some (by rw [← HN.out]; exact hlt) hq]
        have e1 : chZ (Except.ok k : Ch) = (k : Int) := rfl
        have hkl : p + k ≤ n := by have := hk.2.2.1; rw [List.length_drop, ← HN.out] at this; omega
        have hk1 := hk.1
        rw [e1]
        have hnn : ¬ ((k : Int) < 1) := by omega
        clear hq e1 hk HC
        go_wp2
        go_roundw
        case rel => exact ⟨p + k, hkl, by go_num, HF, HB2⟩
        case measure => simp [intOf]; omega
    · have hki : ¬ ((p : Int) < (n : Int)) := by omega
      have HF : Hid (C = true) := by show _ = _; rw [HC.out, cleanF_end (by rw [← HN.out]; omega)]
      go_wp2_with fail
      go_ret
      exact ⟨by rw [HF.out]; rfl, HB.out⟩
end Go.Proofs.YtiaedngnofablaaGreatDoor
