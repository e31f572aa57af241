/- What was put is read back, whatever stands behind it: a number, a text; plain facts. -/
import Derived.Test.YtmgppjfohabdmabDoorText
import Derived.Test.YtmgppjfohabdmabDoorFileMath
namespace Go.Proofs.YtmgppjfohabdmabDoor
open Go.RowKit

theorem udec_uenc : ∀ (f n i acc : Nat) (t : List Nat), i + f = 10 → i ≤ 9 → (0 < i → n ≠ 0) → n * 128 ^ i < 18446744073709551616 → udec (uencF f n ++ t) i acc = (acc + n * 128 ^ i, i + (uencF f n).length, 0)
  | 0, n, i, acc, t, h, hi, _, _ => by omega
  | f + 1, n, i, acc, t, h, hi, h0, hn => by
    by_cases hs : n < 128
    · rw [uencF_small _ _ hs]
      have h9 : ¬ (i = 9 ∧ 1 < n) := by
        rintro ⟨rfl, h1⟩
        have : (128 : Nat) ^ 9 = 9223372036854775808 := by decide
        rw [this] at hn
        omega
      have h1 : ¬ (0 < i ∧ n = 0) := fun ⟨a, b⟩ => h0 a b
      show udec (n :: t) i acc = _
      rw [udec, if_neg h9, if_neg h1, if_pos hs, Nat.mod_eq_of_lt hs]
      rfl
    · rw [uencF_step _ _ hs]
      have h9 : i ≠ 9 := by
        rintro rfl
        have : (128 : Nat) ^ 9 = 9223372036854775808 := by decide
        rw [this] at hn
        omega
      show udec ((n % 128 + 128) :: (uencF f (n / 128) ++ t)) i acc = _
      have e : n / 128 * 128 ^ (i + 1) + n % 128 * 128 ^ i = n * 128 ^ i := by
        rw [Nat.pow_succ, Nat.mul_comm (128 ^ i) 128, ← Nat.mul_assoc, ← Nat.add_mul, Nat.div_add_mod' n 128]
      rw [udec, if_neg (by omega), if_neg (by omega), if_neg (by omega), show (n % 128 + 128) % 128 = n % 128 by omega,
        udec_uenc f (n / 128) (i + 1) _ t (by omega) (by omega) (fun _ => by omega) (by omega)]
      rw [List.length_cons, Nat.add_assoc, Nat.add_comm (n % 128 * 128 ^ i), e]
      simp only [Prod.mk.injEq, true_and, and_true]
      omega
theorem uread_back {n : Nat} (hn : n < 18446744073709551616) (t : List Nat) : uread (uenc n ++ t) = (n, (uenc n).length, 0) := by
  have h := udec_uenc 10 n 0 0 t rfl (by decide) (fun h => by omega) (by simpa using hn)
  simpa [uread, uenc] using h
theorem textOf_back (s : ByteArray) (hs : s.size < 18446744073709551616) (t : List Nat) : textOf (([] ++ uenc s.size ++ sbytes s) ++ t) (s.size : Int) = (sbytes s, (uenc s.size).length + s.size, 0) := by
  have e : ([] ++ uenc s.size ++ sbytes s) ++ t = uenc s.size ++ (sbytes s ++ t) := by simp
  have hd : (uenc s.size ++ (sbytes s ++ t)).drop (uenc s.size).length = sbytes s ++ t := List.drop_left
  have hl : (uenc s.size ++ (sbytes s ++ t)).length = (uenc s.size).length + (s.size + t.length) := by simp [sbytes_length]
  have ht : (sbytes s ++ t).take s.size = sbytes s := by rw [← sbytes_length s, List.take_left]
  unfold textOf
  rw [e, uread_back hs, if_neg (by omega), if_neg (by simp), if_neg (by simp), if_neg (by rw [hl]; simp), hd, ht]
/-- The frame that a text becomes is told at its place. -/
theorem mkF_at {ks : List Nat} {ts : List ByteArray} {i : Nat} (hk : i < ks.length) (ht : i < ts.length) (h : ¬ (ks.getD i 0 = 0 ∨ 2097152 < (ts.getD i ByteArray.empty).size)) :
    (mkF (ks.zip ts))[(mkF ((ks.zip ts).take i)).length]? = some (ks.getD i 0, sbytes (ts.getD i ByteArray.empty)) := by
  have e : mkF (ks.zip ts) = mkF ((ks.zip ts).take (i + 1)) ++ mkF ((ks.zip ts).drop (i + 1)) := by rw [← mkF_append, List.take_append_drop]
  rw [e, mkF_step hk ht, if_neg h, List.append_assoc, List.getElem?_append_right (Nat.le_refl _), Nat.sub_self]
  rfl
theorem slice_hi (g n cap hi : Nat) (hh : hi ≤ cap) (w : World) : (Instr.slice 22 (.slice (some ⟨g, 0, none⟩) n cap) none (some (.int .i64 (hi : Int))) none).run Tryd.prog w = .ok (.slice (some ⟨g, 0, none⟩) hi cap) w := by
  rw [run_slice_h w 22 (some ⟨g, 0, none⟩) n cap underBytes .i64 (hi : Int) (by omega) (by omega), sizeRun]
  simp [Result.andThen, sliced, add_none]
theorem own_read0 {w : World} {B : Nat} {v : Value} {xs : List Nat} (h : Own w B v xs) (n : Nat) (hn : n = xs.length) (h0 : 0 < n) : ∃ g cap, v = .slice (some ⟨g, 0, none⟩) n cap ∧ n ≤ cap ∧ Row w (some ⟨g, 0, none⟩) xs := by
  subst hn
  obtain ⟨g, cap, e, hc, _, hr⟩ := h.readSome (by intro e; rw [e] at h0; simp at h0)
  exact ⟨g, cap, e, hc, hr⟩
end Go.Proofs.YtmgppjfohabdmabDoor
