/- The contracts of the reference's letter, bit, Base64 and value: for every number, row of bytes, byte. -/
import Derived.Test.YtonnnolnkjahgabDoorCodeRef
namespace Go.Proofs.YtonnnolnkjahgabDoor
open Go.RowKit

set_option maxRecDepth 100000 in
theorem letter_any (n : Nat) (w : World) (hn : n < 64) : Calls Tryd.prog 40 #[.int .i64 (n : Int)] w fun e w' => e = .returned (.int .u8 ((lt64 n : Nat) : Int)) ∧ w' = w := by
  rcases (show n < 26 ∨ (26 ≤ n ∧ n < 52) ∨ (52 ≤ n ∧ n < 62) ∨ n = 62 ∨ n = 63 by omega) with h | h | h | h | h
  · have e : lt64 n = 65 + n := (show ∀ n, n < 26 → lt64 n = 65 + n by decide) n h
    go_enter Tryd.func40, Tryd.ntmps40
    go_wp2
    go_ret
    exact ⟨by rw [e]; simp, rfl⟩
  · have e : lt64 n = 71 + n := (show ∀ n, n < 52 → 26 ≤ n → lt64 n = 71 + n by decide) n h.2 h.1
    obtain ⟨h1, h2⟩ := h
    go_enter Tryd.func40, Tryd.ntmps40
    go_wp2
    go_ret
    exact ⟨by rw [e]; simp; omega, rfl⟩
  · have e : lt64 n + 4 = n := (show ∀ n, n < 62 → 52 ≤ n → lt64 n + 4 = n by decide) n h.2 h.1
    have HE : Hid (lt64 n + 4 = n) := e
    clear e
    obtain ⟨h1, h2⟩ := h
    go_enter Tryd.func40, Tryd.ntmps40
    go_wp2
    go_ret
    exact ⟨by have := HE.out; simp; omega, rfl⟩
  · subst h
    go_enter Tryd.func40, Tryd.ntmps40
    go_wp2
    go_ret
    exact ⟨rfl, rfl⟩
  · subst h
    go_enter Tryd.func40, Tryd.ntmps40
    go_wp2
    go_ret
    exact ⟨rfl, rfl⟩

set_option maxHeartbeats 400000 in
set_option maxRecDepth 100000 in
theorem bit_any (n cap i : Nat) (ao : Option Addr) (xs : List Nat) (w : World) (hn : n = xs.length) (hl : n ≤ 17592186044416) (hi : i ≤ 281474976710656) (hx : ∀ x ∈ xs, x < 256) (hr : Row w ao xs) :
    Calls Tryd.prog 39 #[.slice ao n cap, .int .i64 (i : Int)] w fun e w' => e = .returned (.int .i64 ((bitAt xs i : Nat) : Int)) ∧ w' = w := by
  by_cases h : i / 8 < n
  · obtain ⟨b, off, rfl⟩ := hr.form (by rw [← hn]; omega)
    have c0 : w.cell? ⟨b, off + i / 8, none⟩ = some (.int .u8 ((xs.getD (i / 8) 0 : Nat) : Int)) := hr.cell (i / 8) (by rw [← hn]; exact h)
    have hxk := lt_get hx (i / 8)
    have HE : Hid (bitAt xs i = xs.getD (i / 8) 0 / 2 ^ (7 - i % 8) % 2) := rfl
    generalize xs.getD (i / 8) 0 = x at *
    clear hx hr hn
    obtain ⟨q, hq⟩ : ∃ q, q = i / 8 := ⟨_, rfl⟩
    obtain ⟨d, hd⟩ : ∃ d, d = i % 8 := ⟨_, rfl⟩
    have hqi : (i : Int) / 8 = (q : Int) := by omega
    have hdi : (i : Int) % 8 = (d : Int) := by omega
    rw [← hq] at c0 h
    rw [← hd] at HE
    have hd8 : d < 8 := by omega
    clear hq hd
    rw [HE.out]
    rcases (show d = 0 ∨ d = 1 ∨ d = 2 ∨ d = 3 ∨ d = 4 ∨ d = 5 ∨ d = 6 ∨ d = 7 by omega) with rfl | rfl | rfl | rfl | rfl | rfl | rfl | rfl
    all_goals
      go_enter Tryd.func39, Tryd.ntmps39
      go_wp2
      go_ret
      exact ⟨by simp, rfl⟩
  · have e : bitAt xs i = 0 := by unfold bitAt; simp [List.getD, List.getElem?_eq_none (show xs.length ≤ i / 8 by omega)]
    obtain ⟨q, hq⟩ : ∃ q, q = i / 8 := ⟨_, rfl⟩
    have hqi : (i : Int) / 8 = (q : Int) := by omega
    rw [← hq] at h
    rw [e]
    clear hx hr hn hq e
    go_enter Tryd.func39, Tryd.ntmps39
    go_wp2
    go_ret
    exact ⟨rfl, rfl⟩
def sixN (p : List Nat) (i : Nat) : Nat → Nat
  | 0 => 0
  | k + 1 => 2 * sixN p i k + bitAt p (i + k)
theorem six_sixN (p : List Nat) (i : Nat) : sixN p i 6 = six p i := rfl
theorem sixN_lt (p : List Nat) (i k : Nat) (hk : k ≤ 6) : sixN p i k < 64 := by
  have : ∀ k, sixN p i k < 2 ^ k := by
    intro k
    induction k with
    | zero => simp [sixN]
    | succ k ih => unfold sixN; have : bitAt p (i + k) < 2 := Nat.mod_lt _ (by decide); rw [Nat.pow_succ]; omega
  exact Nat.lt_of_lt_of_le (this k) (Nat.pow_le_pow_right (n := 2) (by decide) hk)
theorem bitAt_lt (p : List Nat) (i : Nat) : bitAt p i < 2 := Nat.mod_lt _ (by decide)
def let64 (p : List Nat) (j : Nat) : List Nat := (List.range j).map fun j => lt64 (six p (6 * j))
theorem let64_succ (p : List Nat) (j : Nat) : let64 p (j + 1) = let64 p j ++ [lt64 (six p (6 * j))] := by simp [let64, List.range_succ]
theorem let64_length (p : List Nat) (j : Nat) : (let64 p j).length = j := by simp [let64]

set_option maxHeartbeats 2000000 in
set_option maxRecDepth 100000 in
theorem refBase64_any (n cap : Nat) (ao : Option Addr) (xs : List Nat) (w : World) (hl : n ≤ 17592186044416) (hn : n = xs.length) (hx : ∀ x ∈ xs, x < 256) (hr : Row w ao xs) :
    Calls Tryd.prog 37 #[.slice ao n cap] w fun e w' => e = .returned (.string (bstr (b64of xs))) ∧ Below w.heap.size w w' := by
  have HX : Hid (∀ x ∈ xs, x < 256) := hx
  have HR : Hid (Row w ao xs) := hr
  have HN : Hid (n = xs.length) := hn
  have HE : Hid (let64 xs ((8 * n + 5) / 6) = b64of xs) := by show _ = _; rw [hn]; exact b64of_ref xs hx
  clear hx hr hn
  go_enter Tryd.func37, Tryd.ntmps37
  go_wp2
  go_loopw [3, 4] (fun v i wr => ∃ j : Nat, 6 * j ≤ 8 * n + 5 ∧ i = .int .i64 ((6 * j : Nat) : Int) ∧ Hid (Own wr w.heap.size v (let64 xs j)) ∧ Hid (Below w.heap.size w wr)) (fun _ i _ => 8 * n + 6 - (intOf i).toNat)
  case atStart => exact ⟨0, Nat.zero_le _, rfl, own_nil _ _, Below.refl _ _⟩
  case round =>
    obtain ⟨j, hj, rfl, HO, HB⟩ := hrel
    have hs := HB.out.size
    by_cases hlt : 6 * j < 8 * n
    · have HRr : Hid (Row wr ao xs) := HR.out.keep HB.out
      obtain ⟨i0, hi0⟩ : ∃ i0, i0 = 6 * j := ⟨_, rfl⟩
      have HI0 : Hid (i0 = 6 * j) := hi0
      rw [← hi0] at hlt ⊢
      clear hi0
      have hdt : decide ((i0 : Int) < 8 * (n : Int)) = true := decide_eq_true (by omega)
      go_wp2
      go_loopw [5, 6] (fun m k wk => ∃ c : Nat, c ≤ 6 ∧ k = .int .i64 (c : Int) ∧ m = .int .i64 ((sixN xs i0 c : Nat) : Int) ∧ wk = wr) (fun _ k _ => 6 - (intOf k).toNat)
      case atStart => exact ⟨0, Nat.zero_le _, rfl, rfl, rfl⟩
      case round =>
        obtain ⟨c, hc, rfl, rfl, rfl⟩ := hrel
        have hsl := sixN_lt xs i0 c hc
        by_cases hc6 : c < 6
        · have HSS : Hid (sixN xs i0 (c + 1) = 2 * sixN xs i0 c + bitAt xs (i0 + c)) := rfl
          have hbl := bitAt_lt xs (i0 + c)
          generalize sixN xs i0 c = sn at *
          go_wp2_with fail
          refine (bit_any n cap (i0 + c) ao xs _ HN.out (by omega) (by omega) HX.out HRr.out).mono ?_
          rintro e w' ⟨rfl, rfl⟩
          generalize bitAt xs (i0 + c) = bt at *
          go_wp2
          go_roundw
          case rel => exact ⟨c + 1, by omega, by go_num, by rw [HSS.out]; go_num, by first | trivial | rfl⟩
          case measure => simp [intOf]; omega
        · obtain rfl : c = 6 := by omega
          have HSX : Hid (let64 xs (j + 1) = let64 xs j ++ [lt64 (sixN xs i0 6)]) := by show _ = _; rw [let64_succ, six_sixN, HI0.out]
          have HLL : Hid ((let64 xs j).length = j) := let64_length _ _
          have hj2 : j ≤ 8 * n := by have := HI0.out; omega
          generalize sixN xs i0 6 = sn at *
          go_wp2_with fail
          refine (letter_any sn _ hsl).mono ?_
          rintro e w' ⟨rfl, rfl⟩
          have hll := lt64_lt sn hsl
          generalize lt64 sn = lc at *
          go_wp2_with (first | (at_builtin; refine wpList_append_bytes rfl _ _ rfl w.heap.size _ (let64 xs j) rfl (HO.out.alloc _) (some ⟨w'.heap.size, 0, none⟩) 1 1 [lc] rfl rfl (row_one _ _) (by have := HLL.out; simp; omega) (by simp; omega) ?_) | fail)
          rintro v1 w2 hown1 hgr1
          have HB2 : Hid (Below w.heap.size w w2) := (HB.out.alloc hs _).grown hgr1 (by simp; omega) HO.out.ge
          have HO2 : Hid (Own w2 w.heap.size v1 (let64 xs (j + 1))) := by rw [HSX.out]; exact hown1
          clear hown1 hgr1
          go_wp2
          go_roundw
          case rel => exact ⟨j + 1, by have := HI0.out; omega, by have := HI0.out; simp only [Value.int.injEq, true_and]; omega, HO2, HB2⟩
          case measure => have := HI0.out; simp [intOf]; omega
    · obtain ⟨ao1, c1, rfl, hle, hr1⟩ := HO.out.read
      have HT : Hid (let64 xs j = b64of xs) := by show _ = _; rw [← HE.out]; congr 1; omega
      rw [HT.out] at hr1 hle
      have cv := conv_row c1 hr1
      rw [HT.out]
      clear hr1
      go_wp2
      go_ret
      exact ⟨rfl, HB.out⟩
end Go.Proofs.YtonnnolnkjahgabDoor
