/- The contract of frame.Uint: every row of bytes. -/
import Derived.Test.YtmgppjfohabdmabDoorNum
namespace Go.Proofs.YtmgppjfohabdmabDoor
open Go.RowKit

theorem andnot128 (x : Nat) (h : x < 256) : bits BinOp.andNot IntKind.u8 (x : Int) 128 = ((x % 128 : Nat) : Int) := by
  have := u8_andNot_nat x 128 h (by decide)
  rw [show 255 - 128 = 127 by rfl, nat_mask7] at this
  exact this
theorem hide9 {p : Prop} (h : p) : Hid p := h
theorem pow128 (k : Nat) : (2 : Nat) ^ (7 * k) = 128 ^ k := by rw [Nat.pow_mul]
theorem or_nat (acc y k : Nat) (hacc : acc < 128 ^ k) (h1 : acc < 18446744073709551616) (h2 : y * 128 ^ k < 18446744073709551616) : bits BinOp.or IntKind.u64 (acc : Int) ((y * 128 ^ k : Nat) : Int) = ((acc + y * 128 ^ k : Nat) : Int) := by
  rw [u64_or_nat _ _ h1 h2, Nat.or_comm, nat_join (7 * k) _ _ (by rw [pow128]; exact Nat.mul_mod_left _ _) (by rw [pow128]; exact hacc), Nat.add_comm]
theorem shift_lt (x k : Nat) (hk : k ≤ 8) : x % 128 * 128 ^ k < 18446744073709551616 := by
  have h4 : x % 128 ≤ 127 := by omega
  have h5 : x % 128 * 128 ^ k ≤ 127 * 128 ^ k := Nat.mul_le_mul_right _ h4
  have h6 : 128 ^ k ≤ 128 ^ 8 := Nat.pow_le_pow_right (by decide) hk
  have h7 : (128 : Nat) ^ 8 = 72057594037927936 := by decide
  omega
theorem acc_lt {acc k : Nat} (hacc : acc < 128 ^ k) (hk : k ≤ 9) : acc < 18446744073709551616 := by
  have h6 : 128 ^ k ≤ 128 ^ 9 := Nat.pow_le_pow_right (by decide) hk
  have h7 : (128 : Nat) ^ 9 = 9223372036854775808 := by decide
  omega
theorem or_shift (acc x k : Nat) (hacc : acc < 128 ^ k) (hk : k ≤ 8) : bits BinOp.or IntKind.u64 (acc : Int) (IntKind.u64.wrap ((x : Int) % 128 * 2 ^ (7 * k))) = ((acc + x % 128 * 128 ^ k : Nat) : Int) := by
  have e : ((x : Int) % 128 * 2 ^ (7 * k)) = ((x % 128 * 128 ^ k : Nat) : Int) := by rw [← pow128]; simp
  have h := shift_lt x k hk
  rw [e, IntKind.wrap_u64, show ((x % 128 * 128 ^ k : Nat) : Int) % 18446744073709551616 = ((x % 128 * 128 ^ k : Nat) : Int) from by omega]
  exact or_nat acc (x % 128) k hacc (acc_lt hacc (by omega)) h
theorem or_shift9 (acc x : Nat) (hacc : acc < 128 ^ 9) (hx : x ≤ 1) : bits BinOp.or IntKind.u64 (acc : Int) ((x : Int) % 128 * 9223372036854775808) = ((acc + x % 128 * 128 ^ 9 : Nat) : Int) := by
  have h7 : (128 : Nat) ^ 9 = 9223372036854775808 := by decide
  have e : ((x : Int) % 128 * 9223372036854775808) = ((x % 128 * 128 ^ 9 : Nat) : Int) := by rw [h7]; omega
  rw [e]
  exact or_nat acc (x % 128) 9 hacc (acc_lt hacc (by decide)) (by omega)
/-- The state of the reading ahead of byte k. -/
def ReadAt (xs : List Nat) (k acc : Nat) : Prop := k ≤ 9 ∧ acc < 128 ^ k ∧ uread xs = udec (xs.drop k) k acc
set_option maxHeartbeats 1600000 in
set_option maxRecDepth 100000 in
theorem uint_any (n cap : Nat) (ao : Option Addr) (xs : List Nat) (w : World) (hn : n = xs.length) (hl : n ≤ 140737488351232) (hx : ∀ x ∈ xs, x < 256) (hr : Row w ao xs) :
    Calls Tryd.prog 21 #[.slice ao n cap] w fun e w' => e = .returned (.tuple #[.int .u64 (((uread xs).1 : Nat) : Int), .int .i64 (((uread xs).2.1 : Nat) : Int), .int .i64 (((uread xs).2.2 : Nat) : Int)]) ∧ w' = w := by
  have HX : Hid (∀ x ∈ xs, x < 256) := hx
  have HR : Hid (Row w ao xs) := hr
  have HN : Hid (n = xs.length) := hn
  obtain ⟨rv, rk, re, hu⟩ : ∃ rv rk re, uread xs = (rv, rk, re) := ⟨_, _, _, rfl⟩
  rw [hu]
  have HU : Hid (uread xs = (rv, rk, re)) := hu
  clear hx hr hn hu
  go_enter Tryd.func21, Tryd.ntmps21
  go_wp2
  go_loop [5, 10] (fun v i => ∃ k acc : Nat, k ≤ n ∧ i = .int .i64 k ∧ v = .int .u64 (acc : Int) ∧ Hid (ReadAt xs k acc)) (fun _ i => n - (intOf i).toNat)
  case atStart => exact ⟨0, 0, Nat.zero_le _, rfl, rfl, by decide, by decide, rfl⟩
  case round =>
    obtain ⟨k, acc, hk, rfl, rfl, HK⟩ := hrel
    by_cases hlt : k < n
    · obtain ⟨b, off, hao⟩ := HR.out.form (by have := HN.out; omega)
      have hc : w.cell? ⟨b, off + k, none⟩ = some (.int .u8 ((xs.getD k 0 : Nat) : Int)) := by
        have h := HR.out
        rw [hao] at h
        exact h.cell k (by have := HN.out; omega)
      have hxk := lt_get HX.out k
      have HS : Hid (uread xs = udec (xs.getD k 0 :: xs.drop (k + 1)) k acc) := by
        show _ = _
        have hkl : k < xs.length := by have := HN.out; omega
        rw [HK.out.2.2, List.drop_eq_getElem_cons hkl]
        simp [List.getD, hkl]
      generalize xs.getD k 0 = x at *
      have han := andnot128 x hxk
      have hk9 := HK.out.1
      by_cases hbad9 : k = 9 ∧ 1 < x
      · have HE : Hid (rv = 0 ∧ rk = 0 ∧ re = 11) := by
          show _ ∧ _
          have h := HS.out
          rw [HU.out] at h
          simp only [udec, if_pos hbad9, Prod.mk.injEq] at h
          exact h
        obtain ⟨rfl, hx1⟩ := hbad9
        go_wp2
        go_ret3
        exact ⟨by rw [HE.out.1, HE.out.2.1, HE.out.2.2]; rfl, rfl⟩
      · by_cases hbad0 : 0 < k ∧ x = 0
        · have HE : Hid (rv = 0 ∧ rk = 0 ∧ re = 10) := by
            show _ ∧ _
            have h := HS.out
            rw [HU.out] at h
            simp only [udec, if_neg hbad9, if_pos hbad0, Prod.mk.injEq] at h
            exact h
          obtain ⟨hk0, rfl⟩ := hbad0
          have hx1 : ¬ (1 : Int) < ((0 : Nat) : Int) := by decide
          go_wp2
          all_goals go_ret3
          all_goals exact ⟨by rw [HE.out.1, HE.out.2.1, HE.out.2.2]; rfl, rfl⟩
        · have hmeet : k ≠ 9 ∨ x = 1 := by
            by_cases h9 : k = 9
            · right
              have h1 : ¬ 1 < x := fun h => hbad9 ⟨h9, h⟩
              have h0 : ¬ x = 0 := fun h => hbad0 ⟨by omega, h⟩
              omega
            · exact .inl h9
          have hzero : 0 < k → ((x : Int) == 0) = false := fun h => by rw [beq_eq_false_iff_ne]; intro e; exact hbad0 ⟨h, by omega⟩
          by_cases hlow : x < 128
          · have HE : Hid (rv = acc + x % 128 * 128 ^ k ∧ rk = k + 1 ∧ re = 0) := by
              show _ ∧ _
              have h := HS.out
              rw [HU.out] at h
              simp only [udec, if_neg hbad9, if_neg hbad0, if_pos hlow, Prod.mk.injEq] at h
              exact h
            rcases Nat.eq_or_lt_of_le hk9 with h9 | h9
            · subst h9
              obtain rfl : x = 1 := by rcases hmeet with h | h; · exact absurd rfl h
                                       · exact h
              have HO := hide9 (or_shift9 acc 1 HK.out.2.1 (by decide))
              clear HK HS hbad9 hbad0 hmeet hzero
              go_wp2
              go_ret3
              exact ⟨by rw [HE.out.1, HE.out.2.1, HE.out.2.2, ← HO.out]; rfl, rfl⟩
            · have HO := hide9 (or_shift acc x k HK.out.2.1 (by omega))
              clear HK HS hbad9 hbad0 hmeet
              by_cases hk0 : 0 < k
              · have hz := hzero hk0
                clear hzero
                go_wp2
                go_ret3
                exact ⟨by rw [HE.out.1, HE.out.2.1, HE.out.2.2, ← HO.out]; rfl, rfl⟩
              · clear hzero
                go_wp2
                go_ret3
                exact ⟨by rw [HE.out.1, HE.out.2.1, HE.out.2.2, ← HO.out]; rfl, rfl⟩
          · have h9 : k < 9 := by rcases hmeet with h | h <;> omega
            have HO := hide9 (or_shift acc x k HK.out.2.1 (by omega))
            have HN2 : Hid (ReadAt xs (k + 1) (acc + x % 128 * 128 ^ k)) := by
              refine ⟨by omega, ?_, ?_⟩
              · have h4 : x % 128 ≤ 127 := by omega
                have h5 : x % 128 * 128 ^ k ≤ 127 * 128 ^ k := Nat.mul_le_mul_right _ h4
                have := HK.out.2.1
                rw [Nat.pow_succ]
                omega
              · have h := HS.out
                simp only [udec, if_neg hbad9, if_neg hbad0, if_neg hlow] at h
                exact h
            clear HK HS hbad9 hbad0 hmeet
            by_cases hk0 : 0 < k
            · have hz := hzero hk0
              clear hzero
              go_wp2
              go_round
              case rel => exact ⟨_, _, _, _, _, _, _, ⟨k + 1, by omega, by go_num, acc + x % 128 * 128 ^ k, by rw [← HO.out], HN2⟩, rfl, rfl, rfl, rfl, rfl, rfl, rfl⟩
              case measure => simp [intOf]; omega
            · clear hzero
              go_wp2
              go_round
              case rel => exact ⟨_, _, _, _, _, _, _, ⟨k + 1, by omega, by go_num, acc + x % 128 * 128 ^ k, by rw [← HO.out], HN2⟩, rfl, rfl, rfl, rfl, rfl, rfl, rfl⟩
              case measure => simp [intOf]; omega
    · have HE : Hid (rv = 0 ∧ rk = 0 ∧ re = 3) := by
        show _ ∧ _
        have h := HK.out.2.2
        rw [List.drop_eq_nil_of_le (by have := HN.out; omega), HU.out] at h
        simp only [udec, Prod.mk.injEq] at h
        exact h
      go_wp2
      go_ret3
      exact ⟨by rw [HE.out.1, HE.out.2.1, HE.out.2.2]; rfl, rfl⟩
end Go.Proofs.YtmgppjfohabdmabDoor
