/- The contract of the reference's Uint: every row of bytes. -/
import Derived.Test.YtmgppjfohabdmaaUint
namespace Go.Proofs.Ytmgppjfohabdmaa
open Go.RowKit

theorem part_lt (y m k : Nat) (h : y * 128 ^ k < 18446744073709551616) (hm : m ≤ k) : y * 128 ^ m < 18446744073709551616 :=
  Nat.lt_of_le_of_lt (Nat.mul_le_mul_left _ (Nat.pow_le_pow_right (by decide) hm)) h
theorem sum_lt (acc y k : Nat) (ha : acc < 128 ^ k) (hk : k ≤ 8 ∧ y ≤ 127 ∨ k = 9 ∧ y ≤ 1) : acc + y * 128 ^ k < 18446744073709551616 ∧ y * 128 ^ k < 18446744073709551616 := by
  rcases hk with ⟨h1, h2⟩ | ⟨rfl, h2⟩
  · have h5 : y * 128 ^ k ≤ 127 * 128 ^ k := Nat.mul_le_mul_right _ h2
    have h6 : 128 ^ k ≤ 128 ^ 8 := Nat.pow_le_pow_right (by decide) h1
    have h7 : (128 : Nat) ^ 8 = 72057594037927936 := by decide
    omega
  · have h5 : y * 128 ^ 9 ≤ 1 * 128 ^ 9 := Nat.mul_le_mul_right _ h2
    have h7 : (128 : Nat) ^ 9 = 9223372036854775808 := by decide
    omega
set_option maxHeartbeats 1600000 in
set_option maxRecDepth 100000 in
theorem refUint_any (n cap : Nat) (ao : Option Addr) (xs : List Nat) (w : World) (hn : n = xs.length) (hl : n ≤ 140737488351232) (hx : ∀ x ∈ xs, x < 256) (hr : Row w ao xs) :
    Calls Try.prog 11 #[.slice ao n cap] w fun e w' => e = .returned (.tuple #[.int .u64 (((uread xs).1 : Nat) : Int), .int .i64 (((uread xs).2.1 : Nat) : Int), .int .i64 (((uread xs).2.2 : Nat) : Int)]) ∧ w' = w := by
  have HX : Hid (∀ x ∈ xs, x < 256) := hx
  have HR : Hid (Row w ao xs) := hr
  have HN : Hid (n = xs.length) := hn
  obtain ⟨rv, rk, re, hu⟩ : ∃ rv rk re, uread xs = (rv, rk, re) := ⟨_, _, _, rfl⟩
  rw [hu]
  have HU : Hid (uread xs = (rv, rk, re)) := hu
  clear hx hr hn hu
  go_enter Try.func11, Try.ntmps11
  go_wp2
  go_loop [5, 6] (fun v i => ∃ k : Nat, k ≤ n ∧ i = .int .i64 k ∧ ∃ acc : Nat, v = .int .u64 (acc : Int) ∧ Hid (ReadAt xs k acc)) (fun _ i => n - (intOf i).toNat)
  case atStart => exact ⟨0, Nat.zero_le _, rfl, 0, rfl, by decide, by decide, rfl⟩
  case round =>
    obtain ⟨k, hk, rfl, acc, rfl, HK⟩ := hrel
    by_cases hlt : k < n
    · obtain ⟨b, off, hao⟩ := HR.out.form (by have := HN.out; omega)
      have hc : w.cell? ⟨b, off + k, none⟩ = some (.int .u8 ((xs.getD k 0 : Nat) : Int)) := by
        have h := HR.out
        rw [hao] at h
        exact h.cell k (by have := HN.out; omega)
      have hxk := lt_get HX.out k
      have HS : Hid (uread xs = udec (xs.getD k 0 :: xs.drop (k + 1)) k acc) := by
        show _ = _
        have hkl : k < xs.length := by have := HN.out; omega
        rw [HK.out.2.2, List.drop_eq_getElem_cons hkl]
        simp [List.getD, hkl]
      generalize xs.getD k 0 = x at *
      have hk9 := HK.out.1
      by_cases hbad9 : k = 9 ∧ 1 < x
      · have HE : Hid (rv = 0 ∧ rk = 0 ∧ re = 11) := by
          show _ ∧ _
          have h := HS.out
          rw [HU.out] at h
          simp only [udec, if_pos hbad9, Prod.mk.injEq] at h
          exact h
        obtain ⟨rfl, hx1⟩ := hbad9
        go_wp2
        go_ret3
        exact ⟨by rw [HE.out.1, HE.out.2.1, HE.out.2.2]; rfl, rfl⟩
      · by_cases hbad0 : 0 < k ∧ x = 0
        · have HE : Hid (rv = 0 ∧ rk = 0 ∧ re = 10) := by
            show _ ∧ _
            have h := HS.out
            rw [HU.out] at h
            simp only [udec, if_neg hbad9, if_pos hbad0, Prod.mk.injEq] at h
            exact h
          obtain ⟨hk0, hx0⟩ := hbad0
          have hx0' : ((x : Int) == 0) = true := by rw [beq_iff_eq]; omega
          have hx1 : ¬ (1 : Int) < (x : Int) := by omega
          clear HS HK hbad9 hx0
          by_cases h9 : k = 9
          · subst h9
            go_wp2
            go_ret3
            exact ⟨by rw [HE.out.1, HE.out.2.1, HE.out.2.2]; rfl, rfl⟩
          · go_wp2
            go_ret3
            exact ⟨by rw [HE.out.1, HE.out.2.1, HE.out.2.2]; rfl, rfl⟩
        · have hmeet : k ≤ 8 ∧ x % 128 ≤ 127 ∨ k = 9 ∧ x % 128 ≤ 1 := by
            by_cases h9 : k = 9
            · right
              have h1 : ¬ 1 < x := fun h => hbad9 ⟨h9, h⟩
              omega
            · left; omega
          have hm9 : k = 9 → x ≤ 1 := fun h9 => by
            have h1 : ¬ 1 < x := fun h => hbad9 ⟨h9, h⟩
            omega
          have hs := sum_lt acc (x % 128) k HK.out.2.1 hmeet
          have HST : Hid ((x < 128 → rv = acc + x % 128 * 128 ^ k ∧ rk = k + 1 ∧ re = 0) ∧ (¬ x < 128 → ReadAt xs (k + 1) (acc + x % 128 * 128 ^ k))) := by
            refine ⟨fun hlow => ?_, fun hlow => ⟨?_, ?_, ?_⟩⟩
            · have h := HS.out
              rw [HU.out] at h
              simp only [udec, if_neg hbad9, if_neg hbad0, if_pos hlow, Prod.mk.injEq] at h
              exact h
            · rcases hmeet with h | h
              · omega
              · have := hm9 h.1; omega
            · have h4 : x % 128 ≤ 127 := by omega
              have h5 : x % 128 * 128 ^ k ≤ 127 * 128 ^ k := Nat.mul_le_mul_right _ h4
              have := HK.out.2.1
              rw [Nat.pow_succ]
              omega
            · have h := HS.out
              simp only [udec, if_neg hbad9, if_neg hbad0, if_neg hlow] at h
              exact h
          have hz : k = 0 ∨ ((x : Int) == 0) = false := by
            by_cases h : k = 0
            · exact .inl h
            · right; rw [beq_eq_false_iff_ne]; intro e; exact hbad0 ⟨by omega, by omega⟩
          have hg9 : ¬ (k = 9) ∨ ¬ (1 : Int) < (x : Int) := by
            by_cases h9 : k = 9
            · right; have := hm9 h9; omega
            · exact .inl h9
          obtain ⟨y, hy⟩ : ∃ y, y = x % 128 := ⟨_, rfl⟩
          have hyI : (x : Int) % 128 = (y : Int) := by omega
          have hyb : y < 128 := by omega
          rw [← hy] at hs HST
          have HY : Hid (y * 128 ^ k < 18446744073709551616) := hs.2
          have HA : Hid (acc + y * 128 ^ k < 18446744073709551616) := hs.1
          clear HK HS hbad9 hbad0 hmeet hs hy hm9
          by_cases hk0 : k = 0
          · subst hk0
            rw [Nat.add_zero] at hc
            clear hz hg9
            go_wp2
            go_loop [7, 8] (fun v i => ∃ m : Nat, m ≤ 0 ∧ i = .int .i64 m ∧ v = .int .u64 ((y * 128 ^ m : Nat) : Int)) (fun _ i => 0 - (intOf i).toNat)
            case atStart => exact ⟨0, Nat.zero_le _, rfl, by simp⟩
            case round =>
              obtain ⟨m, hm, rfl, rfl⟩ := hrel
              by_cases hlm : m < 0
              · omega
              · obtain rfl : m = 0 := by omega
                have ha := HA.out
                have hs2 := HST.out
                clear HST HY HA
                generalize y * 128 ^ 0 = q at *
                by_cases hlow : x < 128
                · have HE : Hid (rv = acc + q ∧ rk = 0 + 1 ∧ re = 0) := hs2.1 hlow
                  clear hs2
                  go_wp2
                  go_ret3
                  exact ⟨by rw [HE.out.1, HE.out.2.1, HE.out.2.2]; go_num, rfl⟩
                · have HE : Hid (ReadAt xs (0 + 1) (acc + q)) := hs2.2 hlow
                  clear hs2
                  go_wp2
                  go_round
                  case rel => exact ⟨_, _, _, _, _, ⟨0 + 1, by omega, by go_num, acc + q, by go_num, HE⟩, rfl, rfl, rfl, rfl, rfl⟩
                  case measure => simp [intOf]; omega
          · have hz2 : ((x : Int) == 0) = false := by
              rcases hz with h | h
              · omega
              · exact h
            clear hz
            by_cases h9 : k = 9
            · subst h9
              have hx1 : ¬ (1 : Int) < (x : Int) := by
                rcases hg9 with h | h
                · exact absurd rfl h
                · exact h
              clear hg9
              go_wp2
              go_loop [7, 8] (fun v i => ∃ m : Nat, m ≤ 9 ∧ i = .int .i64 m ∧ v = .int .u64 ((y * 128 ^ m : Nat) : Int)) (fun _ i => 9 - (intOf i).toNat)
              case atStart => exact ⟨0, Nat.zero_le _, rfl, by simp⟩
              case round =>
                obtain ⟨m, hm, rfl, rfl⟩ := hrel
                by_cases hlm : m < 9
                · have hq := part_lt y (m + 1) 9 HY.out (by omega)
                  have HQ : Hid (y * 128 ^ (m + 1) = y * 128 ^ m * 128) := by show _ = _; rw [Nat.pow_succ, Nat.mul_assoc]
                  rw [HQ.out] at hq
                  generalize y * 128 ^ m = q at *
                  go_wp2
                  go_round
                  case rel => exact ⟨m + 1, by omega, by go_num, by rw [HQ.out]; go_num⟩
                  case measure => simp [intOf]; omega
                · obtain rfl : m = 9 := by omega
                  have ha := HA.out
                  have hs2 := HST.out
                  clear HST HY HA
                  generalize y * 128 ^ 9 = q at *
                  by_cases hlow : x < 128
                  · have HE : Hid (rv = acc + q ∧ rk = 9 + 1 ∧ re = 0) := hs2.1 hlow
                    clear hs2
                    go_wp2
                    go_ret3
                    exact ⟨by rw [HE.out.1, HE.out.2.1, HE.out.2.2]; go_num, rfl⟩
                  · omega
            · clear hg9
              go_wp2
              go_loop [7, 8] (fun v i => ∃ m : Nat, m ≤ k ∧ i = .int .i64 m ∧ v = .int .u64 ((y * 128 ^ m : Nat) : Int)) (fun _ i => k - (intOf i).toNat)
              case atStart => exact ⟨0, Nat.zero_le _, rfl, by simp⟩
              case round =>
                obtain ⟨m, hm, rfl, rfl⟩ := hrel
                by_cases hlm : m < k
                · have hq := part_lt y (m + 1) k HY.out (by omega)
                  have HQ : Hid (y * 128 ^ (m + 1) = y * 128 ^ m * 128) := by show _ = _; rw [Nat.pow_succ, Nat.mul_assoc]
                  rw [HQ.out] at hq
                  generalize y * 128 ^ m = q at *
                  go_wp2
                  go_round
                  case rel => exact ⟨m + 1, by omega, by go_num, by rw [HQ.out]; go_num⟩
                  case measure => simp [intOf]; omega
                · obtain rfl : m = k := by omega
                  have ha := HA.out
                  have hs2 := HST.out
                  clear HST HY HA
                  generalize y * 128 ^ m = q at *
                  by_cases hlow : x < 128
                  · have HE : Hid (rv = acc + q ∧ rk = m + 1 ∧ re = 0) := hs2.1 hlow
                    clear hs2
                    go_wp2
                    go_ret3
                    exact ⟨by rw [HE.out.1, HE.out.2.1, HE.out.2.2]; go_num, rfl⟩
                  · have HE : Hid (ReadAt xs (m + 1) (acc + q)) := hs2.2 hlow
                    clear hs2
                    go_wp2
                    go_round
                    case rel => exact ⟨_, _, _, _, _, ⟨m + 1, by omega, by go_num, acc + q, by go_num, HE⟩, rfl, rfl, rfl, rfl, rfl⟩
                    case measure => simp [intOf]; omega
    · have HE : Hid (rv = 0 ∧ rk = 0 ∧ re = 3) := by
        show _ ∧ _
        have h := HK.out.2.2
        rw [List.drop_eq_nil_of_le (by have := HN.out; omega), HU.out] at h
        simp only [udec, Prod.mk.injEq] at h
        exact h
      go_wp2
      go_ret3
      exact ⟨by rw [HE.out.1, HE.out.2.1, HE.out.2.2]; rfl, rfl⟩
end Go.Proofs.Ytmgppjfohabdmaa
