/- The contracts of the reference's groups and PutUint, of frame.Uint and of the reference's Uint: every number, every row of bytes. -/
import Derived.Test.YtmgppjfohabdmaaNum
namespace Go.Proofs.Ytmgppjfohabdmaa
open Go.RowKit

set_option maxHeartbeats 400000 in
set_option maxRecDepth 100000 in
theorem groups_any (v : Nat) (w : World) (hv : v < 18446744073709551616) :
    Calls Try.prog 21 #[.int .u64 (v : Int)] w fun e w' => ∃ ro rn rc, e = .returned (.slice ro rn rc) ∧ Hid (Made w w' ro rn rc (uenc v)) := by
  go_enter Try.func21, Try.ntmps21
  go_wp2
  go_loopw [0, 3] (fun u b wr => ∃ (f q : Nat) (acc : List Nat), u = .int .u64 (q : Int) ∧ Hid (q < 128 ^ f ∧ f ≤ 10 ∧ 1 ≤ f ∧ acc.length + f ≤ 10 ∧ acc ++ uencF f q = uenc v ∧ Own wr w.heap.size b acc ∧ Below w.heap.size w wr ∧ q < 18446744073709551616)) (fun u _ _ => (intOf u).toNat)
  case atStart => exact ⟨10, v, [], rfl, Nat.lt_of_lt_of_le hv (by decide), by decide, by decide, by decide, rfl, own_nil _ _, Below.refl _ _, hv⟩
  case round =>
    obtain ⟨f, q, acc, rfl, HR⟩ := hrel
    have hq : q < 18446744073709551616 := HR.out.2.2.2.2.2.2.2
    have hsz := HR.out.2.2.2.2.2.2.1.size
    by_cases hlt : q < 128
    · have HE : Hid (acc ++ [q] = uenc v) := by
        show _ = _
        rw [← HR.out.2.2.2.2.1, uencF_small _ _ hlt]
      go_wp2_with (first | (at_builtin; refine wpList_append_bytes rfl _ _ rfl w.heap.size _ acc rfl (HR.out.2.2.2.2.2.1.alloc _) (some ⟨wr.heap.size, 0, none⟩) 1 1 [q] rfl rfl (row_one _ _) ?hs1 ?hs2 ?_) | fail)
      case hs1 => have := HR.out.2.2.2.1; simp; omega
      case hs2 => simp; omega
      rintro v2 w2 hown2 hgr2
      have HO2 : Hid (Own w2 w.heap.size v2 (uenc v) ∧ Below w.heap.size w w2) := ⟨by rw [← HE.out]; exact hown2, (HR.out.2.2.2.2.2.2.1.alloc (by omega) _).grown hgr2 (by simp; omega) HR.out.2.2.2.2.2.1.ge⟩
      obtain ⟨ro, rc, hrr, hmd⟩ := made_of (w := w) HO2.out.1 HO2.out.2
      have HM : Hid (Made w w2 ro (uenc v).length rc (uenc v)) := hmd
      clear hown2 hgr2 HR hmd HO2
      subst hrr
      generalize (uenc v).length = rn at *
      go_wp2
      go_ret
      exact ⟨_, _, _, rfl, HM⟩
    · obtain ⟨b, hb0⟩ : ∃ b, b = q % 128 + 128 := ⟨_, rfl⟩
      have hor : (128 + (q : Int) % 128) = (b : Int) := by omega
      have HB0 : Hid (b = q % 128 + 128) := hb0
      have hb256 : (b : Int) < 256 := by omega
      have HE : Hid (∃ f', f = f' + 1 ∧ 1 ≤ f' ∧ q / 128 < 128 ^ f' ∧ (acc ++ [b]) ++ uencF f' (q / 128) = uenc v) := by
        obtain ⟨f', rfl⟩ : ∃ f', f = f' + 1 := ⟨f - 1, by have := HR.out.2.2.1; omega⟩
        refine ⟨f', rfl, ?_, ?_, ?_⟩
        · rcases Nat.eq_zero_or_pos f' with h | h
          · subst h; have := HR.out.1; simp at this; omega
          · exact h
        · rw [Nat.div_lt_iff_lt_mul (by decide)]; exact HR.out.1
        · rw [← HR.out.2.2.2.2.1, uencF_step _ _ hlt, ← hb0]; simp
      clear hb0
      have hge : (128 : Int) ≤ (q : Int) := by omega
      go_wp2_with (first | (at_builtin; refine wpList_append_bytes rfl _ _ rfl w.heap.size _ acc rfl (HR.out.2.2.2.2.2.1.alloc _) (some ⟨wr.heap.size, 0, none⟩) 1 1 [b] rfl rfl (row_one _ _) ?hs3 ?hs4 ?_) | fail)
      case hs3 => have := HR.out.2.2.2.1; simp; omega
      case hs4 => simp; omega
      rintro v2 w2 hown2 hgr2
      obtain ⟨f', hf, h1, h2, h3⟩ := HE.out
      have HO2 : Hid (q / 128 < 128 ^ f' ∧ f' ≤ 10 ∧ 1 ≤ f' ∧ (acc ++ [b]).length + f' ≤ 10 ∧ (acc ++ [b]) ++ uencF f' (q / 128) = uenc v ∧ Own w2 w.heap.size v2 (acc ++ [b]) ∧ Below w.heap.size w w2 ∧ q / 128 < 18446744073709551616) :=
        ⟨h2, by have := HR.out.2.1; omega, h1, by have := HR.out.2.2.2.1; simp; omega, h3, hown2, (HR.out.2.2.2.2.2.2.1.alloc (by omega) _).grown hgr2 (by simp; omega) HR.out.2.2.2.2.2.1.ge, by omega⟩
      clear hown2 hgr2 HR hf h1 h2 h3 HE
      go_wp2
      go_roundw
      case rel => exact ⟨f', q / 128, acc ++ [b], by go_num, HO2⟩
      case measure => simp [intOf]; omega
theorem uenc_length (v : Nat) : 1 ≤ (uenc v).length ∧ (uenc v).length ≤ 11 := uencF_length 10 v
set_option maxRecDepth 100000 in
theorem refPutUint_any (v : Nat) (n c : Nat) (ao : Option Addr) (xs : List Nat) (w : World) (hv : v < 18446744073709551616) (hn : n = xs.length) (hl : n ≤ 140737488351232) (hr : Row w ao xs) :
    Calls Try.prog 7 #[.slice ao n c, .int .u64 (v : Int)] w fun e w' => ∃ ro rn rc, e = .returned (.slice ro rn rc) ∧ Hid (Made w w' ro rn rc (xs ++ uenc v)) := by
  have HR : Hid (Row w ao xs) := hr
  have HN : Hid (n = xs.length) := hn
  clear hr hn
  go_enter Try.func7, Try.ntmps7
  go_wp2_with fail
  refine (groups_any v w hv).mono ?_
  rintro e w1 ⟨go, gn, gc, rfl, h1⟩
  have HM1 : Hid (Made w w1 go gn gc (uenc v)) := h1
  have hgn : gn ≤ 11 := by have := h1.out.1; have := uenc_length v; omega
  clear h1
  go_wp2_with fail
  refine (joined_any n gn c gc ao go xs (uenc v) w1 HN.out HM1.out.1 (by omega) (HR.out.keep HM1.out.2.2.2.2) HM1.out.2.2.1).mono ?_
  rintro e w2 ⟨jo, jc, rfl, h2⟩
  have HM2 : Hid (Made w w2 jo (n + gn) jc (xs ++ uenc v)) := ⟨h2.out.1, h2.out.2.1, h2.out.2.2.1, h2.out.2.2.2.1.lower HM1.out.2.2.2.2.size, HM1.out.2.2.2.2.trans (h2.out.2.2.2.2.mono HM1.out.2.2.2.2.size)⟩
  clear h2 HM1
  go_wp2
  go_ret
  exact ⟨jo, _, jc, rfl, HM2⟩

theorem andnot128 (x : Nat) (h : x < 256) : bits BinOp.andNot IntKind.u8 (x : Int) 128 = ((x % 128 : Nat) : Int) := by
  have := u8_andNot_nat x 128 h (by decide)
  rw [show 255 - 128 = 127 by rfl, nat_mask7] at this
  exact this
theorem hide9 {p : Prop} (h : p) : Hid p := h
theorem pow128 (k : Nat) : (2 : Nat) ^ (7 * k) = 128 ^ k := by rw [Nat.pow_mul]
theorem or_nat (acc y k : Nat) (hacc : acc < 128 ^ k) (h1 : acc < 18446744073709551616) (h2 : y * 128 ^ k < 18446744073709551616) : bits BinOp.or IntKind.u64 (acc : Int) ((y * 128 ^ k : Nat) : Int) = ((acc + y * 128 ^ k : Nat) : Int) := by
  rw [u64_or_nat _ _ h1 h2, Nat.or_comm, nat_join (7 * k) _ _ (by rw [pow128]; exact Nat.mul_mod_left _ _) (by rw [pow128]; exact hacc), Nat.add_comm]
theorem shift_lt (x k : Nat) (hk : k ≤ 8) : x % 128 * 128 ^ k < 18446744073709551616 := by
  have h4 : x % 128 ≤ 127 := by omega
  have h5 : x % 128 * 128 ^ k ≤ 127 * 128 ^ k := Nat.mul_le_mul_right _ h4
  have h6 : 128 ^ k ≤ 128 ^ 8 := Nat.pow_le_pow_right (by decide) hk
  have h7 : (128 : Nat) ^ 8 = 72057594037927936 := by decide
  omega
theorem acc_lt {acc k : Nat} (hacc : acc < 128 ^ k) (hk : k ≤ 9) : acc < 18446744073709551616 := by
  have h6 : 128 ^ k ≤ 128 ^ 9 := Nat.pow_le_pow_right (by decide) hk
  have h7 : (128 : Nat) ^ 9 = 9223372036854775808 := by decide
  omega
theorem or_shift (acc x k : Nat) (hacc : acc < 128 ^ k) (hk : k ≤ 8) : bits BinOp.or IntKind.u64 (acc : Int) (IntKind.u64.wrap ((x : Int) % 128 * 2 ^ (7 * k))) = ((acc + x % 128 * 128 ^ k : Nat) : Int) := by
  have e : ((x : Int) % 128 * 2 ^ (7 * k)) = ((x % 128 * 128 ^ k : Nat) : Int) := by rw [← pow128]; simp
  have h := shift_lt x k hk
  rw [e, IntKind.wrap_u64, show ((x % 128 * 128 ^ k : Nat) : Int) % 18446744073709551616 = ((x % 128 * 128 ^ k : Nat) : Int) from by omega]
  exact or_nat acc (x % 128) k hacc (acc_lt hacc (by omega)) h
theorem or_shift9 (acc x : Nat) (hacc : acc < 128 ^ 9) (hx : x ≤ 1) : bits BinOp.or IntKind.u64 (acc : Int) ((x : Int) % 128 * 9223372036854775808) = ((acc + x % 128 * 128 ^ 9 : Nat) : Int) := by
  have h7 : (128 : Nat) ^ 9 = 9223372036854775808 := by decide
  have e : ((x : Int) % 128 * 9223372036854775808) = ((x % 128 * 128 ^ 9 : Nat) : Int) := by rw [h7]; omega
  rw [e]
  exact or_nat acc (x % 128) 9 hacc (acc_lt hacc (by decide)) (by omega)
/-- The state of the reading ahead of byte k. -/
def ReadAt (xs : List Nat) (k acc : Nat) : Prop := k ≤ 9 ∧ acc < 128 ^ k ∧ uread xs = udec (xs.drop k) k acc
set_option maxHeartbeats 1600000 in
set_option maxRecDepth 100000 in
theorem uint_any (n cap : Nat) (ao : Option Addr) (xs : List Nat) (w : World) (hn : n = xs.length) (hl : n ≤ 140737488351232) (hx : ∀ x ∈ xs, x < 256) (hr : Row w ao xs) :
    Calls Try.prog 10 #[.slice ao n cap] w fun e w' => e = .returned (.tuple #[.int .u64 (((uread xs).1 : Nat) : Int), .int .i64 (((uread xs).2.1 : Nat) : Int), .int .i64 (((uread xs).2.2 : Nat) : Int)]) ∧ w' = w := by
  have HX : Hid (∀ x ∈ xs, x < 256) := hx
  have HR : Hid (Row w ao xs) := hr
  have HN : Hid (n = xs.length) := hn
  obtain ⟨rv, rk, re, hu⟩ : ∃ rv rk re, uread xs = (rv, rk, re) := ⟨_, _, _, rfl⟩
  rw [hu]
  have HU : Hid (uread xs = (rv, rk, re)) := hu
  clear hx hr hn hu
  go_enter Try.func10, Try.ntmps10
  go_wp2
  go_loop [5, 10] (fun v i => ∃ k acc : Nat, k ≤ n ∧ i = .int .i64 k ∧ v = .int .u64 (acc : Int) ∧ Hid (ReadAt xs k acc)) (fun _ i => n - (intOf i).toNat)
  case atStart => exact ⟨0, 0, Nat.zero_le _, rfl, rfl, by decide, by decide, rfl⟩
  case round =>
    obtain ⟨k, acc, hk, rfl, rfl, HK⟩ := hrel
    by_cases hlt : k < n
    · obtain ⟨b, off, hao⟩ := HR.out.form (by have := HN.out; omega)
      have hc : w.cell? ⟨b, off + k, none⟩ = some (.int .u8 ((xs.getD k 0 : Nat) : Int)) := by
        have h := HR.out
        rw [hao] at h
        exact h.cell k (by have := HN.out; omega)
      have hxk := lt_get HX.out k
      have HS : Hid (uread xs = udec (xs.getD k 0 :: xs.drop (k + 1)) k acc) := by
        show _ = _
        have hkl : k < xs.length := by have := HN.out; omega
        rw [HK.out.2.2, List.drop_eq_getElem_cons hkl]
        simp [List.getD, hkl]
      generalize xs.getD k 0 = x at *
      have han := andnot128 x hxk
      have hk9 := HK.out.1
      by_cases hbad9 : k = 9 ∧ 1 < x
      · have HE : Hid (rv = 0 ∧ rk = 0 ∧ re = 11) := by
          show _ ∧ _
          have h := HS.out
          rw [HU.out] at h
          simp only [udec, if_pos hbad9, Prod.mk.injEq] at h
          exact h
        obtain ⟨rfl, hx1⟩ := hbad9
        go_wp2
        go_ret3
        exact ⟨by rw [HE.out.1, HE.out.2.1, HE.out.2.2]; rfl, rfl⟩
      · by_cases hbad0 : 0 < k ∧ x = 0
        · have HE : Hid (rv = 0 ∧ rk = 0 ∧ re = 10) := by
            show _ ∧ _
            have h := HS.out
            rw [HU.out] at h
            simp only [udec, if_neg hbad9, if_pos hbad0, Prod.mk.injEq] at h
            exact h
          obtain ⟨hk0, rfl⟩ := hbad0
          have hx1 : ¬ (1 : Int) < ((0 : Nat) : Int) := by decide
          go_wp2
          all_goals go_ret3
          all_goals exact ⟨by rw [HE.out.1, HE.out.2.1, HE.out.2.2]; rfl, rfl⟩
        · have hmeet : k ≠ 9 ∨ x = 1 := by
            by_cases h9 : k = 9
            · right
              have h1 : ¬ 1 < x := fun h => hbad9 ⟨h9, h⟩
              have h0 : ¬ x = 0 := fun h => hbad0 ⟨by omega, h⟩
              omega
            · exact .inl h9
          have hzero : 0 < k → ((x : Int) == 0) = false := fun h => by rw [beq_eq_false_iff_ne]; intro e; exact hbad0 ⟨h, by omega⟩
          by_cases hlow : x < 128
          · have HE : Hid (rv = acc + x % 128 * 128 ^ k ∧ rk = k + 1 ∧ re = 0) := by
              show _ ∧ _
              have h := HS.out
              rw [HU.out] at h
              simp only [udec, if_neg hbad9, if_neg hbad0, if_pos hlow, Prod.mk.injEq] at h
              exact h
            rcases Nat.eq_or_lt_of_le hk9 with h9 | h9
            · subst h9
              obtain rfl : x = 1 := by rcases hmeet with h | h; · exact absurd rfl h
                                       · exact h
              have HO := hide9 (or_shift9 acc 1 HK.out.2.1 (by decide))
              clear HK HS hbad9 hbad0 hmeet hzero
              go_wp2
              go_ret3
              exact ⟨by rw [HE.out.1, HE.out.2.1, HE.out.2.2, ← HO.out]; rfl, rfl⟩
            · have HO := hide9 (or_shift acc x k HK.out.2.1 (by omega))
              clear HK HS hbad9 hbad0 hmeet
              by_cases hk0 : 0 < k
              · have hz := hzero hk0
                clear hzero
                go_wp2
                go_ret3
                exact ⟨by rw [HE.out.1, HE.out.2.1, HE.out.2.2, ← HO.out]; rfl, rfl⟩
              · clear hzero
                go_wp2
                go_ret3
                exact ⟨by rw [HE.out.1, HE.out.2.1, HE.out.2.2, ← HO.out]; rfl, rfl⟩
          · have h9 : k < 9 := by rcases hmeet with h | h <;> omega
            have HO := hide9 (or_shift acc x k HK.out.2.1 (by omega))
            have HN2 : Hid (ReadAt xs (k + 1) (acc + x % 128 * 128 ^ k)) := by
              refine ⟨by omega, ?_, ?_⟩
              · have h4 : x % 128 ≤ 127 := by omega
                have h5 : x % 128 * 128 ^ k ≤ 127 * 128 ^ k := Nat.mul_le_mul_right _ h4
                have := HK.out.2.1
                rw [Nat.pow_succ]
                omega
              · have h := HS.out
                simp only [udec, if_neg hbad9, if_neg hbad0, if_neg hlow] at h
                exact h
            clear HK HS hbad9 hbad0 hmeet
            by_cases hk0 : 0 < k
            · have hz := hzero hk0
              clear hzero
              go_wp2
              go_round
              case rel => exact ⟨_, _, _, _, _, _, _, ⟨k + 1, by omega, by go_num, acc + x % 128 * 128 ^ k, by rw [← HO.out], HN2⟩, rfl, rfl, rfl, rfl, rfl, rfl, rfl⟩
              case measure => simp [intOf]; omega
            · clear hzero
              go_wp2
              go_round
              case rel => exact ⟨_, _, _, _, _, _, _, ⟨k + 1, by omega, by go_num, acc + x % 128 * 128 ^ k, by rw [← HO.out], HN2⟩, rfl, rfl, rfl, rfl, rfl, rfl, rfl⟩
              case measure => simp [intOf]; omega
    · have HE : Hid (rv = 0 ∧ rk = 0 ∧ re = 3) := by
        show _ ∧ _
        have h := HK.out.2.2
        rw [List.drop_eq_nil_of_le (by have := HN.out; omega), HU.out] at h
        simp only [udec, Prod.mk.injEq] at h
        exact h
      go_wp2
      go_ret3
      exact ⟨by rw [HE.out.1, HE.out.2.1, HE.out.2.2]; rfl, rfl⟩
end Go.Proofs.Ytmgppjfohabdmaa
