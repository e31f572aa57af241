/- The contracts of frame.appendUint, frame.PutUint: every number behind every row of bytes. -/
import Derived.Test.YtmgppjfohabdmabDoorBlk
import Derived.Test.YtmgppjfohabdmabDoorRef1
import Derived.Test.YtmgppjfohabdmabDoorNumMath
namespace Go.Proofs.YtmgppjfohabdmabDoor
open Go.RowKit

theorem or128 (a : Nat) (ha : a < 256) : bits BinOp.or IntKind.u8 (a : Int) 128 = ((a % 128 + 128 : Nat) : Int) := by
  have h := u8_or_nat a 128 ha (by decide)
  have e : a ||| 128 = a % 128 + 128 := by
    rw [show a ||| 128 = a % 128 ||| 128 from by
      apply Nat.eq_of_testBit_eq
      intro i
      rw [Nat.testBit_or, Nat.testBit_or, show (128 : Nat) = 2 ^ 7 by rfl, Nat.testBit_mod_two_pow, Nat.testBit_two_pow]
      by_cases h7 : 7 = i
      · simp [h7]
      · by_cases hi : i < 7
        · simp [hi]
        · have : a.testBit i = false := Nat.testBit_lt_two_pow (Nat.lt_of_lt_of_le ha (Nat.pow_le_pow_right (n := 2) (by decide) (show 8 ≤ i by omega)))
          simp [this]]
    rw [Nat.or_comm, nat_join 7 _ _ (by decide) (by omega), Nat.add_comm]
  rw [e] at h
  exact h

set_option maxHeartbeats 400000 in
set_option maxRecDepth 100000 in
theorem appendUint_any (v : Nat) (B n c : Nat) (ao : Option Addr) (xs : List Nat) (w : World) (hv : v < 18446744073709551616) (hn : n = xs.length) (hl : n ≤ 140737488355328 - 20) (hB : B ≤ w.heap.size) (ho : Own w B (.slice ao n c) xs) :
    Calls Tryd.prog 31 #[.slice ao n c, .int .u64 (v : Int)] w fun e w' => ∃ r, e = .returned r ∧ Hid (Own w' B r (xs ++ uenc v) ∧ Below B w w') := by
  have HO : Hid (Own w B (.slice ao n c) xs) := ho
  have HN : Hid (n = xs.length) := hn
  clear ho hn
  go_enter Tryd.func31, Tryd.ntmps31
  go_wp2
  go_loopw [0, 1] (fun b u wr => ∃ (f q : Nat) (acc : List Nat), u = .int .u64 (q : Int) ∧ Hid (q < 128 ^ f ∧ f ≤ 10 ∧ 1 ≤ f ∧ acc.length + f ≤ 10 ∧ acc ++ uencF f q = uenc v ∧ Own wr B b (xs ++ acc) ∧ Below B w wr ∧ q < 18446744073709551616)) (fun _ u _ => (intOf u).toNat)
  case atStart => exact ⟨10, v, [], rfl, Nat.lt_of_lt_of_le hv (by decide), by decide, by decide, by decide, rfl, by rw [List.append_nil]; exact HO.out, Below.refl _ _, hv⟩
  case round =>
    obtain ⟨f, q, acc, rfl, HR⟩ := hrel
    have hq : q < 18446744073709551616 := HR.out.2.2.2.2.2.2.2
    have hsz := HR.out.2.2.2.2.2.2.1.size
    have hxl := HN.out
    by_cases hlt : q < 128
    · have HE : Hid (xs ++ acc ++ [q] = xs ++ uenc v) := by
        show _ = _
        rw [← HR.out.2.2.2.2.1, uencF_small _ _ hlt, List.append_assoc]
      go_wp2_with (first | (at_builtin; refine wpList_append_bytes rfl _ _ rfl B _ (xs ++ acc) rfl (HR.out.2.2.2.2.2.1.alloc _) (some ⟨wr.heap.size, 0, none⟩) 1 1 [q] rfl rfl (row_one _ _) ?hs1 ?hs2 ?_) | fail)
      case hs1 => have := HR.out.2.2.2.1; simp; omega
      case hs2 => simp; omega
      rintro v2 w2 hown2 hgr2
      have HO2 : Hid (Own w2 B v2 (xs ++ uenc v) ∧ Below B w w2) := ⟨by rw [← HE.out]; first | exact hown2 | (rw [List.append_assoc]; exact hown2), (HR.out.2.2.2.2.2.2.1.alloc (by omega) _).grown hgr2 (by simp; omega) HR.out.2.2.2.2.2.1.ge⟩
      clear hown2 hgr2 HR
      go_wp2
      go_ret
      exact ⟨_, rfl, HO2⟩
    · obtain ⟨b, hb0⟩ : ∃ b, b = q % 128 + 128 := ⟨_, rfl⟩
      have hor : bits BinOp.or IntKind.u8 ((q : Int) % 256) 128 = (b : Int) := by
        have := or128 (q % 256) (by omega)
        rw [show (q % 256) % 128 = q % 128 by omega, ← hb0] at this
        rw [← this]; rfl
      have HB0 : Hid (b = q % 128 + 128) := hb0
      have hb256 : (b : Int) < 256 := by omega
      have HE : Hid (∃ f', f = f' + 1 ∧ 1 ≤ f' ∧ q / 128 < 128 ^ f' ∧ (acc ++ [b]) ++ uencF f' (q / 128) = uenc v) := by
        obtain ⟨f', rfl⟩ : ∃ f', f = f' + 1 := ⟨f - 1, by have := HR.out.2.2.1; omega⟩
        refine ⟨f', rfl, ?_, ?_, ?_⟩
        · rcases Nat.eq_zero_or_pos f' with h | h
          · subst h; have := HR.out.1; simp at this; omega
          · exact h
        · rw [Nat.div_lt_iff_lt_mul (by decide)]; exact HR.out.1
        · rw [← HR.out.2.2.2.2.1, uencF_step _ _ hlt, ← hb0]; simp
      clear hb0
      have hge : (128 : Int) ≤ (q : Int) := by omega
      go_wp2_with (first | (at_builtin; refine wpList_append_bytes rfl _ _ rfl B _ (xs ++ acc) rfl (HR.out.2.2.2.2.2.1.alloc _) (some ⟨wr.heap.size, 0, none⟩) 1 1 [b] rfl rfl (row_one _ _) ?hs3 ?hs4 ?_) | fail)
      case hs3 => have := HR.out.2.2.2.1; simp; omega
      case hs4 => simp; omega
      rintro v2 w2 hown2 hgr2
      obtain ⟨f', hf, h1, h2, h3⟩ := HE.out
      have HO2 : Hid (q / 128 < 128 ^ f' ∧ f' ≤ 10 ∧ 1 ≤ f' ∧ (acc ++ [b]).length + f' ≤ 10 ∧ (acc ++ [b]) ++ uencF f' (q / 128) = uenc v ∧ Own w2 B v2 (xs ++ (acc ++ [b])) ∧ Below B w w2 ∧ q / 128 < 18446744073709551616) :=
        ⟨h2, by have := HR.out.2.1; omega, h1, by have := HR.out.2.2.2.1; simp; omega, h3, by first | exact hown2 | (rw [← List.append_assoc]; exact hown2), (HR.out.2.2.2.2.2.2.1.alloc (by omega) _).grown hgr2 (by simp; omega) HR.out.2.2.2.2.2.1.ge, by omega⟩
      clear hown2 hgr2 HR hf h1 h2 h3 HE
      go_wp2
      go_roundw
      case rel => exact ⟨f', q / 128, acc ++ [b], by go_num, HO2⟩
      case measure => simp [intOf]; omega

set_option maxRecDepth 100000 in
theorem putUint_any (v : Nat) (n c : Nat) (ao : Option Addr) (xs : List Nat) (w : World) (hv : v < 18446744073709551616) (hn : n = xs.length) (hl : n ≤ 140737488351232) (hr : Row w ao xs) :
    Calls Tryd.prog 20 #[.slice ao n c, .int .u64 (v : Int)] w fun e w' => ∃ ro rn rc, e = .returned (.slice ro rn rc) ∧ Hid (Made w w' ro rn rc (xs ++ uenc v)) := by
  have HR : Hid (Row w ao xs) := hr
  have HN : Hid (n = xs.length) := hn
  clear hr hn
  go_enter Tryd.func20, Tryd.ntmps20
  go_wp2_with fail
  refine (copyWithRoom_n n c 10 10 rfl ao xs w HN.out hl (by decide) HR.out).mono ?_
  rintro e w1 ⟨rfl, h1⟩
  have HO1 : Hid (Own w1 w.heap.size (.slice (some ⟨w.heap.size, 0, none⟩) n (n + 10)) xs) := h1.out.1.own HN.out (by simp) (Nat.le_refl _) (by unfold maxLen; omega)
  have HL1 : Hid (Below w.heap.size w w1) := h1.out.2
  clear h1
  go_wp2_with fail
  refine (appendUint_any v w.heap.size n (n + 10) _ xs w1 hv HN.out (by omega) HL1.out.size HO1.out).mono ?_
  rintro e w2 ⟨r, rfl, h2⟩
  obtain ⟨ro, rc, hrr, hmd⟩ := made_of (w := w) h2.out.1 (HL1.out.trans h2.out.2)
  have HM : Hid (Made w w2 ro (xs ++ uenc v).length rc (xs ++ uenc v)) := hmd
  clear hmd h2
  subst hrr
  generalize (xs ++ uenc v).length = rn at *
  go_wp2
  go_ret
  exact ⟨ro, rn, rc, rfl, HM⟩
end Go.Proofs.YtmgppjfohabdmabDoor
