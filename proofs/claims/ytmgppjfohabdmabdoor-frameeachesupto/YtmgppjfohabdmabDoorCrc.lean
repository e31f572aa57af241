/- The contract of frame.CrcOn and of the reference's: for every register and every row of bytes the sum is crcOn of the plain mathematics; the table's sixteen cells are a condition. -/
import Derived.Test.YtmgppjfohabdmabDoorProg
import Derived.Test.YtmgppjfohabdmabDoorRows1
import Derived.WalkKit
import Derived.WalkSpells
import Derived.WalkLawsBesides
import Derived.Handy
import Derived.Laws.BitsAllLaws
namespace Go.Proofs.YtmgppjfohabdmabDoor
open Go.RowKit

def Tab (w : World) : Prop := ∀ j : Nat, j < 16 → w.cell? ⟨0, j, none⟩ = some (.int .u32 ((tab.getD j 0 : Nat) : Int))

theorem not32 (c : Nat) (hc : c < 4294967296) : bits BinOp.xor IntKind.u32 IntKind.u32.max (c : Int) = ((4294967295 - c : Nat) : Int) := by
  rw [show IntKind.u32.max = ((4294967295 : Nat) : Int) from by decide, u32_xor_nat _ _ (by omega) hc]
  congr 1
  apply Nat.eq_of_testBit_eq
  intro i
  rw [Nat.testBit_xor, show 4294967295 - c = 2 ^ 32 - (c + 1) by omega, Nat.testBit_two_pow_sub_succ hc, show 4294967295 = 2 ^ 32 - 1 by rfl, Nat.testBit_two_pow_sub_one]
  by_cases h : i < 32
  · simp [h]
  · have : c.testBit i = false := Nat.testBit_lt_two_pow (Nat.lt_of_lt_of_le hc (Nat.pow_le_pow_right (n := 2) (by decide) (show 32 ≤ i by omega)))
    simp [h, this]

theorem xor32 (a b : Nat) (ha : a < 4294967296) (hb : b < 4294967296) : bits BinOp.xor IntKind.u32 (a : Int) (b : Int) = ((a ^^^ b : Nat) : Int) := u32_xor_nat a b ha hb
theorem tab_lt : ∀ j, j < 16 → tab.getD j 0 < 4294967296 := by decide
theorem half_facts {w : World} (hT : Tab w) (y : Nat) (hy : y < 4294967296) : ∃ j t z : Nat, j < 16 ∧ bits BinOp.and IntKind.u32 (y : Int) 15 = (j : Int) ∧ w.cell? ⟨0, j, none⟩ = some (.int .u32 (t : Int)) ∧
    bits BinOp.xor IntKind.u32 ((y : Int) / 16) (t : Int) = (z : Int) ∧ z = bit4 y := by
  have hj : y % 16 < 16 := Nat.mod_lt _ (by decide)
  refine ⟨y % 16, tab.getD (y % 16) 0, bit4 y, hj, ?_, hT _ hj, ?_, rfl⟩
  · have := u32_and_nat y 15 hy (by decide)
    rw [nat_mask4] at this
    exact this
  · rw [show ((y : Int) / 16) = ((y / 16 : Nat) : Int) from by omega, xor32 _ _ (by omega) (tab_lt _ hj), bit4_eq]

set_option maxHeartbeats 400000 in
theorem crcOn_any (c cap : Nat) (ao : Option Addr) (xs : List Nat) (w : World) (hc : c < 4294967296) (hl : xs.length ≤ 140737488351232) (hx : ∀ x ∈ xs, x < 256) (hr : Row w ao xs) (hT : Tab w) :
    Calls Tryd.prog 38 #[.int .u32 (c : Int), .slice ao xs.length cap] w fun e w' => e = .returned (.int .u32 ((crcOn c xs : Nat) : Int)) ∧ w' = w := by
  have HX : Hid (∀ x ∈ xs, x < 256) := hx
  have HT : Hid (Tab w) := hT
  have HR : Hid (Row w ao xs) := hr
  clear hx hT hr
  go_enter Tryd.func38, Tryd.ntmps38
  go_wp2
  go_loop [5, 12] (fun v i => ∃ k : Nat, k ≤ xs.length ∧ i = .int .i64 k ∧ v = .int .u32 ((crcReg (4294967295 - c) (xs.take k) : Nat) : Int)) (fun _ i => xs.length - (intOf i).toNat)
  case atStart => exact ⟨0, Nat.zero_le _, rfl, by rw [not32 c hc]; rfl⟩
  case round =>
    obtain ⟨k, hk, rfl, rfl⟩ := hrel
    have hr := crcReg_lt (xs.take k) (4294967295 - c) (by omega) (fun x h => HX.out x (List.mem_of_mem_take h))
    by_cases hlt : k < xs.length
    · have hxk := HX.out (xs.getD k 0) (by simp [List.getD, hlt])
      obtain ⟨b, off, hao, hcell⟩ : ∃ b off, ao = some ⟨b, off, none⟩ ∧ w.cell? ⟨b, off + k, none⟩ = some (.int .u8 ((xs.getD k 0 : Nat) : Int)) := by
        rcases HR.out with h | ⟨b, off, h, hc⟩
        · subst h; simp at hlt
        · exact ⟨b, off, h, hc k hlt⟩
      have HS : Hid (crcReg (4294967295 - c) (xs.take (k + 1)) = byteStep (crcReg (4294967295 - c) (xs.take k)) (xs.getD k 0)) := by
        show _ = _
        rw [List.take_succ_eq_append_getElem hlt, crcReg_append]
        simp [crcReg, List.getD, hlt]
      generalize crcReg (4294967295 - c) (xs.take k) = r at *
      generalize xs.getD k 0 = x at *
      have f1 := xor32 r x hr (by omega)
      have hy := xor32_lt hr (show x < 4294967296 by omega)
      obtain ⟨j, t, z, hj, f2, cj, f3, hz⟩ := half_facts HT.out (r ^^^ x) hy
      obtain ⟨j2, t2, z2, hj2, f4, cj2, f5, hz2⟩ := half_facts HT.out z (by rw [hz]; exact bit4_lt hy)
      have HZ : Hid (z2 = byteStep r x) := by show _ = _; rw [hz2, hz]; rfl
      clear hz hz2 hy
      generalize r ^^^ x = y at *
      go_wp2
      go_round
      case rel => exact ⟨k + 1, by omega, by go_num, by rw [HS.out, ← HZ.out]⟩
      case measure => simp [intOf]; omega
    · have hk' : k = xs.length := by omega
      subst hk'
      rw [List.take_length] at *
      have fn := not32 _ hr
      go_wp2
      go_ret
      exact ⟨rfl, rfl⟩

def bits1 : Nat → Nat → Nat
  | 0, r => r
  | k + 1, r => bit1 (bits1 k r)
theorem bits1_lt (k : Nat) {r : Nat} (h : r < 4294967296) : bits1 k r < 4294967296 := by
  induction k with
  | zero => exact h
  | succ k ih => exact bit1_lt ih
theorem bits1_8 (r x : Nat) : bits1 8 (r ^^^ x) = byteStep r x := rfl

set_option maxHeartbeats 400000 in
theorem refCrcOn_any (c cap : Nat) (ao : Option Addr) (xs : List Nat) (w : World) (hc : c < 4294967296) (hl : xs.length ≤ 140737488351232) (hx : ∀ x ∈ xs, x < 256) (hr : Row w ao xs) :
    Calls Tryd.prog 41 #[.int .u32 (c : Int), .slice ao xs.length cap] w fun e w' => e = .returned (.int .u32 ((crcOn c xs : Nat) : Int)) ∧ w' = w := by
  have HX : Hid (∀ x ∈ xs, x < 256) := hx
  have HR : Hid (Row w ao xs) := hr
  clear hx hr
  go_enter Tryd.func41, Tryd.ntmps41
  go_wp2
  go_loop [5, 6] (fun v i => ∃ k : Nat, k ≤ xs.length ∧ i = .int .i64 k ∧ v = .int .u32 ((crcReg (4294967295 - c) (xs.take k) : Nat) : Int)) (fun _ i => xs.length - (intOf i).toNat)
  case atStart => exact ⟨0, Nat.zero_le _, rfl, by rw [not32 c hc]; rfl⟩
  case round =>
    obtain ⟨k, hk, rfl, rfl⟩ := hrel
    have hr := crcReg_lt (xs.take k) (4294967295 - c) (by omega) (fun x h => HX.out x (List.mem_of_mem_take h))
    by_cases hlt : k < xs.length
    · have hxk := HX.out (xs.getD k 0) (by simp [List.getD, hlt])
      obtain ⟨b, off, hao, hcell⟩ : ∃ b off, ao = some ⟨b, off, none⟩ ∧ w.cell? ⟨b, off + k, none⟩ = some (.int .u8 ((xs.getD k 0 : Nat) : Int)) := by
        rcases HR.out with h | ⟨b, off, h, hc⟩
        · subst h; simp at hlt
        · exact ⟨b, off, h, hc k hlt⟩
      have HS : Hid (crcReg (4294967295 - c) (xs.take (k + 1)) = byteStep (crcReg (4294967295 - c) (xs.take k)) (xs.getD k 0)) := by
        show _ = _
        rw [List.take_succ_eq_append_getElem hlt, crcReg_append]
        simp [crcReg, List.getD, hlt]
      generalize crcReg (4294967295 - c) (xs.take k) = r at *
      generalize xs.getD k 0 = x at *
      have f1 := xor32 r x hr (by omega)
      have hy := xor32_lt hr (show x < 4294967296 by omega)
      have HZ : Hid (bits1 8 (r ^^^ x) = byteStep r x) := rfl
      generalize r ^^^ x = y at *
      go_wp2
      go_loop [5, 7, 8] (fun v i o => ∃ m : Nat, m ≤ 8 ∧ i = .int .i64 m ∧ v = .int .u32 ((bits1 m y : Nat) : Int)) (fun _ i _ => 8 - (intOf i).toNat)
      case atStart => exact ⟨0, Nat.zero_le _, rfl, rfl⟩
      case round =>
        obtain ⟨m, hm, rfl, rfl⟩ := hrel
        have hq := bits1_lt m hy
        by_cases hlm : m < 8
        · have HB : Hid (bits1 (m + 1) y = bit1 (bits1 m y)) := rfl
          generalize bits1 m y = q at *
          by_cases ho : q % 2 = 1
          · have HQ : Hid (bit1 q = (q / 2) ^^^ 3988292384) := by show _ = _; unfold bit1; rw [if_pos ho]; rfl
            have f2 : bits BinOp.xor IntKind.u32 ((q : Int) / 2) 3988292384 = ((q / 2 ^^^ 3988292384 : Nat) : Int) := by
              rw [show ((q : Int) / 2) = ((q / 2 : Nat) : Int) from by omega]; exact xor32 _ _ (by omega) (by decide)
            have ht : ((q : Int) % 2 == 1) = true := by rw [beq_iff_eq]; omega
            have HO : Hid (q % 2 = 1) := ho
            clear ho
            generalize (q / 2 ^^^ 3988292384) = q2 at *
            go_wp2
            go_round
            case rel => exact ⟨m + 1, by omega, by go_num, by rw [HB.out, HQ.out]⟩
            case measure => simp [intOf]; omega
          · have HQ : Hid (bit1 q = q / 2) := by show _ = _; unfold bit1; rw [if_neg ho]
            have ht : ((q : Int) % 2 == 1) = false := by rw [beq_eq_false_iff_ne]; omega
            clear ho
            go_wp2
            go_round
            case rel => exact ⟨m + 1, by omega, by go_num, by rw [HB.out, HQ.out]; go_num⟩
            case measure => simp [intOf]; omega
        · have hm8 : m = 8 := by omega
          subst hm8
          go_wp2
          go_round
          case rel => exact ⟨k + 1, by omega, by go_num, by rw [HS.out, ← HZ.out]⟩
          case measure => simp [intOf]; omega
    · have hk' : k = xs.length := by omega
      subst hk'
      rw [List.take_length] at *
      have fn := not32 _ hr
      go_wp2
      go_ret
      exact ⟨rfl, rfl⟩

theorem crc_any (cap : Nat) (ao : Option Addr) (xs : List Nat) (w : World) (hl : xs.length ≤ 140737488351232) (hx : ∀ x ∈ xs, x < 256) (hr : Row w ao xs) (hT : Tab w) :
    Calls Tryd.prog 28 #[.slice ao xs.length cap] w fun e w' => e = .returned (.int .u32 ((crcOn 0 xs : Nat) : Int)) ∧ w' = w := by
  have HX : Hid (∀ x ∈ xs, x < 256) := hx
  have HT : Hid (Tab w) := hT
  have HR : Hid (Row w ao xs) := hr
  clear hx hT hr
  go_enter Tryd.func28, Tryd.ntmps28
  go_wp2_with fail
  refine (crcOn_any 0 cap ao xs w (by decide) hl HX.out HR.out HT.out).mono ?_
  rintro e w' ⟨rfl, rfl⟩
  go_wp2
  go_ret
  exact ⟨rfl, rfl⟩
theorem refCrc_any (cap : Nat) (ao : Option Addr) (xs : List Nat) (w : World) (hl : xs.length ≤ 140737488351232) (hx : ∀ x ∈ xs, x < 256) (hr : Row w ao xs) :
    Calls Tryd.prog 39 #[.slice ao xs.length cap] w fun e w' => e = .returned (.int .u32 ((crcOn 0 xs : Nat) : Int)) ∧ w' = w := by
  have HX : Hid (∀ x ∈ xs, x < 256) := hx
  have HR : Hid (Row w ao xs) := hr
  clear hx hr
  go_enter Tryd.func39, Tryd.ntmps39
  go_wp2_with fail
  refine (refCrcOn_any 0 cap ao xs w (by decide) hl HX.out HR.out).mono ?_
  rintro e w' ⟨rfl, rfl⟩
  go_wp2
  go_ret
  exact ⟨rfl, rfl⟩
theorem crc_n (n cap : Nat) (ao : Option Addr) (xs : List Nat) (w : World) (hn : n = xs.length) (hl : n ≤ 140737488351232) (hx : ∀ x ∈ xs, x < 256) (hr : Row w ao xs) (hT : Tab w) :
    Calls Tryd.prog 28 #[.slice ao n cap] w fun e w' => e = .returned (.int .u32 ((crcOn 0 xs : Nat) : Int)) ∧ w' = w := by
  subst hn; exact crc_any cap ao xs w hl hx hr hT
theorem crcOn_n (c n cap : Nat) (ao : Option Addr) (xs : List Nat) (w : World) (hc : c < 4294967296) (hn : n = xs.length) (hl : n ≤ 140737488351232) (hx : ∀ x ∈ xs, x < 256) (hr : Row w ao xs) (hT : Tab w) :
    Calls Tryd.prog 38 #[.int .u32 (c : Int), .slice ao n cap] w fun e w' => e = .returned (.int .u32 ((crcOn c xs : Nat) : Int)) ∧ w' = w := by
  subst hn; exact crcOn_any c cap ao xs w hc hl hx hr hT
theorem Tab.keep {w w' : World} (h : Tab w) (hb : Below w.heap.size w w') : Tab w' := fun j hj => by
  rw [hb.cell (p := ⟨0, j, none⟩) (World.block_lt_of_cell? w _ (h j hj))]; exact h j hj
theorem Tab.drewN {w : World} (h : Tab w) (n : Nat) : Tab (w.drewN n) := h
end Go.Proofs.YtmgppjfohabdmabDoor
