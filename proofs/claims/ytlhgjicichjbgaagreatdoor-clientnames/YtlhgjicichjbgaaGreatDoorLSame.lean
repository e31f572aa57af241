/- The contract of digest.Same: for every two rows of bytes. -/
import Derived.Test.YtlhgjicichjbgaaGreatDoorRowsS
import Derived.BigQuiet
namespace Go.Proofs.YtlhgjicichjbgaaGreatDoor
open Go.RowKit

theorem x8 (a b : Nat) (ha : a < 256) (hb : b < 256) : bits BinOp.xor IntKind.u8 (a : Int) (b : Int) = ((a ^^^ b : Nat) : Int) := u8_xor_nat a b ha hb
theorem xor8_lt {a b : Nat} (ha : a < 256) (hb : b < 256) : a ^^^ b < 256 := Nat.xor_lt_two_pow (n := 8) ha hb
theorem xor_zero_iff (x y : Nat) : x ^^^ y = 0 ↔ x = y := by
  constructor
  · intro h
    have e : x ^^^ y ^^^ y = x := by rw [Nat.xor_assoc, Nat.xor_self, Nat.xor_zero]
    rw [h, Nat.zero_xor] at e
    exact e.symm
  · rintro rfl; exact Nat.xor_self x
theorem lists_eq {xs ys : List Nat} (hl : xs.length = ys.length) : (∀ j, j < xs.length → xs.getD j 0 = ys.getD j 0) ↔ xs = ys := by
  constructor
  · intro h
    apply List.ext_getElem hl
    intro i h1 h2
    have := h i h1
    simpa [List.getD, h1, h2] using this
  · rintro rfl j _; rfl
set_option maxHeartbeats 1000000 in
set_option maxRecDepth 100000 in
theorem dsame_any (n m c d : Nat) (ao bo : Option Addr) (xs ys : List Nat) (w : World) (hn : n = xs.length) (hm : m = ys.length) (hl : n ≤ 140737488355328) (hx : Row w ao xs) (hy : Row w bo ys) (bx : ∀ x ∈ xs, x < 256) (byy : ∀ y ∈ ys, y < 256) :
    Calls Tryz.prog 107 #[.slice ao n c, .slice bo m d] w fun e w' => e = .returned (.bool (decide (xs = ys))) ∧ ∃ k, w' = w.drewN k := by
  have HN : Hid (n = xs.length) := hn
  have HM : Hid (m = ys.length) := hm
  have HX : Hid (Row w ao xs) := hx
  have HY : Hid (Row w bo ys) := hy
  have HBX : Hid (∀ x ∈ xs, x < 256) := bx
  have HBY : Hid (∀ x ∈ ys, x < 256) := byy
  by_cases hne : n = m
  · subst hne
    clear hx hy bx byy hn hm
    go_enter Tryz.func107, Tryz.ntmps107
    go_wp2
    go_loopw [5, 14] (fun v i wr => ∃ k x : Nat, k ≤ n ∧ x < 256 ∧ i = .int .i64 (k : Int) ∧ v = .int .u8 (x : Int) ∧ Hid (x = 0 ↔ ∀ j, j < k → xs.getD j 0 = ys.getD j 0) ∧ ∃ q, wr = w.drewN q) (fun _ i _ => n - (intOf i).toNat)
    case atStart => exact ⟨0, 0, Nat.zero_le _, by decide, rfl, rfl, ⟨fun _ j hj => by omega, fun _ => rfl⟩, 0, rfl⟩
    case round =>
      obtain ⟨k, x, hk, hx256, rfl, rfl, HQ, q, rfl⟩ := hrel
      by_cases hlt : k < n
      · obtain ⟨b, off, rfl⟩ := HX.out.form (by rw [← HN.out]; omega)
        obtain ⟨b', off', rfl⟩ := HY.out.form (by rw [← HM.out]; omega)
        have c0 : w.cell? ⟨b, off + k, none⟩ = some (.int .u8 ((xs.getD k 0 : Nat) : Int)) := HX.out.cell k (by rw [← HN.out]; exact hlt)
        have c1 : w.cell? ⟨b', off' + k, none⟩ = some (.int .u8 ((ys.getD k 0 : Nat) : Int)) := HY.out.cell k (by rw [← HM.out]; exact hlt)
        have h1 := lt_get HBX.out k
        have h2 := lt_get HBY.out k
        have HQN : Hid (x ||| (xs.getD k 0 ^^^ ys.getD k 0) = 0 ↔ ∀ j, j < k + 1 → xs.getD j 0 = ys.getD j 0) := by
          show _ ↔ _
          rw [Nat.or_eq_zero_iff, xor_zero_iff, HQ.out]
          constructor
          · rintro ⟨ha, hb⟩ j hj
            by_cases hjk : j < k
            · exact ha j hjk
            · rw [show j = k by omega]; exact hb
          · intro h
            exact ⟨fun j hj => h j (by omega), h k (by omega)⟩
        generalize xs.getD k 0 = p at *
        generalize ys.getD k 0 = r at *
        have hxo := x8 p r h1 h2
        have hor := u8_or_nat x (p ^^^ r) hx256 (xor8_lt h1 h2)
        have hlo : x ||| (p ^^^ r) < 256 := Nat.or_lt_two_pow (n := 8) hx256 (xor8_lt h1 h2)
        have li : (k : Int) < (n : Int) := by omega
        generalize p ^^^ r = y at *
        generalize x ||| y = z at *
        go_wp2
        go_quiet (fail)
        go_wp2
        go_roundw
        case rel => exact ⟨k + 1, z, by omega, hlo, by go_num, by rfl, HQN, q + nq, by simp [World.drewN]⟩
        case measure => simp [intOf]; omega
      · obtain rfl : k = n := by omega
        have HE : Hid (x = 0 ↔ xs = ys) := by
          show _ ↔ _
          rw [HQ.out, HN.out]
          exact lists_eq (by rw [← HN.out, ← HM.out])
        by_cases hx0 : x = 0
        · have e : decide (xs = ys) = true := decide_eq_true (HE.out.1 hx0)
          have HE2 : Hid (decide (xs = ys) = true) := e
          subst hx0
          clear e
          go_wp2
          go_ret
          exact ⟨by rw [HE2.out]; rfl, q, rfl⟩
        · have HE2 : Hid (decide (xs = ys) = false) := decide_eq_false (fun h => hx0 (HE.out.2 h))
          have hxi : ((x : Int) == 0) = false := by rw [beq_eq_false_iff_ne]; omega
          go_wp2
          go_ret
          exact ⟨by rw [HE2.out]; rfl, q, rfl⟩
  · have e : decide (xs = ys) = false := decide_eq_false (fun h => hne (by rw [hn, hm, h]))
    rw [e]
    have hni : ((n : Int) == (m : Int)) = false := by rw [beq_eq_false_iff_ne]; omega
    have hnj : ((n : Int) != (m : Int)) = true := by rw [bne_iff_ne]; omega
    clear hx hy bx byy hn hm
    go_enter Tryz.func107, Tryz.ntmps107
    go_wp2
    go_ret
    exact ⟨rfl, 0, rfl⟩
end Go.Proofs.YtlhgjicichjbgaaGreatDoor
